/- The document's inner, Numeric and Phone. -/
import Derived.Test.YtdlbdfndnjdeeaaRSp11
namespace Go.Proofs.Ytdlbdfndnjdeeaa
open Go.RowKit

theorem num_len {M : Int → Bool} : ∀ l : List Int, (numL M l).length ≤ l.length
  | [] => Nat.le_refl _
  | x :: t => by
    have := num_len (M := M) t
    simp only [numL]
    split <;> simp <;> omega
theorem ph_len {M : Int → Bool} : ∀ l : List Int, (phL M l).length ≤ l.length
  | [] => Nat.le_refl _
  | x :: t => by
    have := ph_len (M := M) t
    simp only [phL]
    split <;> simp <;> omega
theorem inn_len {M : Int → Bool} : ∀ (l : List Int) (s o : Bool), (inn M s o l).length ≤ 3 * l.length
  | [], _, _ => Nat.le_refl _
  | x :: t, s, o => by
    have h1 := inn_len (M := M) t s true
    have h2 := inn_len (M := M) t true false
    simp only [inn]
    split
    · simp only [List.length_cons]; omega
    · split <;> simp only [List.length_append, List.length_cons, List.length_nil] <;> omega
theorem drop_at (l : List Int) (k : Nat) (h : k < l.length) : l.drop k = l.getD k 0 :: l.drop (k + 1) := by
  rw [List.drop_eq_getElem_cons h]
  simp [List.getD, h]
theorem left_len {A B C : List Int} {n : Nat} (h : A ++ B = C) (hC : C.length ≤ n) : A.length ≤ n := by
  have := congrArg List.length h
  rw [List.length_append] at this
  omega

set_option maxHeartbeats 1600000 in
theorem rnumeric_any (v : Value) (l : List Int) (w : World) (hlen : l.length ≤ 10000) (hR : Row w v l) :
    Calls Try.prog 13 #[v] w fun e w' => ∃ v', e = .returned v' ∧ Rn w.heap.size v' (numL mk11 l) w' ∧ Below w.heap.size w w' := by
  obtain ⟨i0, hi, hz0, hz1, hz2⟩ := info_parts elem_info
  obtain ⟨a, cap, rfl, hc⟩ := hR
  by_cases h0 : 0 < l.length
  · obtain ⟨b, off, rfl, hcc⟩ := hc h0
    have HC := hide hcc
    have HSP := hide (rspace_in b off cap l)
    clear hc hcc
    have HNL := hide (num_len (M := mk11) l)
    go_enter Try.func13, Try.ntmps13
    go_wp2
    go_loopw [3, 4] (fun v3 i wr => ∃ (k : Nat) (out : List Int), k ≤ l.length ∧ i = .int .i64 (k : Int) ∧ Hid (Rn w.heap.size v3 out wr) ∧ Hid (out ++ numL mk11 (l.drop k) = numL mk11 l) ∧ Below w.heap.size w wr) (fun _ i _ => l.length - (intOf i).toNat)
    case atStart => exact ⟨0, [], Nat.zero_le _, rfl, Rn.nil _ _, by show _ = _; rfl, Below.refl _ _⟩
    case round =>
      obtain ⟨k, out, hk, rfl, RK, EK, hb⟩ := hrel
      have hsz := hb.size
      by_cases hlt : k < l.length
      · have hzl : (k : Int) < (l.length : Int) := by omega
        have hz0' : (0 : Int) ≤ (k : Int) := by omega
        have k1 : wr.cell? ⟨b, off + k, none⟩ = some (.int .i32 (l.getD k 0)) := (hb.cell (by exact cell_lt (unhide HC k hlt))).trans (unhide HC k hlt)
        have G1 := hide (unhide HC k hlt)
        have HS := hide (unhide HSP k wr (by omega) hlt (fun j hj => (hb.cell (by exact cell_lt (unhide HC j hj))).trans (unhide HC j hj)))
        have HD := hide (drop_at l k hlt)
        have hol := left_len (unhide EK) (unhide HNL)
        rw [unhide HD] at EK
        generalize l.getD k 0 = x at *
        cases hs : sp mk11 x (l.drop (k + 1))
        · rw [hs] at HS
          rw [num_no hs] at EK
          obtain ⟨a4, c4, hv4⟩ := (unhide RK).shape
          obtain ⟨N, hN⟩ : ∃ N, N = out.length := ⟨_, rfl⟩
          rw [← hN] at hv4 hol
          subst hv4
          have HN := hide hN
          clear hN
          have hm1 : N + 1 ≤ maxLen := by unfold maxLen; omega
          have hm2 : (N + 1) * 4 ≤ 140737488355328 := by omega
          go_wp2_with (first
            | (go_at_call 19; refine (unhide HS).mono ?_; rintro e w2 ⟨rfl, b2⟩; have hb12 := hb.trans (b2.mono hb.size); have hs2 := hb12.size; have k2 : w2.cell? ⟨b, off + k, none⟩ = some (.int .i32 x) := (hb12.cell (by exact cell_lt (unhide G1))).trans (unhide G1); have HO2 := hide ((unhide RK).below b2))
            | (at_builtin; refine wpList_append_lies _ rfl _ _ 22 rfl w.heap.size 21 i0 _ 1 4 Try.underlying22 hi hz0 hz1 hz2 rfl (by omega) _ N _ rfl (World.ownsRow.alloc (Rn.own (unhide HN) (unhide HO2)) _) ⟨w2.heap.size, 0, none⟩ 1 1 [.int .i32 x] rfl rfl (World.news_of_block (cs := #[.int .i32 x]) (t := 21) (fr := (0, 0)) (heap_new w2 _)) (by simp [Value.oneCell']) (by omega) hm1 hm2 (by simp; omega) (w2.heap.size + 1) (by simp) ?_; intro g9 cap9 w9 hown9 hgrow9 hat9 hlt9))
          go_roundw
          case rel => exact ⟨k + 1, out ++ [x], by omega, by go_num, Rn.push (unhide HN) hown9, by show _ = _; rw [← unhide EK]; simp, (hb12.alloc (by omega) _).trans (below_own hgrow9 (by simp; omega) (own_block (Rn.own (unhide HN) (unhide HO2))))⟩
          case measure => simp [intOf]; omega
        · rw [hs] at HS
          rw [num_sp hs] at EK
          go_wp2_with (go_at_call 19; refine (unhide HS).mono ?_; rintro e w2 ⟨rfl, b2⟩)
          go_roundw
          case rel => exact ⟨k + 1, out, by omega, by go_num, (unhide RK).below b2, EK, hb.trans (b2.mono hb.size)⟩
          case measure => simp [intOf]; omega
      · have hzl : ¬ (k : Int) < (l.length : Int) := by omega
        obtain rfl : k = l.length := by omega
        rw [List.drop_length] at EK
        have HE : Hid (out = numL mk11 l) := by show _ = _; rw [← unhide EK]; simp [numL]
        rw [unhide HE] at RK
        obtain ⟨a4, c4, hv4⟩ := (unhide RK).shape
        generalize (numL mk11 l).length = N at *
        subst hv4
        go_wp2
        go_ret
        exact ⟨_, rfl, unhide RK, hb⟩
  · obtain rfl : l = [] := List.length_eq_zero_iff.1 (by omega)
    go_enter Try.func13, Try.ntmps13
    go_wp2
    refine wp_loop_rounds 1 ?_
    rw [rounds_succ]
    go_wp2
    go_ret
    exact ⟨_, rfl, Rn.nil _ _, Below.refl _ _⟩
set_option maxHeartbeats 1600000 in
theorem rphone_any (v : Value) (l : List Int) (w : World) (hlen : l.length ≤ 10000) (hR : Row w v l) :
    Calls Try.prog 15 #[v] w fun e w' => ∃ v', e = .returned v' ∧ Rn w.heap.size v' (phL mk11 l) w' ∧ Below w.heap.size w w' := by
  obtain ⟨i0, hi, hz0, hz1, hz2⟩ := info_parts elem_info
  obtain ⟨a, cap, rfl, hc⟩ := hR
  by_cases h0 : 0 < l.length
  · obtain ⟨b, off, rfl, hcc⟩ := hc h0
    have HC := hide hcc
    have HSP := hide (rspace_in b off cap l)
    have HHP := hide (rhyphen_in b off cap l)
    clear hc hcc
    have HNL := hide (ph_len (M := mk11) l)
    go_enter Try.func15, Try.ntmps15
    go_wp2
    go_loopw [3, 4] (fun v3 i wr => ∃ (k : Nat) (out : List Int), k ≤ l.length ∧ i = .int .i64 (k : Int) ∧ Hid (Rn w.heap.size v3 out wr) ∧ Hid (out ++ phL mk11 (l.drop k) = phL mk11 l) ∧ Below w.heap.size w wr) (fun _ i _ => l.length - (intOf i).toNat)
    case atStart => exact ⟨0, [], Nat.zero_le _, rfl, Rn.nil _ _, by show _ = _; rfl, Below.refl _ _⟩
    case round =>
      obtain ⟨k, out, hk, rfl, RK, EK, hb⟩ := hrel
      have hsz := hb.size
      by_cases hlt : k < l.length
      · have hzl : (k : Int) < (l.length : Int) := by omega
        have hz0' : (0 : Int) ≤ (k : Int) := by omega
        have k1 : wr.cell? ⟨b, off + k, none⟩ = some (.int .i32 (l.getD k 0)) := (hb.cell (by exact cell_lt (unhide HC k hlt))).trans (unhide HC k hlt)
        have G1 := hide (unhide HC k hlt)
        have HS := hide (unhide HSP k wr (by omega) hlt (fun j hj => (hb.cell (by exact cell_lt (unhide HC j hj))).trans (unhide HC j hj)))
        have HD := hide (drop_at l k hlt)
        have hol := left_len (unhide EK) (unhide HNL)
        rw [unhide HD] at EK
        obtain ⟨x, hx⟩ : ∃ x, l.getD k 0 = x := ⟨_, rfl⟩
        rw [hx] at k1 G1 HS EK
        have HX := hide hx
        clear hx HD
        have HH := hide (fun w1 (h : Below w.heap.size w w1) => unhide HHP k w1 (by omega) hlt (fun j hj => (h.cell (by exact cell_lt (unhide HC j hj))).trans (unhide HC j hj)))
        rw [unhide HX] at HH
        cases hs : sp mk11 x (l.drop (k + 1))
        · rw [hs] at HS
          cases hh : hp mk11 x (l.drop (k + 1))
          · rw [hh] at HH
            have e1 : phL mk11 (x :: l.drop (k + 1)) = x :: phL mk11 (l.drop (k + 1)) := by simp only [phL, hs, hh]; rfl
            rw [e1] at EK
            obtain ⟨a4, c4, hv4⟩ := (unhide RK).shape
            obtain ⟨N, hN⟩ : ∃ N, N = out.length := ⟨_, rfl⟩
            rw [← hN] at hv4 hol
            subst hv4
            have HN := hide hN
            clear hN
            have hm1 : N + 1 ≤ maxLen := by unfold maxLen; omega
            have hm2 : (N + 1) * 4 ≤ 140737488355328 := by omega
            go_wp2_with (first
              | (go_at_call 19; refine (unhide HS).mono ?_; rintro e w1 ⟨rfl, b1⟩; have hb1 := hb.trans (b1.mono hb.size); have HO1 := hide ((unhide RK).below b1))
              | (go_at_call 21; refine (unhide HH w1 hb1).mono ?_; rintro e w2 ⟨rfl, b2⟩; have hb12 := hb1.trans (b2.mono hb1.size); have hs2 := hb12.size; have k2 : w2.cell? ⟨b, off + k, none⟩ = some (.int .i32 x) := (hb12.cell (by exact cell_lt (unhide G1))).trans (unhide G1); have HO2 := hide ((unhide HO1).below b2))
              | (at_builtin; refine wpList_append_lies _ rfl _ _ 22 rfl w.heap.size 21 i0 _ 1 4 Try.underlying22 hi hz0 hz1 hz2 rfl (by omega) _ N _ rfl (World.ownsRow.alloc (Rn.own (unhide HN) (unhide HO2)) _) ⟨w2.heap.size, 0, none⟩ 1 1 [.int .i32 x] rfl rfl (World.news_of_block (cs := #[.int .i32 x]) (t := 21) (fr := (0, 0)) (heap_new w2 _)) (by simp [Value.oneCell']) (by omega) hm1 hm2 (by simp; omega) (w2.heap.size + 1) (by simp) ?_; intro g9 cap9 w9 hown9 hgrow9 hat9 hlt9))
            go_roundw
            case rel => exact ⟨k + 1, out ++ [x], by omega, by go_num, Rn.push (unhide HN) hown9, by show _ = _; rw [← unhide EK]; simp, (hb12.alloc (by omega) _).trans (below_own hgrow9 (by simp; omega) (own_block (Rn.own (unhide HN) (unhide HO2))))⟩
            case measure => simp [intOf]; omega
          · rw [hh] at HH
            have e1 : phL mk11 (x :: l.drop (k + 1)) = phL mk11 (l.drop (k + 1)) := by simp only [phL, hs, hh]; rfl
            rw [e1] at EK
            go_wp2_with (first
              | (go_at_call 19; refine (unhide HS).mono ?_; rintro e w1 ⟨rfl, b1⟩; have hb1 := hb.trans (b1.mono hb.size); have HO1 := hide ((unhide RK).below b1))
              | (go_at_call 21; refine (unhide HH w1 hb1).mono ?_; rintro e w2 ⟨rfl, b2⟩))
            go_roundw
            case rel => exact ⟨k + 1, out, by omega, by go_num, (unhide HO1).below b2, EK, hb1.trans (b2.mono hb1.size)⟩
            case measure => simp [intOf]; omega
        · rw [hs] at HS
          have e1 : phL mk11 (x :: l.drop (k + 1)) = phL mk11 (l.drop (k + 1)) := by simp only [phL, hs]; rfl
          rw [e1] at EK
          go_wp2_with (go_at_call 19; refine (unhide HS).mono ?_; rintro e w2 ⟨rfl, b2⟩)
          go_roundw
          case rel => exact ⟨k + 1, out, by omega, by go_num, (unhide RK).below b2, EK, hb.trans (b2.mono hb.size)⟩
          case measure => simp [intOf]; omega
      · have hzl : ¬ (k : Int) < (l.length : Int) := by omega
        obtain rfl : k = l.length := by omega
        rw [List.drop_length] at EK
        have HE : Hid (out = phL mk11 l) := by show _ = _; rw [← unhide EK]; simp [phL]
        rw [unhide HE] at RK
        obtain ⟨a4, c4, hv4⟩ := (unhide RK).shape
        generalize (phL mk11 l).length = N at *
        subst hv4
        go_wp2
        go_ret
        exact ⟨_, rfl, unhide RK, hb⟩
  · obtain rfl : l = [] := List.length_eq_zero_iff.1 (by omega)
    go_enter Try.func15, Try.ntmps15
    go_wp2
    refine wp_loop_rounds 1 ?_
    rw [rounds_succ]
    go_wp2
    go_ret
    exact ⟨_, rfl, Rn.nil _ _, Below.refl _ _⟩
end Go.Proofs.Ytdlbdfndnjdeeaa
