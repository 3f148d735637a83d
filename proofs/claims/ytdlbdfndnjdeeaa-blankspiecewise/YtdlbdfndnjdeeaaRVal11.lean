/- The document's inner, Firm, Value and Piece. -/
import Derived.Test.YtdlbdfndnjdeeaaRInn11
namespace Go.Proofs.Ytdlbdfndnjdeeaa
open Go.RowKit

set_option maxHeartbeats 3200000 in
theorem rinner_any (v : Value) (l : List Int) (w : World) (hlen : l.length ≤ 10000) (hR : Row w v l) :
    Calls Try.prog 28 #[v] w fun e w' => ∃ v', e = .returned v' ∧ Rn w.heap.size v' (inn mk11 false false l) w' ∧ Below w.heap.size w w' := by
  obtain ⟨i0, hi, hz0, hz1, hz2⟩ := info_parts elem_info
  obtain ⟨a, cap, rfl, hc⟩ := hR
  by_cases h0 : 0 < l.length
  · obtain ⟨b, off, rfl, hcc⟩ := hc h0
    have HC := hide hcc
    have HSP := hide (rspace_in b off cap l)
    clear hc hcc
    have HNL := hide (inn_len (M := mk11) l false false)
    go_enter Try.func28, Try.ntmps28
    go_wp2
    go_loopw [3, 4, 5] (fun v3 o i wr => ∃ (k p : Nat) (out : List Int), k ≤ l.length ∧ p ≤ k ∧ o = .int .i64 (p : Int) ∧ i = .int .i64 (k : Int) ∧ Hid (Rn w.heap.size v3 out wr) ∧ Hid (out ++ inn mk11 (decide (0 < out.length)) (decide (0 < p)) (l.drop k) = inn mk11 false false l) ∧ Below w.heap.size w wr) (fun _ _ i _ => l.length - (intOf i).toNat)
    case atStart => exact ⟨0, 0, [], Nat.zero_le _, Nat.le_refl _, rfl, rfl, Rn.nil _ _, by show _ = _; rfl, Below.refl _ _⟩
    case round =>
      obtain ⟨k, p, out, hk, hp, rfl, rfl, RK, EK, hb⟩ := hrel
      have hsz := hb.size
      by_cases hlt : k < l.length
      · have hzl : (k : Int) < (l.length : Int) := by omega
        have hz0' : (0 : Int) ≤ (k : Int) := by omega
        have k1 : wr.cell? ⟨b, off + k, none⟩ = some (.int .i32 (l.getD k 0)) := (hb.cell (by exact cell_lt (unhide HC k hlt))).trans (unhide HC k hlt)
        have G1 := hide (unhide HC k hlt)
        have HS := hide (unhide HSP k wr (by omega) hlt (fun j hj => (hb.cell (by exact cell_lt (unhide HC j hj))).trans (unhide HC j hj)))
        have HD := hide (drop_at l k hlt)
        have hol := left_len (unhide EK) (unhide HNL)
        rw [unhide HD] at EK
        generalize l.getD k 0 = x at *
        cases hs : sp mk11 x (l.drop (k + 1))
        · rw [hs] at HS
          rw [inn_no hs] at EK
          obtain ⟨a4, c4, hv4⟩ := (unhide RK).shape
          obtain ⟨N, hN⟩ : ∃ N, N = out.length := ⟨_, rfl⟩
          rw [← hN] at hv4 hol EK
          subst hv4
          have HN := hide hN
          clear hN
          by_cases hpo : 0 < p ∧ 0 < N
          · have hp0 : (0 : Int) < (p : Int) := by omega
            have hN0 : (0 : Int) < (N : Int) := by omega
            rw [decide_eq_true hpo.1, decide_eq_true hpo.2, Bool.true_and, if_pos rfl] at EK
            have hm1 : N + 2 ≤ maxLen := by unfold maxLen; omega
            have hm2 : (N + 2) * 4 ≤ 140737488355328 := by omega
            have hm3 : N + 2 + 1 ≤ maxLen := by unfold maxLen; omega
            have hm4 : (N + 2 + 1) * 4 ≤ 140737488355328 := by omega
            go_wp2_with (first
              | (go_at_call 19; refine (unhide HS).mono ?_; rintro e w2 ⟨rfl, b2⟩; have hb12 := hb.trans (b2.mono hb.size); have hs2 := hb12.size; have HO2 := hide ((unhide RK).below b2))
              | (at_builtin; refine wpList_append_lies _ rfl _ _ 22 rfl w.heap.size 21 i0 _ 1 4 Try.underlying22 hi hz0 hz1 hz2 rfl (by omega) _ N _ rfl (World.ownsRow.alloc (Rn.own (unhide HN) (unhide HO2)) _) ⟨w2.heap.size, 0, none⟩ 2 2 [.int .i32 32, .int .i32 32] rfl rfl (World.news_of_block (cs := #[.int .i32 32, .int .i32 32]) (t := 21) (fr := (0, 0)) (heap_new w2 _)) (by simp [Value.oneCell']) (by omega) hm1 hm2 (by simp; omega) (w2.heap.size + 1) (by simp) ?_; intro g8 cap8 w8 hown8 hgrow8 hat8 hlt8; have hb8 := (hb12.alloc (by omega) _).trans (below_own hgrow8 (by simp; omega) (own_block (Rn.own (unhide HN) (unhide HO2)))); have hs8 := hb8.size; have k8 : w8.cell? ⟨b, off + k, none⟩ = some (.int .i32 x) := (hb8.cell (by exact cell_lt (unhide G1))).trans (unhide G1); have HO8 := hide hown8; clear hown8 hgrow8 hat8 hlt8)
              | (at_builtin; refine wpList_append_lies _ rfl _ _ 22 rfl w.heap.size 21 i0 _ 1 4 Try.underlying22 hi hz0 hz1 hz2 rfl (by omega) _ (N + 2) _ rfl (World.ownsRow.alloc (unhide HO8) _) ⟨w8.heap.size, 0, none⟩ 1 1 [.int .i32 x] rfl rfl (World.news_of_block (cs := #[.int .i32 x]) (t := 21) (fr := (0, 0)) (heap_new w8 _)) (by simp [Value.oneCell']) (by omega) hm3 hm4 (by simp; omega) (w8.heap.size + 1) (by simp) ?_; intro g9 cap9 w9 hown9 hgrow9 hat9 hlt9))
            go_roundw
            case rel =>
              refine ⟨k + 1, 0, out ++ [32, 32, x], by omega, by omega, rfl, by go_num, ?_, ?_, (hb8.alloc (by omega) _).trans (below_own hgrow9 (by simp; omega) (own_block (unhide HO8)))⟩
              · have hn := unhide HN
                show Rn _ _ _ _
                unfold Rn
                rw [List.length_append, ← hn]
                simpa using hown9
              · show _ = _
                rw [← unhide EK]
                simp
            case measure => simp [intOf]; omega
          · have hos : (decide (0 < p) && decide (0 < N)) = false := by
              rw [← Bool.decide_and]; exact decide_eq_false hpo
            rw [hos, if_neg (by decide)] at EK
            have hm1 : N + 1 ≤ maxLen := by unfold maxLen; omega
            have hm2 : (N + 1) * 4 ≤ 140737488355328 := by omega
            have HREL : Hid ((out ++ [x]) ++ inn mk11 (decide (0 < (out ++ [x]).length)) (decide (0 < 0)) (l.drop (k + 1)) = inn mk11 false false l) := by
              show _ = _
              rw [← unhide EK]
              simp
            by_cases hp0 : 0 < p
            · have hpz : (0 : Int) < (p : Int) := by omega
              have hNz : ¬ (0 : Int) < (N : Int) := by omega
              go_wp2_with (first
                | (go_at_call 19; refine (unhide HS).mono ?_; rintro e w2 ⟨rfl, b2⟩; have hb12 := hb.trans (b2.mono hb.size); have hs2 := hb12.size; have k2 : w2.cell? ⟨b, off + k, none⟩ = some (.int .i32 x) := (hb12.cell (by exact cell_lt (unhide G1))).trans (unhide G1); have HO2 := hide ((unhide RK).below b2))
                | (at_builtin; refine wpList_append_lies _ rfl _ _ 22 rfl w.heap.size 21 i0 _ 1 4 Try.underlying22 hi hz0 hz1 hz2 rfl (by omega) _ N _ rfl (World.ownsRow.alloc (Rn.own (unhide HN) (unhide HO2)) _) ⟨w2.heap.size, 0, none⟩ 1 1 [.int .i32 x] rfl rfl (World.news_of_block (cs := #[.int .i32 x]) (t := 21) (fr := (0, 0)) (heap_new w2 _)) (by simp [Value.oneCell']) (by omega) hm1 hm2 (by simp; omega) (w2.heap.size + 1) (by simp) ?_; intro g9 cap9 w9 hown9 hgrow9 hat9 hlt9))
              go_roundw
              case rel => exact ⟨k + 1, 0, out ++ [x], by omega, by omega, rfl, by go_num, Rn.push (unhide HN) hown9, HREL, (hb12.alloc (by omega) _).trans (below_own hgrow9 (by simp; omega) (own_block (Rn.own (unhide HN) (unhide HO2))))⟩
              case measure => simp [intOf]; omega
            · have hpz : ¬ (0 : Int) < (p : Int) := by omega
              go_wp2_with (first
                | (go_at_call 19; refine (unhide HS).mono ?_; rintro e w2 ⟨rfl, b2⟩; have hb12 := hb.trans (b2.mono hb.size); have hs2 := hb12.size; have k2 : w2.cell? ⟨b, off + k, none⟩ = some (.int .i32 x) := (hb12.cell (by exact cell_lt (unhide G1))).trans (unhide G1); have HO2 := hide ((unhide RK).below b2))
                | (at_builtin; refine wpList_append_lies _ rfl _ _ 22 rfl w.heap.size 21 i0 _ 1 4 Try.underlying22 hi hz0 hz1 hz2 rfl (by omega) _ N _ rfl (World.ownsRow.alloc (Rn.own (unhide HN) (unhide HO2)) _) ⟨w2.heap.size, 0, none⟩ 1 1 [.int .i32 x] rfl rfl (World.news_of_block (cs := #[.int .i32 x]) (t := 21) (fr := (0, 0)) (heap_new w2 _)) (by simp [Value.oneCell']) (by omega) hm1 hm2 (by simp; omega) (w2.heap.size + 1) (by simp) ?_; intro g9 cap9 w9 hown9 hgrow9 hat9 hlt9))
              go_roundw
              case rel => exact ⟨k + 1, 0, out ++ [x], by omega, by omega, rfl, by go_num, Rn.push (unhide HN) hown9, HREL, (hb12.alloc (by omega) _).trans (below_own hgrow9 (by simp; omega) (own_block (Rn.own (unhide HN) (unhide HO2))))⟩
              case measure => simp [intOf]; omega
        · rw [hs] at HS
          rw [inn_sp hs] at EK
          go_wp2_with (go_at_call 19; refine (unhide HS).mono ?_; rintro e w2 ⟨rfl, b2⟩)
          go_roundw
          case rel => exact ⟨k + 1, p + 1, out, by omega, by omega, by go_num, by go_num, (unhide RK).below b2, by rw [decide_eq_true (Nat.succ_pos p)]; exact EK, hb.trans (b2.mono hb.size)⟩
          case measure => simp [intOf]; omega
      · have hzl : ¬ (k : Int) < (l.length : Int) := by omega
        obtain rfl : k = l.length := by omega
        rw [List.drop_length] at EK
        have HE : Hid (out = inn mk11 false false l) := by show _ = _; rw [← unhide EK]; simp [inn]
        rw [unhide HE] at RK
        obtain ⟨a4, c4, hv4⟩ := (unhide RK).shape
        generalize (inn mk11 false false l).length = N at *
        subst hv4
        go_wp2
        go_ret
        exact ⟨_, rfl, unhide RK, hb⟩
  · obtain rfl : l = [] := List.length_eq_zero_iff.1 (by omega)
    go_enter Try.func28, Try.ntmps28
    go_wp2
    refine wp_loop_rounds 1 ?_
    rw [rounds_succ]
    go_wp2
    go_ret
    exact ⟨_, rfl, Rn.nil _ _, Below.refl _ _⟩
end Go.Proofs.Ytdlbdfndnjdeeaa
