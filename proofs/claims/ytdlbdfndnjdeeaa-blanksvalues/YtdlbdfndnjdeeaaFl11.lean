/- The landed without: what is left out, given what the function that is handed in answers. -/
import Derived.Test.YtdlbdfndnjdeeaaWo11
namespace Go.Proofs.Ytdlbdfndnjdeeaa
open Go.RowKit

/-- All that p is not said of. -/
def flt (p : Int → List Int → Bool) : List Int → List Int
  | [] => []
  | x :: t => if p x t then flt p t else x :: flt p t
theorem flt_num (M : Int → Bool) : ∀ l, flt (sp M) l = numL M l
  | [] => rfl
  | x :: t => by simp only [flt, numL, flt_num M t]
theorem flt_ph (M : Int → Bool) : ∀ l, flt (fun x t => sp M x t || hp M x t) l = phL M l
  | [] => rfl
  | x :: t => by simp only [flt, phL, flt_ph M t]
theorem flt_len (p : Int → List Int → Bool) : ∀ l, (flt p l).length ≤ l.length
  | [] => Nat.le_refl _
  | x :: t => by
    have := flt_len p t
    simp only [flt]
    split <;> simp only [List.length_cons] <;> omega
set_option maxHeartbeats 3200000 in
theorem without_any (g : Nat) (p : Int → List Int → Bool) (a : Option Addr) (cap : Nat) (l : List Int) (w : World) (eg : ∀ args w, (callFunc g args).run Try.prog w = .ok (.enter g args) w) (hlen : l.length ≤ 20000) (hR : Row w (.slice a l.length cap) l)
    (hf : ∀ (m : Nat) (W : World), m < l.length → Below w.heap.size w W → Calls Try.prog g (#[.slice a l.length cap, .int .i64 (m : Int)] ++ #[]) W fun e w' => e = .returned (.bool (p (l.getD m 0) (l.drop (m + 1)))) ∧ Below W.heap.size W w') :
    Calls Try.prog 30 #[.slice a l.length cap, .func (.func g) #[] #[]] w fun e w' => ∃ v', e = .returned v' ∧ Rn w.heap.size v' (flt p l) w' ∧ Below w.heap.size w w' := by
  obtain ⟨i0, hi, hz0, hz1, hz2⟩ := info_parts elem_info
  have HF := hide hf
  have hml : l.length ≤ maxLen := by unfold maxLen; omega
  have HFL := hide (flt_len p l)
  clear hf
  obtain ⟨a', cap', hv, hc⟩ := hR
  cases hv
  by_cases h0 : 0 < l.length
  · obtain ⟨b, off, rfl, hcc⟩ := hc h0
    have HC := hide hcc
    clear hc hcc
    go_enter Try.func30, Try.ntmps30
    go_wp2_with (refine wpList_make_own _ rfl _ _ 22 rfl w.heap.size 21 i0 (.int .i32 0) 1 Try.underlying22 hi hz0 hz1 .i64 .i64 _ l.length rfl rfl rfl (by rw [hz2]; omega) hml (Nat.le_refl _) ?_; intro w1 hown1 hgrow1)
    have HB : Below w.heap.size w w1 := (Below.refl _ _).grown hgrow1 (Nat.le_refl _) (by intro k h; cases h)
    have HO := hide hown1
    clear hown1 hgrow1
    go_loopw [5, 13] (fun v i wr => ∃ (k : Nat) (out : List Int), k ≤ l.length ∧ i = .int .i64 (k : Int) ∧ Hid (Rn w.heap.size v out wr) ∧ Hid (out ++ flt p (l.drop k) = flt p l) ∧ Below w.heap.size w wr) (fun _ i _ => l.length - (intOf i).toNat)
    case atStart => exact ⟨0, [], Nat.zero_le _, rfl, HO, by show _ = _; rfl, HB⟩
    case round =>
      clear HO HB
      obtain ⟨k, out, hk, rfl, RK, EK, hb⟩ := hrel
      have hsz := hb.size
      by_cases hlt : k < l.length
      · have hzl : (k : Int) < (l.length : Int) := by omega
        have hz0' : (0 : Int) ≤ (k : Int) := by omega
        have k1 : wr.cell? ⟨b, off + k, none⟩ = some (.int .i32 (l.getD k 0)) := (hb.cell (by exact cell_lt (unhide HC k hlt))).trans (unhide HC k hlt)
        have HX := unhide HF k wr hlt hb
        have HD := hide (drop_at' l k hlt)
        have hol : out.length ≤ l.length := by
          have := congrArg List.length (unhide EK)
          rw [List.length_append] at this
          have := unhide HFL
          omega
        rw [unhide HD] at EK
        generalize l.getD k 0 = x at *
        cases hs : p x (l.drop (k + 1)) <;> rw [hs] at HX
        · have EK2 : Hid ((out ++ [x]) ++ flt p (l.drop (k + 1)) = flt p l) := by show _ = _; rw [← unhide EK]; simp [flt, hs]
          obtain ⟨a4, c4, hv4⟩ := (unhide RK).shape
          obtain ⟨N, hN⟩ : ∃ N, N = out.length := ⟨_, rfl⟩
          rw [← hN] at hv4 hol
          subst hv4
          have HN := hide hN
          clear hN hs EK
          have hm1 : N + 1 ≤ maxLen := by unfold maxLen; omega
          have hm2 : (N + 1) * 4 ≤ 140737488355328 := by omega
          go_wp2_with (first
            | (at_builtin; refine wpList_append_lies _ rfl _ _ 22 rfl w.heap.size 21 i0 _ 1 4 Try.underlying22 hi hz0 hz1 hz2 rfl (by omega) _ N _ rfl (World.ownsRow.alloc (Rn.own (unhide HN) (unhide HO2)) _) ⟨w2.heap.size, 0, none⟩ 1 1 [.int .i32 x] rfl rfl (World.news_of_block (cs := #[.int .i32 x]) (t := 21) (fr := (0, 0)) (heap_new w2 _)) (by simp [Value.oneCell']) (by omega) hm1 hm2 (by simp; omega) (w2.heap.size + 1) (by simp) ?_; intro g9 cap9 w9 hown9 hgrow9 hat9 hlt9)
            | (refine HX.mono ?_; rintro e w2 ⟨rfl, b2⟩; have hb12 := hb.trans (b2.mono hb.size); have hs2 := hb12.size; have HO2 := hide ((unhide RK).below b2)))
          go_roundw
          case rel => exact ⟨k + 1, out ++ [x], by omega, by go_num, Rn.push (unhide HN) hown9, EK2, (hb12.alloc (by omega) _).trans (below_own hgrow9 (by simp; omega) (own_block (Rn.own (unhide HN) (unhide HO2))))⟩
          case measure => simp [intOf]; omega
        · have EK2 : Hid (out ++ flt p (l.drop (k + 1)) = flt p l) := by show _ = _; rw [← unhide EK]; simp [flt, hs]
          clear hs EK
          go_wp2_with (refine HX.mono ?_; rintro e w2 ⟨rfl, b2⟩)
          go_roundw
          case rel => exact ⟨k + 1, out, by omega, by go_num, (unhide RK).below b2, EK2, hb.trans (b2.mono hb.size)⟩
          case measure => simp [intOf]; omega
      · have hzl : ¬ (k : Int) < (l.length : Int) := by omega
        obtain rfl : k = l.length := by omega
        rw [List.drop_length] at EK
        have HE : Hid (out = flt p l) := by show _ = _; rw [← unhide EK]; simp [flt]
        rw [unhide HE] at RK
        obtain ⟨a4, c4, hv4⟩ := (unhide RK).shape
        generalize (flt p l).length = N at *
        subst hv4
        go_wp2
        go_ret
        exact ⟨_, rfl, unhide RK, hb⟩
  · obtain rfl : l = [] := List.length_eq_zero_iff.1 (by omega)
    go_enter Try.func30, Try.ntmps30
    go_wp2_with (refine wpList_make_own _ rfl _ _ 22 rfl w.heap.size 21 i0 (.int .i32 0) 1 Try.underlying22 hi hz0 hz1 .i64 .i64 _ 0 rfl rfl rfl (by rw [hz2]; omega) (Nat.zero_le _) (Nat.le_refl _) ?_; intro w1 hown1 hgrow1)
    refine wp_loop_rounds 1 ?_
    rw [rounds_succ]
    have HB : Below w.heap.size w w1 := (Below.refl _ _).grown hgrow1 (Nat.le_refl _) (by intro k h; cases h)
    have HO := hide hown1
    clear hown1 hgrow1
    go_wp2
    go_ret
    exact ⟨_, rfl, unhide HO, HB⟩
end Go.Proofs.Ytdlbdfndnjdeeaa
