/- The landed Same of layer 18, over slices.Equal and slices.EqualFunc. -/
import Derived.Test.YtpfpaponlmfofaaDoorRSam18
namespace Go.Proofs.YtpfpaponlmfofaaDoor
set_option maxRecDepth 100000
open Go.RowKit

set_option maxHeartbeats 3200000 in
theorem equal_any (v1 v2 : Value) (r s : List Pr) (w : World) (hA : PsV w v1 r) (hB : PsV w v2 s) :
    Calls Tryd.prog 38 #[v1, v2] w fun e w' => e = .returned (.bool (eqR r s)) ∧ Gr w w' := by
  have hgd := pair_guard
  obtain ⟨a1, cap1, rfl, hn1, hc1⟩ := hA
  obtain ⟨a2, cap2, rfl, hn2, hc2⟩ := hB
  have HD1 := hide hc1
  have HD2 := hide hc2
  clear hc1 hc2
  by_cases hl : r.length ≠ s.length
  · have zl : ((r.length : Int) == (s.length : Int)) = false := by rw [beq_eq_false_iff_ne]; omega
    have HE := hide (eqR_len hl)
    generalize eqR r s = x at *
    clear HD1 HD2 hl
    generalize r.length = n at *
    generalize s.length = m at *
    go_enter Tryd.func38, Tryd.ntmps38
    go_wp2
    go_ret
    exact ⟨ret_bool (unhide HE).symm, Gr.refl _⟩
  replace hl : r.length = s.length := by omega
  rw [← hl] at HD2 ⊢
  have HLR := hide hl
  clear hl hn2
  go_enter Tryd.func38, Tryd.ntmps38
  go_wp2
  go_loopw [13] (fun i wr => ∃ k : Nat, k ≤ r.length ∧ i = .int .i64 k ∧ Hid (∀ j, j < k → eqP (r.getD j pr0) (s.getD j pr0) = true) ∧ Gr w wr) (fun i _ => r.length - (intOf i).toNat)
  case atStart => exact ⟨0, Nat.zero_le _, rfl, fun j hj => absurd hj (Nat.not_lt_zero _), Gr.refl _⟩
  case round =>
    obtain ⟨k, hk, rfl, HP, hg2⟩ := hrel
    by_cases hlt2 : k < r.length
    · have yzl : (k : Int) < (r.length : Int) := by omega
      have yz0 : (0 : Int) ≤ (k : Int) := by omega
      obtain ⟨b3, o3, rfl, hp1⟩ := unhide HD1 (by omega)
      obtain ⟨b4, o4, rfl, hp2⟩ := unhide HD2 (by omega)
      obtain ⟨p1, p2⟩ := hp1 k hlt2
      obtain ⟨q1, q2⟩ := hp2 k hlt2
      replace p1 := hg2.cell p1
      replace p2 := hg2.cell p2
      replace q1 := hg2.cell q1
      replace q2 := hg2.cell q2
      clear hp1 hp2
      have HPN : Hid (eqP (r.getD k pr0) (s.getD k pr0) = false → eqR r s = false) := fun h => eqR_no h
      have HPY : Hid (eqP (r.getD k pr0) (s.getD k pr0) = true → ∀ j, j < k + 1 → eqP (r.getD j pr0) (s.getD j pr0) = true) := fun h => same_next (p := fun j => eqP (r.getD j pr0) (s.getD j pr0)) (unhide HP) h
      have HQ : Hid (eqP (r.getD k pr0) (s.getD k pr0) = (eqT (r.getD k pr0).nam (s.getD k pr0).nam && eqT (r.getD k pr0).val (s.getD k pr0).val)) := rfl
      generalize r.getD k pr0 = x at *
      generalize s.getD k pr0 = y at *
      have hnq := fun w => neq_pair x.nam x.val y.nam y.val w
      have p1N : ∀ n, (wr.drewN n).cell? ⟨b3, o3 + k * 2, none⟩ = some (.string x.nam) := fun n => p1
      have p2N : ∀ n, (wr.drewN n).cell? ⟨b3, o3 + k * 2 + 1, none⟩ = some (.string x.val) := fun n => p2
      have q1N : ∀ n, (wr.drewN n).cell? ⟨b4, o4 + k * 2, none⟩ = some (.string y.nam) := fun n => q1
      have q2N : ∀ n, (wr.drewN n).cell? ⟨b4, o4 + k * 2 + 1, none⟩ = some (.string y.val) := fun n => q2
      cases he : eqP x y
      · have HE := hide (unhide HPN he)
        rw [← unhide HQ, he] at hnq
        clear he HQ HPN HPY
        go_wp2
        go_quiet (fail)
        go_wp2
        go_ret
        exact ⟨ret_bool (unhide HE).symm, hg2.drewN _⟩
      · have HE := hide (unhide HPY he)
        rw [← unhide HQ, he] at hnq
        clear he HQ HPN HPY
        go_wp2
        go_quiet (fail)
        go_wp2
        go_roundw
        case rel => exact ⟨k + 1, by omega, by go_num, unhide HE, hg2.drewN _⟩
        case measure => simp [intOf]; omega
    · have yzl : ¬ (k : Int) < (r.length : Int) := by omega
      obtain rfl : k = r.length := by omega
      have HE := hide (eqR_yes (unhide HLR) (unhide HP))
      go_wp2
      go_ret
      exact ⟨ret_bool (unhide HE).symm, hg2⟩
set_option maxHeartbeats 3200000 in
theorem equalf_any (v1 v2 : Value) (a b : List (List Pr)) (w : World) (hA : NmV w v1 a) (hB : NmV w v2 b) :
    Calls Tryd.prog 37 #[v1, v2, .func (.func 38) #[] #[]] w fun e w' => e = .returned (.bool (eqN a b)) ∧ Gr w w' := by
  have eg : ∀ args w, (callFunc 38 args).run Tryd.prog w = .ok (.enter 38 args) w := enters_of Tryd.func38 (by kernel_rfl) rfl
  obtain ⟨a1, cap1, rfl, _, hn1, hc1⟩ := hA
  obtain ⟨a2, cap2, rfl, _, hn2, hc2⟩ := hB
  have HC1 := hide hc1
  have HC2 := hide hc2
  have HEQ := hide equal_any
  clear hc1 hc2
  by_cases hl : a.length ≠ b.length
  · have zl : ((a.length : Int) == (b.length : Int)) = false := by rw [beq_eq_false_iff_ne]; omega
    have HE := hide (eqN_len hl)
    generalize eqN a b = x at *
    clear HC1 HC2 hl
    generalize a.length = n at *
    generalize b.length = m at *
    go_enter Tryd.func37, Tryd.ntmps37
    go_wp2
    go_ret
    exact ⟨ret_bool (unhide HE).symm, Gr.refl _⟩
  replace hl : a.length = b.length := by omega
  rw [← hl] at HC2 ⊢
  have HL := hide hl
  clear hl hn2
  go_enter Tryd.func37, Tryd.ntmps37
  go_wp2
  go_loopw [17] (fun i wr => ∃ k : Nat, k ≤ a.length ∧ i = .int .i64 k ∧ Hid (∀ j, j < k → eqR (a.getD j []) (b.getD j []) = true) ∧ Gr w wr) (fun i _ => a.length - (intOf i).toNat)
  case atStart => exact ⟨0, Nat.zero_le _, rfl, fun j hj => absurd hj (Nat.not_lt_zero _), Gr.refl _⟩
  case round =>
    obtain ⟨i, hi, rfl, HK, hg⟩ := hrel
    by_cases hlt : i < a.length
    · have hzl : (i : Int) < (a.length : Int) := by omega
      have hz0 : (0 : Int) ≤ (i : Int) := by omega
      obtain ⟨b1, o1, rfl, hcc1⟩ := unhide HC1 (by omega)
      obtain ⟨b2, o2, rfl, hcc2⟩ := unhide HC2 (by omega)
      obtain ⟨rv1, c1, d1⟩ := hcc1 i hlt
      obtain ⟨rv2, c2, d2⟩ := hcc2 i hlt
      replace c1 := hg.cell c1
      replace c2 := hg.cell c2
      have CE := hide (unhide HEQ rv1 rv2 _ _ wr (d1.below hg.below) (d2.below hg.below))
      clear hcc1 hcc2 d1 d2
      have HN : Hid (eqR (a.getD i []) (b.getD i []) = false → eqN a b = false) := fun h => eqN_no h
      have HY : Hid (eqR (a.getD i []) (b.getD i []) = true → ∀ j, j < i + 1 → eqR (a.getD j []) (b.getD j []) = true) := fun h => same_next (p := fun j => eqR (a.getD j []) (b.getD j [])) (unhide HK) h
      generalize a.getD i [] = r at *
      generalize b.getD i [] = s at *
      cases he : eqR r s <;> rw [he] at CE
      · have HE := hide (unhide HN he)
        clear he HN HY
        go_wp2_with (refine (unhide CE).mono ?_; rintro e w3 ⟨rfl, g3⟩)
        go_ret
        exact ⟨ret_bool (unhide HE).symm, hg.trans g3⟩
      · have HE := hide (unhide HY he)
        clear he HN HY
        go_wp2_with (refine (unhide CE).mono ?_; rintro e w3 ⟨rfl, g3⟩)
        go_roundw
        case rel => exact ⟨i + 1, by omega, by go_num, unhide HE, hg.trans g3⟩
        case measure => simp [intOf]; omega
    · have hzl : ¬ (i : Int) < (a.length : Int) := by omega
      obtain rfl : i = a.length := by omega
      have HE := hide (eqN_yes (unhide HL) (unhide HK))
      go_wp2
      go_ret
      exact ⟨ret_bool (unhide HE).symm, hg⟩
set_option maxHeartbeats 800000 in
theorem same_any (v1 v2 : Value) (a b : List (List Pr)) (w : World) (hA : NmV w v1 a) (hB : NmV w v2 b) :
    Calls Tryd.prog 26 #[v1, v2] w fun e w' => e = .returned (.bool (eqN a b)) ∧ Gr w w' := by
  have CE := hide (equalf_any v1 v2 a b w hA hB)
  clear hA hB
  go_enter Tryd.func26, Tryd.ntmps26
  go_wp2_with (go_at_call 37; refine (unhide CE).mono ?_; rintro e w3 ⟨rfl, g3⟩)
  go_ret
  exact ⟨rfl, g3⟩
end Go.Proofs.YtpfpaponlmfofaaDoor
