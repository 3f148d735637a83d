/- The landed Check of layer 18. -/
import Derived.Test.YtnhojjheoafhaaaDoorDa18
namespace Go.Proofs.YtnhojjheoafhaaaDoor
set_option maxRecDepth 100000
open Go.RowKit

theorem all_no {l : List Pr} {k : Nat} (hk : k < l.length) (h : okP (l.getD k pr0) = false) : l.all okP = false := by
  cases ha : l.all okP
  · rfl
  · rw [all_at (d := pr0) ha k hk] at h
    cases h
set_option maxHeartbeats 1600000 in
theorem indexf_any (v : Value) (r : List Pr) (w : World) (hR : PsV w v r) :
    Calls Tryd.prog 30 #[v, .func (.func 20) #[] #[]] w fun e w' => ∃ x : Int, e = .returned (.int .i64 x) ∧ decide (0 ≤ x) = (!(r.all okP)) ∧ Gr w w' := by
  obtain ⟨a, cap, rfl, hn, hc⟩ := hR
  have HC := hide hc
  have HW := hide wrong_any
  have eg : ∀ args w, (callFunc 20 args).run Tryd.prog w = .ok (.enter 20 args) w := enters_of Tryd.func20 (by kernel_rfl) rfl
  clear hc
  go_enter Tryd.func30, Tryd.ntmps30
  go_wp2
  go_loopw [8] (fun i wr => ∃ k : Nat, k ≤ r.length ∧ i = .int .i64 k ∧ Hid (∀ j, j < k → okP (r.getD j pr0) = true) ∧ Gr w wr) (fun i _ => r.length - (intOf i).toNat)
  case atStart => exact ⟨0, Nat.zero_le _, rfl, fun j hj => absurd hj (Nat.not_lt_zero _), Gr.refl _⟩
  case round =>
    obtain ⟨k, hk, rfl, HK, hg⟩ := hrel
    by_cases hlt : k < r.length
    · have hzl : (k : Int) < (r.length : Int) := by omega
      have hz0 : (0 : Int) ≤ (k : Int) := by omega
      obtain ⟨b, off, rfl, hcc⟩ := unhide HC (by omega)
      obtain ⟨q1, q2⟩ := hcc k hlt
      replace q1 := hg.cell q1
      replace q2 := hg.cell q2
      clear hcc
      have HN : Hid (okP (r.getD k pr0) = false → r.all okP = false) := fun h => all_no hlt h
      have HY : Hid (okP (r.getD k pr0) = true → ∀ j, j < k + 1 → okP (r.getD j pr0) = true) := fun h => ok_next (unhide HK) h
      generalize r.getD k pr0 = p at *
      have CW := hide (unhide HW p wr)
      cases hp : okP p <;> rw [hp] at CW
      · have HE := hide (unhide HN hp)
        clear hp
        go_wp2_with (refine (unhide CW).mono ?_; rintro e w3 ⟨rfl, g3⟩)
        go_ret
        exact ⟨_, rfl, by rw [unhide HE]; simp, hg.trans g3⟩
      · have HE := hide (unhide HY hp)
        clear hp
        go_wp2_with (refine (unhide CW).mono ?_; rintro e w3 ⟨rfl, g3⟩)
        go_roundw
        case rel => exact ⟨k + 1, by omega, by go_num, unhide HE, hg.trans g3⟩
        case measure => simp [intOf]; omega
    · have hzl : ¬ (k : Int) < (r.length : Int) := by omega
      obtain rfl : k = r.length := by omega
      have HE := hide (all_of okP pr0 r (unhide HK))
      go_wp2
      go_ret
      exact ⟨_, rfl, by rw [unhide HE]; rfl, hg⟩
set_option maxHeartbeats 1600000 in
theorem containsf_any (v : Value) (r : List Pr) (w : World) (hR : PsV w v r) :
    Calls Tryd.prog 19 #[v, .func (.func 20) #[] #[]] w fun e w' => e = .returned (.bool (!(r.all okP))) ∧ Gr w w' := by
  have HI := hide (indexf_any v r w hR)
  clear hR
  go_enter Tryd.func19, Tryd.ntmps19
  go_wp2_with (go_at_call 30; refine (unhide HI).mono ?_; rintro e w3 ⟨x, rfl, hx, g3⟩; have HX := hide hx; clear hx)
  go_ret
  exact ⟨ret_bool (unhide HX), g3⟩
theorem okR_all (r : List Pr) (h0 : r.length ≠ 0) (h1 : ¬ 3 < r.length) : okR r = r.all okP := by
  unfold okR
  rw [decide_eq_true (by omega)]
  rfl
set_option maxHeartbeats 3200000 in
theorem check_any (v : Value) (n : List (List Pr)) (w : World) (hV : NmV w v n) : Calls Tryd.prog 11 #[v] w fun e w' => e = .returned (.int .i64 (chkN n)) ∧ Gr w w' := by
  obtain ⟨a, cap, rfl, hcap, hn, hc⟩ := hV
  have HC := hide hc
  have HW := hide containsf_any
  clear hc
  by_cases h6 : 6 < n.length
  · have z : 6 < (n.length : Int) := by omega
    have HE := hide (chk_no (okN_len h6))
    generalize chkN n = x at *
    generalize n.length = m at *
    go_enter Tryd.func11, Tryd.ntmps11
    go_wp2
    go_ret
    exact ⟨ret_int (unhide HE).symm, Gr.refl _⟩
  have z6 : ¬ 6 < (n.length : Int) := by omega
  go_enter Tryd.func11, Tryd.ntmps11
  go_wp2
  go_loopw [10] (fun i wr => ∃ k : Nat, k ≤ n.length ∧ i = .int .i64 k ∧ Hid (∀ j, j < k → okR (n.getD j []) = true) ∧ Gr w wr) (fun i _ => n.length - (intOf i).toNat)
  case atStart => exact ⟨0, Nat.zero_le _, rfl, fun j hj => absurd hj (Nat.not_lt_zero _), Gr.refl _⟩
  case round =>
    obtain ⟨i, hi, rfl, HK, hg⟩ := hrel
    by_cases hlt : i < n.length
    · have hzl : (i : Int) < (n.length : Int) := by omega
      have hz0 : (0 : Int) ≤ (i : Int) := by omega
      obtain ⟨b, off, rfl, hcc⟩ := unhide HC (by omega)
      obtain ⟨rv, c1, hP⟩ := hcc i hlt
      replace c1 := hg.cell c1
      have hP2 := hP.below hg.below
      clear hcc
      have HN : Hid (okR (n.getD i []) = false → chkN n = 220) := fun h => chk_no (okN_no hlt h)
      have HY : Hid (okR (n.getD i []) = true → ∀ j, j < i + 1 → okR (n.getD j []) = true) := fun h => ok_next (unhide HK) h
      generalize n.getD i [] = r at *
      have CC := hide (unhide HW rv r wr hP2)
      obtain ⟨a2, cap2, rfl⟩ := hP2.shape
      clear hP hP2
      by_cases l0 : r.length < 1
      · have z0 : (r.length : Int) < 1 := by omega
        have HE := hide (unhide HN (okR_len (.inl (by omega))))
        clear l0
        go_wp2
        go_ret
        exact ⟨ret_int (unhide HE).symm, hg⟩
      have z0 : ¬ (r.length : Int) < 1 := by omega
      by_cases l3 : 3 < r.length
      · have z3 : 3 < (r.length : Int) := by omega
        have HE := hide (unhide HN (okR_len (.inr l3)))
        go_wp2
        go_ret
        exact ⟨ret_int (unhide HE).symm, hg⟩
      have z3 : ¬ 3 < (r.length : Int) := by omega
      have HA := hide (okR_all r (by omega) l3)
      cases ha : r.all okP <;> rw [ha] at CC
      · have HE := hide (unhide HN (by rw [unhide HA]; exact ha))
        clear ha
        go_wp2_with (go_at_call 19; refine (unhide CC).mono ?_; rintro e w3 ⟨rfl, g3⟩)
        go_ret
        exact ⟨ret_int (unhide HE).symm, hg.trans g3⟩
      · have HE := hide (unhide HY (by rw [unhide HA]; exact ha))
        clear ha
        go_wp2_with (go_at_call 19; refine (unhide CC).mono ?_; rintro e w3 ⟨rfl, g3⟩)
        go_roundw
        case rel => exact ⟨i + 1, by omega, by go_num, unhide HE, hg.trans g3⟩
        case measure => simp [intOf]; omega
    · have hzl : ¬ (i : Int) < (n.length : Int) := by omega
      obtain rfl : i = n.length := by omega
      have HE := hide (chk_yes (okN_yes h6 (unhide HK)))
      go_wp2
      go_ret
      exact ⟨ret_int (unhide HE).symm, hg⟩
end Go.Proofs.YtnhojjheoafhaaaDoor
