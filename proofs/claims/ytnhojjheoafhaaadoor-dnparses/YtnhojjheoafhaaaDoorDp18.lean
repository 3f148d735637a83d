/- The landed Above and Below of layer 18. -/
import Derived.Test.YtnhojjheoafhaaaDoorDo18
namespace Go.Proofs.YtnhojjheoafhaaaDoor
set_option maxRecDepth 100000
open Go.RowKit

/-- Has a name one above it; which. -/
def abB (n : List (List Pr)) : Bool := okN n && decide (n.length ≠ 0)
def abN (n : List (List Pr)) : List (List Pr) := if abB n = true then n.drop 1 else []
theorem NmV.tail {w : World} {b off cap : Nat} {n : List (List Pr)} (hn : n.length ≤ 9223372036854775807) (hcap : n.length ≤ cap) (hc : ∀ j, j < n.length → ∃ rv, w.cell? ⟨b, off + j, none⟩ = some rv ∧ PsV w rv (n.getD j [])) : NmV w (.slice (some ⟨b, off + 1, none⟩) (n.length - 1) (cap - 1)) (n.drop 1) := by
  refine ⟨_, _, by rw [List.length_drop], by rw [List.length_drop]; omega, by rw [List.length_drop]; omega, fun hi => ⟨b, off + 1, rfl, fun j hj => ?_⟩⟩
  rw [List.length_drop] at hj
  obtain ⟨rv, h1, h2⟩ := hc (j + 1) (by omega)
  refine ⟨rv, by rw [show off + 1 + j = off + (j + 1) by omega]; exact h1, ?_⟩
  have e : (n.drop 1).getD j [] = n.getD (j + 1) [] := by simp [List.getD]
  rw [e]
  exact h2
theorem ok_lens {n : List (List Pr)} (h : okN n = true) : n.length ≤ 6 ∧ ∀ r ∈ n, r.length ≤ 3 := ⟨(okN_parts h).1, fun r hr => (okR_parts ((okN_parts h).2 r hr)).1.2⟩
set_option maxHeartbeats 3200000 in
theorem above_any (v : Value) (n : List (List Pr)) (w : World) (hV : NmV w v n) :
    Calls Tryd.prog 16 #[v] w fun e w' => ∃ v', e = .returned (.tuple #[v', .bool (abB n)]) ∧ NmV w' v' (abN n) ∧ Below w.heap.size w w' := by
  have CC := hide (check_any v n w hV)
  cases hk : okN n
  · have e1 : abB n = false := by unfold abB; rw [hk]; rfl
    have e2 : abN n = [] := by unfold abN; rw [e1]; rfl
    rw [e1, e2]
    rw [chk_no hk] at CC
    clear e1 e2 hk hV
    go_enter Tryd.func16, Tryd.ntmps16
    go_wp2_with (go_at_call 11; refine (unhide CC).mono ?_; rintro e w3 ⟨rfl, g3⟩)
    go_ret2
    exact ⟨_, rfl, NmV.nil _ _ _, g3.below⟩
  obtain ⟨hn6, hr3⟩ := ok_lens hk
  rw [chk_yes hk] at CC
  by_cases h0 : n.length = 0
  · have e1 : abB n = false := by unfold abB; rw [decide_eq_false (by omega), Bool.and_false]
    have e2 : abN n = [] := by unfold abN; rw [e1]; rfl
    rw [e1, e2]
    obtain rfl : n = [] := List.length_eq_zero_iff.1 h0
    obtain ⟨a, cap, rfl, _⟩ := hV
    clear e1 e2 hk hr3
    go_enter Tryd.func16, Tryd.ntmps16
    go_wp2_with (go_at_call 11; refine (unhide CC).mono ?_; rintro e w3 ⟨rfl, g3⟩)
    go_ret2
    exact ⟨_, rfl, NmV.nil _ _ _, g3.below⟩
  have e1 : abB n = true := by unfold abB; rw [hk, decide_eq_true h0]; rfl
  have e2 : abN n = n.drop 1 := by unfold abN; rw [if_pos e1]
  rw [e1, e2]
  have HV := hide hV
  obtain ⟨a, cap, rfl, hcap, hn, hc⟩ := hV
  obtain ⟨b, off, rfl, _⟩ := hc (by omega)
  have z0 : ((n.length : Int) == 0) = false := by rw [beq_eq_false_iff_ne]; omega
  have z1 : (1 : Int) ≤ (n.length : Int) := by omega
  have z2 : (n.length : Int) ≤ (cap : Int) := by omega
  have HLD : Hid ((n.drop 1).length ≤ 1000) := by show _ ≤ _; rw [List.length_drop]; omega
  have HRD : Hid (∀ r ∈ n.drop 1, r.length ≤ 1000) := fun r hr => by have := hr3 r (List.mem_of_mem_drop hr); omega
  have CF := hide (fun v W h => fresh_any v (n.drop 1) W (unhide HLD) (unhide HRD) h)
  clear e1 e2 hk hc
  by_cases hc1 : cap = 1
  · have hn1 : n.length = 1 := by omega
    have HD0 : Hid (n.drop 1 = []) := List.drop_eq_nil_of_le (by omega)
    rw [unhide HD0] at CF ⊢
    subst hc1
    clear HLD HRD hcap h0 z1 z2 z0
    have CF2 := hide (fun W a c => unhide CF (.slice a 0 c) W (NmV.nil W a c))
    clear CF
    rw [hn1] at CC ⊢
    clear HV HD0 hn1 hn hn6 hr3
    go_enter Tryd.func16, Tryd.ntmps16
    go_wp2_with (first
      | (go_at_call 24; refine (unhide CF2 _ _ _).mono ?_; rintro e w4 ⟨v4, vs4, rfl, F4, b4⟩; have H4 := hide (F4.nm (Nat.zero_le _) (by simp)); clear F4)
      | (go_at_call 11; refine (unhide CC).mono ?_; rintro e w3 ⟨rfl, g3⟩))
    go_ret2
    exact ⟨_, rfl, unhide H4, g3.below.trans (b4.mono g3.size)⟩
  · have hc1' : ¬ cap = 1 := hc1
    have CF2 : Hid (∀ W, Gr w W → Calls Tryd.prog 24 #[.slice (some ⟨b, off + 1, none⟩) (n.length - 1) (cap - 1)] W fun e w' => ∃ v', e = .returned v' ∧ NmV w' v' (n.drop 1) ∧ Below W.heap.size W w') := fun W hg => by
      obtain ⟨a', cap', hv, hcap', hn', hcc⟩ := (unhide HV).below hg.below
      cases hv
      obtain ⟨b', off', ha, hce⟩ := hcc (by omega)
      cases ha
      refine (unhide CF _ W (NmV.tail hn' hcap' hce)).mono ?_
      rintro e w4 ⟨v4, vs4, rfl, F4, b4⟩
      exact ⟨v4, rfl, F4.nm (by have := unhide HLD; omega) (fun r hr => by have := unhide HRD r hr; omega), b4⟩
    clear CF HLD HRD HV
    have z3 : ¬ (cap : Int) = 1 := by omega
    generalize n.drop 1 = m at *
    go_enter Tryd.func16, Tryd.ntmps16
    go_wp2_with (first
      | (go_at_call 24; refine (unhide CF2 _ g3).mono ?_; rintro e w4 ⟨v4, rfl, h4, b4⟩; have H4 := hide h4; clear h4)
      | (go_at_call 11; refine (unhide CC).mono ?_; rintro e w3 ⟨rfl, g3⟩))
    go_ret2
    exact ⟨_, rfl, unhide H4, g3.below.trans (b4.mono g3.size)⟩
end Go.Proofs.YtnhojjheoafhaaaDoor
