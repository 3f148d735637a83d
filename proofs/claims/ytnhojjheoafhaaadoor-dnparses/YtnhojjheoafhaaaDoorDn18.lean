/- The landed Parse and Rdn of layer 18. -/
import Derived.Test.YtnhojjheoafhaaaDoorDm18
import Derived.Test.YtnhojjheoafhaaaDoorDb18
namespace Go.Proofs.YtnhojjheoafhaaaDoor
set_option maxRecDepth 100000
open Go.RowKit

theorem ret_ve {v : Value} {c d : Int} (h : c = d) : Ending.returned (.tuple #[v, .int .i64 c]) = .returned (.tuple #[v, .int .i64 d]) := by rw [h]
set_option maxHeartbeats 3200000 in
theorem parse_any (s : ByteArray) (w : World) (hL : Ly w) :
    Calls Tryd.prog 4 #[.string s] w fun e w' => ∃ v, e = .returned (.tuple #[v, .int .i64 (parE (nums s))]) ∧ NmV w' v (parN (nums s)) ∧ Below w.heap.size w w' := by
  have hnl := nums_length s
  by_cases h1 : 3000 < s.size
  · obtain ⟨e1, e2⟩ := par_long (l := nums s) (by omega)
    rw [e1, e2]
    have z1 : 3000 < (s.size : Int) := by omega
    clear e1 e2
    go_enter Tryd.func4, Tryd.ntmps4
    go_wp2
    go_ret2
    exact ⟨_, rfl, NmV.nil _ _ _, Below.refl _ _⟩
  have z1 : ¬ 3000 < (s.size : Int) := by omega
  by_cases h2 : s.size = 0
  · have en : nums s = [] := List.length_eq_zero_iff.1 (by omega)
    rw [en, par_empty.1, par_empty.2]
    have hem := toList_none h2
    clear en hnl h2
    go_enter Tryd.func4, Tryd.ntmps4
    go_wp2
    go_ret2
    exact ⟨_, rfl, NmV.nil _ _ _, Below.refl _ _⟩
  have hem := toList_some (show 0 < s.size by omega)
  have CR := hide (rparts_any s w hL (by omega))
  cases hp : partsL ((nums s).length + 1) [] [] (nums s) with
  | none =>
    obtain ⟨e1, e2⟩ := par_no (l := nums s) (by omega) (by omega) (parR_none hp)
    rw [e1, e2]
    have HR : Hid (∀ v ok W, rtOk (nums s) v ok W → ok = false) := fun v ok W h => by unfold rtOk at h; rw [hp] at h; exact h
    clear hp e1 e2
    go_enter Tryd.func4, Tryd.ntmps4
    go_wp2_with (go_at_call 10; refine (unhide CR).mono ?_; rintro e w2 ⟨v, ok, rfl, h2, b2⟩; obtain rfl := unhide HR _ _ _ h2; clear h2)
    go_ret2
    exact ⟨_, rfl, NmV.nil _ _ _, b2⟩
  | some N =>
    have HR : Hid (∀ v ok W, rtOk (nums s) v ok W → ok = true ∧ NmV W v N) := fun v ok W h => by unfold rtOk at h; rw [hp] at h; exact h
    have hpr := parR_some hp
    have CC := hide (fun v W h => check_any v N W h)
    clear hp
    cases hk : okN N
    · rw [hk, if_neg (by decide)] at hpr
      obtain ⟨e1, e2⟩ := par_no (l := nums s) (by omega) (by omega) hpr
      rw [e1, e2]
      rw [chk_no hk] at CC
      clear hk hpr e1 e2
      go_enter Tryd.func4, Tryd.ntmps4
      go_wp2_with (first
        | (go_at_call 11; refine (unhide CC _ _ (unhide HV)).mono ?_; rintro e w3 ⟨rfl, g3⟩)
        | (go_at_call 10; refine (unhide CR).mono ?_; rintro e w2 ⟨v, ok, rfl, h2, b2⟩; obtain ⟨rfl, hv⟩ := unhide HR _ _ _ h2; have HV := hide hv; clear h2 hv))
      go_ret2
      exact ⟨_, rfl, NmV.nil _ _ _, b2.trans (g3.below.mono b2.size)⟩
    · rw [hk, if_pos rfl] at hpr
      obtain ⟨e1, e2⟩ := par_yes (l := nums s) (by omega) (by omega) hpr
      rw [e1, e2]
      rw [chk_yes hk] at CC
      clear hk hpr e1 e2
      go_enter Tryd.func4, Tryd.ntmps4
      go_wp2_with (first
        | (go_at_call 11; refine (unhide CC _ _ (unhide HV)).mono ?_; rintro e w3 ⟨rfl, g3⟩)
        | (go_at_call 10; refine (unhide CR).mono ?_; rintro e w2 ⟨v, ok, rfl, h2, b2⟩; obtain ⟨rfl, hv⟩ := unhide HR _ _ _ h2; have HV := hide hv; clear h2 hv))
      go_ret2
      exact ⟨_, rfl, (unhide HV).below g3.below, b2.trans (g3.below.mono b2.size)⟩
/-- The part of a text, and the error. -/
def rdnN (l : List Int) : List Pr := if parE l = 0 ∧ (parN l).length = 1 then (parN l).getD 0 [] else []
def rdnE (l : List Int) : Int := if parE l ≠ 0 then parE l else if (parN l).length = 1 then 0 else 220
set_option maxHeartbeats 3200000 in
theorem rdn_any (s : ByteArray) (w : World) (hL : Ly w) :
    Calls Tryd.prog 6 #[.string s] w fun e w' => ∃ v, e = .returned (.tuple #[v, .int .i64 (rdnE (nums s))]) ∧ PsV w' v (rdnN (nums s)) ∧ Below w.heap.size w w' := by
  have CP := hide (parse_any s w hL)
  by_cases h1 : parE (nums s) = 0
  · by_cases h2 : (parN (nums s)).length = 1
    · have e1 : rdnN (nums s) = (parN (nums s)).getD 0 [] := by unfold rdnN; rw [if_pos ⟨h1, h2⟩]
      have e2 : rdnE (nums s) = 0 := by unfold rdnE; rw [if_neg (by omega), if_pos h2]
      rw [e1, e2]
      rw [h1] at CP
      clear h1 e1 e2
      generalize parN (nums s) = n at *
      go_enter Tryd.func6, Tryd.ntmps6
      go_wp2_with (go_at_call 4; refine (unhide CP).mono ?_; rintro e w2 ⟨v, rfl, hv, b2⟩; obtain ⟨a, cap, rfl, hc1, hc2, hcc⟩ := hv; obtain ⟨b, off, rfl, hce⟩ := hcc (by omega); obtain ⟨rv, c0, hps⟩ := hce 0 (by omega); rw [Nat.add_zero] at c0; rw [h2]; have HPS := hide hps; clear hps hce hcc hc1 hc2)
      go_ret2
      exact ⟨_, rfl, unhide HPS, b2⟩
    · have e1 : rdnN (nums s) = [] := by unfold rdnN; rw [if_neg (fun h => h2 h.2)]
      have e2 : rdnE (nums s) = 220 := by unfold rdnE; rw [if_neg (by omega), if_neg h2]
      rw [e1, e2]
      rw [h1] at CP
      have z : (((parN (nums s)).length : Int) == 1) = false := by rw [beq_eq_false_iff_ne]; omega
      clear h1 e1 e2 h2
      generalize parN (nums s) = n at *
      go_enter Tryd.func6, Tryd.ntmps6
      go_wp2_with (go_at_call 4; refine (unhide CP).mono ?_; rintro e w2 ⟨v, rfl, hv, b2⟩; obtain ⟨a, cap, rfl, hc1, hc2, hcc⟩ := hv; clear hcc hc1 hc2)
      go_ret2
      exact ⟨_, rfl, PsV.nil _ _ _, b2⟩
  · have e1 : rdnN (nums s) = [] := by unfold rdnN; rw [if_neg (fun h => h1 h.1)]
    have e2 : rdnE (nums s) = parE (nums s) := by unfold rdnE; rw [if_pos h1]
    rw [e1, e2]
    have z : (parE (nums s) == 0) = false := by rw [beq_eq_false_iff_ne]; exact h1
    clear e1 e2
    generalize parE (nums s) = x at *
    go_enter Tryd.func6, Tryd.ntmps6
    go_wp2_with (go_at_call 4; refine (unhide CP).mono ?_; rintro e w2 ⟨v, rfl, hv, b2⟩; clear hv)
    go_ret2
    exact ⟨_, rfl, PsV.nil _ _ _, b2⟩
end Go.Proofs.YtnhojjheoafhaaaDoor
