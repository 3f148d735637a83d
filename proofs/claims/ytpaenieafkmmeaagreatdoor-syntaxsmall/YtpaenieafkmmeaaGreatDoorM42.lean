/- The landed Parse and Rdn of layer 18. -/
import Derived.Test.YtpaenieafkmmeaaGreatDoorM40
import Derived.Test.YtpaenieafkmmeaaGreatDoorM41
namespace Go.Proofs.YtpaenieafkmmeaaGreatDoor.S18
set_option maxRecDepth 100000
open Go.RowKit

theorem ret_ve {v : Value} {c d : Int} (h : c = d) : Ending.returned (.tuple #[v, .int .i64 c]) = .returned (.tuple #[v, .int .i64 d]) := by rw [h]
set_option maxHeartbeats 3200000 in
theorem parse_any (s : ByteArray) (w : World) (hL : Ly w) :
    Calls Tryz.prog 19 #[.string s] w fun e w' => ∃ v, e = .returned (.tuple #[v, .int .i64 (parE (nums s))]) ∧ NmV w' v (parN (nums s)) ∧ Below w.heap.size w w' := by
  have hnl := nums_length s
  by_cases h1 : 3000 < s.size
  · obtain ⟨e1, e2⟩ := par_long (l := nums s) (by omega)
    rw [e1, e2]
    have z1 : 3000 < (s.size : Int) := by omega
    clear e1 e2
    go_enter Tryz.func19, Tryz.ntmps19
    go_wp2
    go_ret2
    exact ⟨_, rfl, NmV.nil _ _ _, Below.refl _ _⟩
  have z1 : ¬ 3000 < (s.size : Int) := by omega
  by_cases h2 : s.size = 0
  · have en : nums s = [] := List.length_eq_zero_iff.1 (by omega)
    rw [en, par_empty.1, par_empty.2]
    have hem := toList_none h2
    clear en hnl h2
    go_enter Tryz.func19, Tryz.ntmps19
    go_wp2
    go_ret2
    exact ⟨_, rfl, NmV.nil _ _ _, Below.refl _ _⟩
  have hem := toList_some (show 0 < s.size by omega)
  have CR := hide (rparts_any s w hL (by omega))
  cases hp : partsL ((nums s).length + 1) [] [] (nums s) with
  | none =>
    obtain ⟨e1, e2⟩ := par_no (l := nums s) (by omega) (by omega) (parR_none hp)
    rw [e1, e2]
    have HR : Hid (∀ v ok W, rtOk (nums s) v ok W → ok = false) := fun v ok W h => by unfold rtOk at h; rw [hp] at h; exact h
    clear hp e1 e2
    go_enter Tryz.func19, Tryz.ntmps19
    go_wp2_with (go_at_call 28; refine (unhide CR).mono ?_; rintro e w2 ⟨v, ok, rfl, h2, b2⟩; obtain rfl := unhide HR _ _ _ h2; clear h2)
    go_ret2
    exact ⟨_, rfl, NmV.nil _ _ _, b2⟩
  | some N =>
    have HR : Hid (∀ v ok W, rtOk (nums s) v ok W → ok = true ∧ NmV W v N) := fun v ok W h => by unfold rtOk at h; rw [hp] at h; exact h
    have hpr := parR_some hp
    have CC := hide (fun v W h => check_any v N W h)
    clear hp
    cases hk : okN N
    · rw [hk, if_neg (by decide)] at hpr
      obtain ⟨e1, e2⟩ := par_no (l := nums s) (by omega) (by omega) hpr
      rw [e1, e2]
      rw [chk_no hk] at CC
      clear hk hpr e1 e2
      go_enter Tryz.func19, Tryz.ntmps19
      go_wp2_with (first
        | (go_at_call 29; refine (unhide CC _ _ (unhide HV)).mono ?_; rintro e w3 ⟨rfl, g3⟩)
        | (go_at_call 28; refine (unhide CR).mono ?_; rintro e w2 ⟨v, ok, rfl, h2, b2⟩; obtain ⟨rfl, hv⟩ := unhide HR _ _ _ h2; have HV := hide hv; clear h2 hv))
      go_ret2
      exact ⟨_, rfl, NmV.nil _ _ _, b2.trans (g3.below.mono b2.size)⟩
    · rw [hk, if_pos rfl] at hpr
      obtain ⟨e1, e2⟩ := par_yes (l := nums s) (by omega) (by omega) hpr
      rw [e1, e2]
      rw [chk_yes hk] at CC
      clear hk hpr e1 e2
      go_enter Tryz.func19, Tryz.ntmps19
      go_wp2_with (first
        | (go_at_call 29; refine (unhide CC _ _ (unhide HV)).mono ?_; rintro e w3 ⟨rfl, g3⟩)
        | (go_at_call 28; refine (unhide CR).mono ?_; rintro e w2 ⟨v, ok, rfl, h2, b2⟩; obtain ⟨rfl, hv⟩ := unhide HR _ _ _ h2; have HV := hide hv; clear h2 hv))
      go_ret2
      exact ⟨_, rfl, (unhide HV).below g3.below, b2.trans (g3.below.mono b2.size)⟩
/-- The part of a text, and the error. -/
def rdnN (l : List Int) : List Pr := if parE l = 0 ∧ (parN l).length = 1 then (parN l).getD 0 [] else []
def rdnE (l : List Int) : Int := if parE l ≠ 0 then parE l else if (parN l).length = 1 then 0 else 220
end Go.Proofs.YtpaenieafkmmeaaGreatDoor.S18
