/- The document's hex, sign and Value of layer 18. -/
import Derived.Test.YtnhojjheoafhaaaDoorDc18
import Derived.Test.YtnhojjheoafhaaaDoorLen18
import Derived.Test.YtnhojjheoafhaaaDoorTxt18
namespace Go.Proofs.YtnhojjheoafhaaaDoor
set_option maxRecDepth 100000
open Go.RowKit

set_option maxHeartbeats 1600000 in
theorem rsign_any (c : Int) (w : World) : Calls Tryd.prog 31 #[.int .u8 c] w fun e w' => e = .returned (.bool (sgn c)) ∧ w = w' := by
  by_cases h44 : c = 44
  · have e : sgn c = true := by unfold sgn; simp [h44]
    rw [e]
    clear e
    subst h44
    go_enter Tryd.func31, Tryd.ntmps31
    go_wp2
    go_ret
    exact ⟨rfl, rfl⟩
  have g44 : (c == 44) = false := by rw [beq_eq_false_iff_ne]; exact h44
  by_cases h43 : c = 43
  · have e : sgn c = true := by unfold sgn; simp [h43]
    rw [e]
    clear e
    subst h43
    go_enter Tryd.func31, Tryd.ntmps31
    go_wp2
    go_ret
    exact ⟨rfl, rfl⟩
  have g43 : (c == 43) = false := by rw [beq_eq_false_iff_ne]; exact h43
  by_cases h34 : c = 34
  · have e : sgn c = true := by unfold sgn; simp [h34]
    rw [e]
    clear e
    subst h34
    go_enter Tryd.func31, Tryd.ntmps31
    go_wp2
    go_ret
    exact ⟨rfl, rfl⟩
  have g34 : (c == 34) = false := by rw [beq_eq_false_iff_ne]; exact h34
  by_cases h92 : c = 92
  · have e : sgn c = true := by unfold sgn; simp [h92]
    rw [e]
    clear e
    subst h92
    go_enter Tryd.func31, Tryd.ntmps31
    go_wp2
    go_ret
    exact ⟨rfl, rfl⟩
  have g92 : (c == 92) = false := by rw [beq_eq_false_iff_ne]; exact h92
  by_cases h60 : c = 60
  · have e : sgn c = true := by unfold sgn; simp [h60]
    rw [e]
    clear e
    subst h60
    go_enter Tryd.func31, Tryd.ntmps31
    go_wp2
    go_ret
    exact ⟨rfl, rfl⟩
  have g60 : (c == 60) = false := by rw [beq_eq_false_iff_ne]; exact h60
  by_cases h62 : c = 62
  · have e : sgn c = true := by unfold sgn; simp [h62]
    rw [e]
    clear e
    subst h62
    go_enter Tryd.func31, Tryd.ntmps31
    go_wp2
    go_ret
    exact ⟨rfl, rfl⟩
  have g62 : (c == 62) = false := by rw [beq_eq_false_iff_ne]; exact h62
  by_cases h59 : c = 59
  · have e : sgn c = true := by unfold sgn; simp [h59]
    rw [e]
    clear e
    subst h59
    go_enter Tryd.func31, Tryd.ntmps31
    go_wp2
    go_ret
    exact ⟨rfl, rfl⟩
  have g59 : (c == 59) = false := by rw [beq_eq_false_iff_ne]; exact h59
  by_cases h61 : c = 61
  · have e : sgn c = true := by unfold sgn; simp [h61]
    rw [e]
    clear e
    subst h61
    go_enter Tryd.func31, Tryd.ntmps31
    go_wp2
    go_ret
    exact ⟨rfl, rfl⟩
  have g61 : (c == 61) = false := by rw [beq_eq_false_iff_ne]; exact h61
  have e : sgn c = false := by unfold sgn; rw [decide_eq_false]; omega
  rw [e]
  clear e
  go_enter Tryd.func31, Tryd.ntmps31
  go_wp2
  go_ret
  exact ⟨rfl, rfl⟩
end Go.Proofs.YtnhojjheoafhaaaDoor
