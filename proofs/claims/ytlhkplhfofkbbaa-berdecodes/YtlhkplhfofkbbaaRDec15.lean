/- The document's Decode and All of layer 15, over take and all. -/
import Derived.Test.YtlhkplhfofkbbaaRTkE15
namespace Go.Proofs.Ytlhkplhfofkbbaa
open Go.RowKit

set_option maxHeartbeats 1600000 in
theorem rAll_of (ht : TakeOk 11) (s : ByteArray) (w : World) (hs : s.size ≤ 10000) : Calls Try.prog 21 #[.string s] w fun r w' => ∃ v, r = .returned (.tuple #[v, .int .i64 (allT (nums s)).2]) ∧ EsP (In w.heap.size w') w' v (allT (nums s)).1 ∧ Below w.heap.size w w' := by
  by_cases h4 : 4000 < s.size
  · have z : (4000 : Int) < (s.size : Int) := by omega
    have HE : Hid (allT (nums s) = ([], 3)) := by show _ = _; unfold allT; rw [if_pos (by rw [nums_length]; exact h4)]
    go_enter Try.func21, Try.ntmps21
    go_wp2
    go_ret2
    exact ⟨_, ret_ve (by rw [unhide HE]), by rw [unhide HE]; exact EsP.nil _ _, Below.refl _ _⟩
  · have z : ¬ (4000 : Int) < (s.size : Int) := by omega
    have HE : Hid (allT (nums s) = allB 11 (nums s)) := by show _ = _; unfold allT; rw [if_neg (by rw [nums_length]; exact h4)]
    have H := rall_of 11 ht s w hs
    have e1 : ((12 - 11 : Nat) : Int) = 1 := rfl
    rw [e1] at H
    have HH := hide H
    clear H e1
    rw [unhide HE]
    clear HE
    generalize (allB 11 (nums s)).2 = x at *
    go_enter Try.func21, Try.ntmps21
    go_wp2_with (go_at_call 35; refine (unhide HH).mono ?_; rintro r w1 ⟨v1, rfl, p1, b1⟩)
    go_ret2
    exact ⟨_, rfl, p1, b1⟩
end Go.Proofs.Ytlhkplhfofkbbaa
