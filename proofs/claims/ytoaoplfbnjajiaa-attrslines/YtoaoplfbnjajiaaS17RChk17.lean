/- The document's Check, Cmp, Under and Above of layer 17, and the sameness of two lists. -/
import Derived.Test.YtoaoplfbnjajiaaS17Math17
namespace Go.Proofs.Ytoaoplfbnjajiaa.S17
open Go.RowKit

theorem chk_short {l : List Int} (h : l.length < 2 ∨ 12 < l.length) : chkO l = 170 := by
  unfold chkO okO
  rw [decide_eq_false (by omega)]
  rfl
end Go.Proofs.Ytoaoplfbnjajiaa.S17