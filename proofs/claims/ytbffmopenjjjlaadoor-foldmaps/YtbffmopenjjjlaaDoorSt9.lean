/- The program's own table, plainly. -/
import Derived.Test.YtbffmopenjjjlaaDoorFold9
import Derived.Test.YtbffmopenjjjlaaDoorNm9
namespace Go.Proofs.YtbffmopenjjjlaaDoor

def sts9 : List Fo := [
  ⟨65, 90, 1, 32⟩, ⟨192, 214, 1, 32⟩, ⟨216, 222, 1, 32⟩, ⟨256, 302, 2, 1⟩, ⟨306, 310, 2, 1⟩, ⟨313, 327, 2, 1⟩, ⟨330, 374, 2, 1⟩, ⟨377, 381, 2, 1⟩,
  ⟨904, 906, 1, 37⟩, ⟨913, 929, 1, 32⟩, ⟨931, 939, 1, 32⟩, ⟨1040, 1071, 1, 32⟩, ⟨8544, 8555, 1, 16⟩, ⟨65313, 65338, 1, 32⟩]
/-- What the program puts. -/
def stL (r : Int) : List Fo → List Int
  | [] => namL r nms9
  | o :: m => if inF o r then [r + o.u] else stL r m
theorem stL_step (r : Int) (n : Nat) (h : n < 14) : stL r (sts9.drop n) = if inF (sts9.getD n fo0) r then [r + (sts9.getD n fo0).u] else stL r (sts9.drop (n + 1)) := by
  have e : sts9.drop n = sts9.getD n fo0 :: sts9.drop (n + 1) := by
    have hl : n < sts9.length := h
    rw [List.drop_eq_getElem_cons hl]; simp [List.getD, hl]
  rw [e]; rfl
theorem sts9_ok : sts9.all okF = true := by kernel_rfl
theorem st9_ok (n : Nat) (h : n < 14) : okF (sts9.getD n fo0) = true := by
  have hl : n < sts9.length := h
  exact List.all_eq_true.1 sts9_ok _ (by simp [List.getD, hl])
end Go.Proofs.YtbffmopenjjjlaaDoor
