/- The document's head of layer 15. -/
import Derived.Test.YtcboggoindhmkaaREnc15
namespace Go.Proofs.Ytcboggoindhmkaa
open Go.RowKit

/-- The bytes of the head, of the contents; the error. -/
def headB (s : List Int) : Int × Int × Int :=
  if s.length < 1 then (0, 0, 150)
  else if s.getD 0 0 % 32 = 31 then (0, 0, 151)
  else if s.length < 2 then (0, 0, 150)
  else if s.getD 1 0 < 128 then (2, s.getD 1 0, 0)
  else if s.getD 1 0 = 128 ∨ 130 < s.getD 1 0 then (0, 0, 152)
  else if (s.length : Int) < s.getD 1 0 - 126 then (0, 0, 150)
  else if s.getD 1 0 = 129 then (if s.getD 2 0 < 128 then (0, 0, 152) else (3, s.getD 2 0, 0))
  else if s.getD 2 0 = 0 then (0, 0, 152) else (4, 256 * s.getD 2 0 + s.getD 3 0, 0)
theorem ret_3 {a b c a' b' c' : Int} (h : (a, b, c) = (a', b', c')) : Ending.returned (.tuple #[.int .i64 a, .int .i64 b, .int .i64 c]) = .returned (.tuple #[.int .i64 a', .int .i64 b', .int .i64 c']) := by cases h; rfl
theorem getD_drop (l : List Int) (i j : Nat) : (l.drop i).getD j 0 = l.getD (i + j) 0 := by simp [List.getD]
end Go.Proofs.Ytcboggoindhmkaa
