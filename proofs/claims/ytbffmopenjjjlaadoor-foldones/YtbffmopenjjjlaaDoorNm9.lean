/- Those that the program names by themselves, plainly. -/
import Derived.Test.YtbffmopenjjjlaaDoorRn
namespace Go.Proofs.YtbffmopenjjjlaaDoor

/-- Those that are named by themselves. -/
def nms9 : List (Int × List Int) := [(181, [956]), (223, [115, 115]), (304, [105, 775]), (329, [700, 110]), (376, [255]), (383, [115]), (902, [940]), (908, [972]), (910, [973]), (911, [974]), (962, [963]), (1025, [1105]),
  (8486, [969]), (8490, [107]), (8491, [229]), (64256, [102, 102]), (64257, [102, 105]), (64258, [102, 108]), (64259, [102, 102, 105]), (64260, [102, 102, 108]), (64261, [115, 116])]
def namL (r : Int) : List (Int × List Int) → List Int
  | [] => [r]
  | p :: m => if r = p.1 then p.2 else namL r m
theorem namL_self (r : Int) : ∀ l : List (Int × List Int), (r ∉ l.map (·.1)) → namL r l = [r]
  | [], _ => rfl
  | p :: m, h => by
    simp only [List.map_cons, List.mem_cons, not_or] at h
    unfold namL
    rw [if_neg h.1]
    exact namL_self r m h.2
end Go.Proofs.YtbffmopenjjjlaaDoor
