/- The program's own table and its named ones: the same as the document's, plainly. -/
import Derived.Test.YtbffmopenjjjlaaDoorMath9
import Derived.Test.YtbffmopenjjjlaaDoorSt9
namespace Go.Proofs.YtbffmopenjjjlaaDoor

def touched2 : List Int := nms9.map (·.1) ++ sts9.flatMap fun o => upto o.f (o.t - o.f + 1).toNat
theorem stL_self (r : Int) (hn : r ∉ nms9.map (·.1)) : ∀ l : List Fo, (∀ o, o ∈ l → ¬ (o.f ≤ r ∧ r ≤ o.t)) → stL r l = [r]
  | [], _ => namL_self r nms9 hn
  | o :: m, h => by
    unfold stL
    have : inF o r = false := decide_eq_false fun e => h o (by simp) ⟨e.1, e.2.1⟩
    rw [this]
    exact stL_self r hn m fun q hq => h q (by simp [hq])
theorem stL_touched (r : Int) : stL r sts9 = [r] ∨ r ∈ touched2 := by
  by_cases hn : r ∈ nms9.map (·.1)
  · exact .inr (List.mem_append.2 (.inl hn))
  · by_cases h : ∃ o, o ∈ sts9 ∧ (o.f ≤ r ∧ r ≤ o.t)
    · obtain ⟨o, ho, h1, h2⟩ := h
      exact .inr (List.mem_append.2 (.inr (List.mem_flatMap.2 ⟨o, ho, mem_upto _ _ _ h1 (by omega)⟩)))
    · exact .inl (stL_self r hn sts9 fun o ho e => h ⟨o, ho, e⟩)
theorem same_touched : ((touched ++ touched2).all fun r => decide (stL r sts9 = foldL r)) = true := by kernel_rfl
/-- The program's way and the document's. -/
theorem stL_fold (r : Int) : stL r sts9 = foldL r := by
  by_cases h : r ∈ touched ++ touched2
  · exact of_decide_eq_true (List.all_eq_true.1 same_touched r h)
  · simp only [List.mem_append, not_or] at h
    rcases fold_touched r with e | e
    · rcases stL_touched r with e' | e'
      · rw [e, e']
      · exact absurd e' h.2
    · exact absurd e h.1
end Go.Proofs.YtbffmopenjjjlaaDoor
