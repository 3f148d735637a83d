/- How many elements there are, and what follows. -/
import Derived.Test.YtcboggoindhmkaaDe16
import Derived.Test.YtcboggoindhmkaaRFin15
namespace Go.Proofs.Ytcboggoindhmkaa
open Go.RowKit

theorem fewL_le : ∀ (l : List El) (x : Int), (∀ e, e ∈ l → ∀ y : Int, 0 ≤ y → fewE e y ≤ y - 1) → fewE.L l x ≤ x
  | [], x, _ => by simp only [fewE.L]; omega
  | e :: t, x, h => by
    simp only [fewE.L]
    split
    · rename_i hx
      have h1 := h e (by simp) x hx
      have h2 := fewL_le t (fewE e x) fun e' he' => h e' (by simp [he'])
      omega
    · omega
theorem few_le (e : El) : ∀ x : Int, 0 ≤ x → fewE e x ≤ x - 1 := by
  induction e using El.ind with
  | h c m n s els ih =>
    intro x hx
    simp only [fewE]
    split
    · omega
    · exact fewL_le els (x - 1) ih
/-- Few elements: none too many in a list, nor too deep. -/
theorem fewL_all : ∀ (l : List El) (x : Int), (∀ e, e ∈ l → ∀ y : Int, 0 ≤ y → y ≤ 1000 → 0 ≤ fewE e y → fewN e ∧ (hgt e : Int) ≤ y) → x ≤ 1000 → 0 ≤ fewE.L l x → fewN.L l ∧ (hgt.L l : Int) ≤ x ∧ (l.length : Int) ≤ x
  | [], x, _, _, h => by
    simp only [fewE.L] at h
    simp only [fewN.L, hgt.L, List.length_nil]
    exact ⟨trivial, by omega, by omega⟩
  | e :: t, x, hh, h1, h => by
    simp only [fewE.L] at h
    by_cases hx : 0 ≤ x
    · rw [if_pos hx] at h
      have hle := few_le e x hx
      have ht := fewL_all t (fewE e x) (fun e' he' => hh e' (by simp [he'])) (by omega) h
      have h0 : 0 ≤ fewE e x := by have := ht.2.2; omega
      have he := hh e (by simp) x hx h1 h0
      simp only [fewN.L, hgt.L, List.length_cons]
      refine ⟨⟨he.1, ht.1⟩, ?_, ?_⟩
      · have a := he.2
        have b := ht.2.1
        omega
      · have b := ht.2.2
        omega
    · rw [if_neg hx] at h
      omega
theorem few_all (e : El) : ∀ x : Int, 0 ≤ x → x ≤ 1000 → 0 ≤ fewE e x → fewN e ∧ (hgt e : Int) ≤ x := by
  induction e using El.ind with
  | h c m n s els ih =>
    intro x hx h1 h
    simp only [fewE] at h
    split at h
    · omega
    · obtain ⟨a, b, d⟩ := fewL_all els (x - 1) ih (by omega) h
      simp only [fewN, hgt]
      exact ⟨⟨by omega, a⟩, by omega⟩
theorem few_els (e : El) (x : Int) (hx : 0 ≤ x) (h1 : x ≤ 1000) (h : 0 ≤ fewE e x) : e.els.length ≤ 1000 := (fewN_els (few_all e x hx h1 h).1).1
end Go.Proofs.Ytcboggoindhmkaa
