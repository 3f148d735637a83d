/- Signs, plainly: the first sign of a text. -/
import Derived.Test.YthbldkkjjjmegaaGreatDoorM24
namespace Go.Proofs.YthbldkkjjjmegaaGreatDoor
set_option maxRecDepth 100000
open Go.RowKit

/-- The sign that a text begins with: its kind, and the rest. -/
def sgA (l : List Int) : Option (Int × List Int) :=
  match l with
  | [] => none
  | c :: t => if c = 61 then some (3, t) else
    match t with
    | [] => none
    | d :: u => if d = 61 then (if c = 62 then some (5, u) else if c = 60 then some (6, u) else if c = 126 then some (8, u) else if c = 58 then some (9, u) else none) else none
/-- What stands ahead of the first sign, its kind, and what stands behind. -/
def cutS : List Int → Option (List Int × Int × List Int)
  | [] => none
  | c :: t =>
    match sgA (c :: t) with
    | some (k, r) => some ([], k, r)
    | none => (cutS t).map fun x => (c :: x.1, x.2)
theorem kdL_nil : kdL [] = 3 := by decide
theorem kdL_cons (c d : Int) (t : List Int) : kdL (c :: d :: t) = kdL (d :: t) := by
  unfold kdL
  rw [List.getLast?_cons_cons]
theorem cutS_doc : ∀ (l : List Int), cutS l = (cutL 61 l).map fun x => (if kdL x.1 = 3 then x.1 else x.1.dropLast, kdL x.1, x.2)
  | [] => rfl
  | c :: t => by
    rw [cutS, cutL]
    by_cases hc : c = 61
    · subst hc
      have : sgA (61 :: t) = some (3, t) := by unfold sgA; rfl
      rw [this, if_pos rfl]
      rfl
    rw [if_neg hc]
    have ih := cutS_doc t
    cases t with
    | nil =>
      have : sgA [c] = none := by unfold sgA; simp [hc]
      rw [this]
      rfl
    | cons d u =>
      by_cases hd : d = 61
      · subst hd
        have hcu : cutL 61 (61 :: u) = some ([], u) := by rw [cutL, if_pos rfl]
        rw [hcu] at ih ⊢
        by_cases h1 : c = 62
        · subst h1; rfl
        by_cases h2 : c = 60
        · subst h2; rfl
        by_cases h3 : c = 126
        · subst h3; rfl
        by_cases h4 : c = 58
        · subst h4; rfl
        have hs : sgA (c :: 61 :: u) = none := by unfold sgA; simp [hc, h1, h2, h3, h4]
        have hk : kdL [c] = 3 := by unfold kdL; simp [h1, h2, h3, h4]
        rw [hs, ih]
        simp [kdL_nil, hk]
      · have hs : sgA (c :: d :: u) = none := by unfold sgA; simp [hc, hd]
        rw [hs, ih]
        cases hk : cutL 61 (d :: u) with
        | none => rfl
        | some p =>
          obtain ⟨h, r⟩ := p
          have hne : ∃ y z, h = y :: z := by
            rw [cutL, if_neg hd] at hk
            cases hk2 : cutL 61 u with
            | none => rw [hk2] at hk; cases hk
            | some q => rw [hk2] at hk; cases hk; exact ⟨_, _, rfl⟩
          obtain ⟨y, z, rfl⟩ := hne
          simp only [Option.map_some, kdL_cons, List.dropLast_cons_cons]
          split <;> rfl
theorem cutS_none {l : List Int} (h : cutS l = none) : cutL 61 l = none := by
  rw [cutS_doc] at h
  cases hk : cutL 61 l with
  | none => rfl
  | some p => rw [hk] at h; cases h
theorem cutS_some {l h t : List Int} {k : Int} (hc : cutS l = some (h, k, t)) : ∃ g, cutL 61 l = some (g, t) ∧ k = kdL g ∧ h.map smlC = hdL g := by
  rw [cutS_doc] at hc
  cases hk : cutL 61 l with
  | none => rw [hk] at hc; cases hc
  | some p =>
    obtain ⟨g, r⟩ := p
    rw [hk] at hc
    cases hc
    refine ⟨g, rfl, rfl, ?_⟩
    unfold hdL
    dsimp only
    split <;> rfl
end Go.Proofs.YthbldkkjjjmegaaGreatDoor
