/- What is folded stays so; what was mapped has nothing that is left out, and no space but one: plainly. -/
import Derived.Test.YtbffmopenjjjlaaDoorRFol9
namespace Go.Proofs.YtbffmopenjjjlaaDoor

/-- The numbers from a on, n of them. -/
def upto (a : Int) : Nat → List Int
  | 0 => []
  | n + 1 => a :: upto (a + 1) n
theorem mem_upto : ∀ (n : Nat) (a r : Int), a ≤ r → r < a + n → r ∈ upto a n
  | 0, a, r, h1, h2 => by omega
  | n + 1, a, r, h1, h2 => by
    by_cases e : r = a
    · simp [upto, e]
    · exact List.mem_cons_of_mem _ (mem_upto n (a + 1) r (by omega) (by push_cast at h2; omega))
/-- All that may be folded to something else. -/
def touched : List Int := upto 65 26 ++ [223, 304, 329, 64256, 64257, 64258, 64259, 64260, 64261] ++ rows9.flatMap fun o => upto o.f (o.t - o.f + 1).toNat
/-- What is asked of each. -/
def ok9 (r : Int) : Bool := (foldL r).all fun y => decide (foldL y = [y]) && (decide (kd r = 5) || decide (kd r = 6) || !(decide (kd y = 5) || decide (kd y = 6)))
theorem touched_ok : touched.all ok9 = true := by kernel_rfl
theorem rowF_self (r : Int) : ∀ l : List Fo, (∀ o, o ∈ l → ¬ (o.f ≤ r ∧ r ≤ o.t)) → rowF r l = [r]
  | [], _ => rfl
  | o :: m, h => by
    unfold rowF
    have : inF o r = false := decide_eq_false fun e => h o (by simp) ⟨e.1, e.2.1⟩
    rw [this]
    exact rowF_self r m fun q hq => h q (by simp [hq])
theorem fold_touched (r : Int) : foldL r = [r] ∨ r ∈ touched := by
  unfold foldL
  by_cases h0 : 0 ≤ r ∧ r < 128
  · rw [if_pos h0]
    by_cases h1 : 65 ≤ r ∧ r ≤ 90
    · exact .inr (by unfold touched; simp only [List.mem_append]; exact .inl (.inl (mem_upto 26 65 r h1.1 (by omega))))
    · rw [if_neg h1]; exact .inl rfl
  · rw [if_neg h0]
    cases hs : spec9 r with
    | some l =>
      refine .inr ?_
      unfold touched
      simp only [List.mem_append]
      refine .inl (.inr ?_)
      unfold spec9 at hs
      repeat' split at hs
      all_goals first | (subst_vars; simp; done) | cases hs
    | none =>
      simp only
      by_cases h : ∃ o, o ∈ rows9 ∧ (o.f ≤ r ∧ r ≤ o.t)
      · obtain ⟨o, ho, h1, h2⟩ := h
        refine .inr ?_
        unfold touched
        simp only [List.mem_append]
        exact .inr (List.mem_flatMap.2 ⟨o, ho, mem_upto _ _ _ h1 (by omega)⟩)
      · exact .inl (rowF_self r rows9 fun o ho e => h ⟨o, ho, e⟩)
theorem fold_ok (r : Int) : ok9 r = true := by
  rcases fold_touched r with h | h
  · unfold ok9
    rw [h]
    simp only [List.all_cons, List.all_nil, Bool.and_true]
    rw [h]
    by_cases h5 : kd r = 5 <;> by_cases h6 : kd r = 6 <;> simp [h5, h6]
  · exact List.all_eq_true.1 touched_ok r h
theorem fold_closed {r y : Int} (h : y ∈ foldL r) : foldL y = [y] ∧ (kd r ≠ 5 → kd r ≠ 6 → kd y ≠ 5 ∧ kd y ≠ 6) := by
  have := List.all_eq_true.1 (fold_ok r) y h
  simp only [Bool.and_eq_true, decide_eq_true_eq, Bool.or_eq_true, Bool.not_eq_true', Bool.or_eq_false_iff, decide_eq_false_iff_not] at this
  refine ⟨this.1, fun h5 h6 => ?_⟩
  rcases this.2 with (h' | h') | h'
  · exact absurd h' h5
  · exact absurd h' h6
  · exact h'
theorem kd_32 : kd 32 = 5 := by kernel_rfl
theorem fold_32 : foldL 32 = [32] := by kernel_rfl
/-- What was mapped: each is told so again. -/
theorem mapO_mem {fo : Bool} {r y : Int} (h : y ∈ mapO fo r) : kd y ≠ 6 ∧ (kd y = 5 → y = 32) ∧ (fo = true → foldL y = [y]) := by
  unfold mapO at h
  by_cases h6 : kd r = 6
  · rw [if_pos h6] at h; simp at h
  · rw [if_neg h6] at h
    by_cases h5 : kd r = 5
    · rw [if_pos h5] at h
      simp only [List.mem_cons, List.not_mem_nil, or_false] at h
      subst h
      exact ⟨by rw [kd_32]; decide, fun _ => rfl, fun _ => fold_32⟩
    · rw [if_neg h5] at h
      cases fo
      · simp only [Bool.false_eq_true, if_false, List.mem_cons, List.not_mem_nil, or_false] at h
        subst h
        exact ⟨h6, fun e => absurd e h5, fun e => by cases e⟩
      · simp only [if_true] at h
        obtain ⟨h1, h2⟩ := fold_closed h
        obtain ⟨h3, h4⟩ := h2 h5 h6
        exact ⟨h4, fun e => absurd e h3, fun _ => h1⟩
theorem mapO_self {fo : Bool} {y : Int} (h6 : kd y ≠ 6) (h5 : kd y = 5 → y = 32) (hf : fo = true → foldL y = [y]) : mapO fo y = [y] := by
  unfold mapO
  rw [if_neg h6]
  by_cases e : kd y = 5
  · rw [if_pos e, h5 e]
  · rw [if_neg e]
    cases fo
    · rfl
    · simp only [if_true]; exact hf rfl
theorem mapL_mem {fo : Bool} {l : List Int} {y : Int} (h : y ∈ mapL fo l) : kd y ≠ 6 ∧ (kd y = 5 → y = 32) ∧ (fo = true → foldL y = [y]) := by
  obtain ⟨r, _, h⟩ := List.mem_flatMap.1 h
  exact mapO_mem h
theorem flat_self {f : Int → List Int} : ∀ (l : List Int), (∀ x, x ∈ l → f x = [x]) → l.flatMap f = l
  | [], _ => rfl
  | x :: l, h => by rw [List.flatMap_cons, h x (by simp), flat_self l fun y hy => h y (by simp [hy])]; rfl
theorem mapL_again (fo : Bool) (l : List Int) : mapL fo (mapL fo l) = mapL fo l :=
  flat_self _ fun _ hx => let ⟨a, b, c⟩ := mapL_mem hx; mapO_self a b c
theorem mapL_folded (l : List Int) : foldedB (mapL true l) = true := by
  unfold foldedB
  rw [List.all_eq_true]
  exact fun x hx => decide_eq_true ((mapL_mem hx).2.2 rfl)
end Go.Proofs.YtbffmopenjjjlaaDoor
