/- P24.1's FilterGrows, plainly. -/
import Derived.Test.YthbldkkjjjmegaaGreatDoorM07
namespace Go.Proofs.YthbldkkjjjmegaaGreatDoor
set_option maxRecDepth 100000
open Go.RowKit

/-- How deep. -/
def dpF : Fl → Nat
  | .mk _ _ _ _ _ _ _ _ _ _ kids => L kids + 1
  where
  L : List Fl → Nat
  | [] => 0
  | e :: t => max (dpF e) (L t)
theorem deep_dp (e : Fl) : ∀ k, 1 ≤ k → deepF e k = min k (dpF e) := by
  induction e using Fl.ind with
  | h c n v i a f hi hf r d kids ih =>
    intro k hk
    simp only [deepF, dpF]
    by_cases h1 : 1 < k
    · rw [if_pos h1]
      have : ∀ l : List Fl, (∀ e, e ∈ l → e ∈ kids) → deepF.L l (k - 1) = min (k - 1) (dpF.L l) := fun l => by
        induction l with
        | nil => intro _; simp [deepF.L, dpF.L]
        | cons a t iht =>
          intro hl
          simp only [deepF.L, dpF.L]
          rw [ih a (hl a (by simp)) (k - 1) (by omega), iht (fun e he => hl e (by simp [he]))]
          omega
      rw [this kids (fun _ h => h)]
      omega
    · rw [if_neg h1]
      omega
def kF (k : Int) (kids : List Fl) : Fl := .mk k ⟨#[]⟩ ⟨#[]⟩ ⟨#[]⟩ [] ⟨#[]⟩ false false ⟨#[]⟩ false kids
theorem chk_iff (e : Fl) : chkF e = 0 ↔ dpF e ≤ 8 ∧ totF e ≤ 60 ∧ allF e = true := by
  have ec : countF e = if 8 < dpF e then 61 else min 61 (totF e) := by
    unfold countF
    rw [deep_dp e 9 (by decide), cnt_tot]
    by_cases h : 8 < dpF e
    · rw [if_pos h, if_pos (by omega)]
    · rw [if_neg h, if_neg (by omega)]
  unfold chkF
  rw [deep_dp e 9 (by decide), ec]
  constructor
  · intro h
    by_cases hb : 8 < min 9 (dpF e) ∨ 60 < (if 8 < dpF e then 61 else min 61 (totF e)) ∨ allF e = false
    · rw [if_pos hb] at h; cases h
    · have h1 : ¬ 8 < dpF e := fun x => hb (.inl (by omega))
      have h2 : ¬ 60 < (if 8 < dpF e then 61 else min 61 (totF e)) := fun x => hb (.inr (.inl x))
      rw [if_neg h1] at h2
      refine ⟨by omega, by omega, ?_⟩
      cases ha : allF e
      · exact absurd (.inr (.inr ha)) hb
      · rfl
  · rintro ⟨h1, h2, h3⟩
    rw [if_neg]
    rintro (h | h | h)
    · omega
    · rw [if_neg (by omega)] at h; omega
    · rw [h3] at h; cases h
theorem not_all (a : Fl) (h : allF a = true) : allF (kF 2 [a]) = true := by
  unfold kF
  simp only [allF, allF.L, h, Bool.true_and]
  kernel_rfl
theorem and_all (a b : Fl) (h : allF a = true) (h2 : allF b = true) : allF (kF 0 [a, b]) = true := by
  unfold kF
  simp only [allF, allF.L, h, h2, Bool.true_and]
  kernel_rfl
/-- Not of a filter that may be. -/
theorem not_grows {a : Fl} (h : chkF a = 0) : (chkF (kF 2 [a]) = 0) ↔ (deepF a 9 < 8 ∧ countF a < 60) := by
  obtain ⟨h1, h2, h3⟩ := (chk_iff a).1 h
  rw [chk_iff]
  unfold countF
  rw [deep_dp a 9 (by decide), cnt_tot, if_neg (by omega)]
  have e1 : dpF (kF 2 [a]) = dpF a + 1 := by unfold kF; simp [dpF, dpF.L]
  have e2 : totF (kF 2 [a]) = 1 + totF a := by unfold kF; simp [totF, totF.L]
  rw [e1, e2]
  have h4 := not_all a h3
  constructor
  · rintro ⟨p, q, _⟩; omega
  · rintro ⟨p, q⟩; exact ⟨by omega, by omega, h4⟩
/-- And of two. -/
theorem and_grows {a b : Fl} (h : chkF a = 0) (h' : chkF b = 0) : (chkF (kF 0 [a, b]) = 0) ↔ (max (deepF a 9) (deepF b 9) + 1 ≤ 8 ∧ countF a + countF b + 1 ≤ 60) := by
  obtain ⟨h1, h2, h3⟩ := (chk_iff a).1 h
  obtain ⟨g1, g2, g3⟩ := (chk_iff b).1 h'
  rw [chk_iff]
  unfold countF
  rw [deep_dp a 9 (by decide), deep_dp b 9 (by decide), cnt_tot, cnt_tot, if_neg (by omega), if_neg (by omega)]
  have e1 : dpF (kF 0 [a, b]) = max (dpF a) (dpF b) + 1 := by unfold kF; simp [dpF, dpF.L]
  have e2 : totF (kF 0 [a, b]) = 1 + (totF a + totF b) := by unfold kF; simp [totF, totF.L]
  rw [e1, e2]
  have h4 := and_all a b h3 g3
  constructor
  · rintro ⟨p, q, _⟩; omega
  · rintro ⟨p, q⟩; exact ⟨by omega, by omega, h4⟩
end Go.Proofs.YthbldkkjjjmegaaGreatDoor
