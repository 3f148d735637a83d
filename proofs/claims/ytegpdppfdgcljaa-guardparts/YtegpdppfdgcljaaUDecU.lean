/- Plain mathematics: the program's way of reading a code point. -/
import Derived.Test.YtegpdppfdgcljaaUDecPlain
namespace Go.Proofs.Ytegpdppfdgcljaa
open Go.RowKit

theorem headN_cases (a : Int) : (a < 128 ∧ headN a = 1 ∧ headR a = a) ∨ ((128 ≤ a ∧ (a < 192 ∨ 248 ≤ a)) ∧ headN a = 0 ∧ headR a = 0) ∨ ((192 ≤ a ∧ a < 224) ∧ headN a = 2 ∧ headR a = a % 32) ∨ ((224 ≤ a ∧ a < 240) ∧ headN a = 3 ∧ headR a = a % 16) ∨ ((240 ≤ a ∧ a < 248) ∧ headN a = 4 ∧ headR a = a % 8) := by
  unfold headN headR
  by_cases h1 : a < 128
  · simp [h1]
  by_cases h2 : a < 192 ∨ 248 ≤ a
  · rw [if_neg h1, if_pos h2, if_neg h1, if_pos h2]; simp; omega
  by_cases h3 : a < 224
  · rw [if_neg h1, if_neg h2, if_pos h3, if_neg h1, if_neg h2, if_pos h3]; simp; omega
  by_cases h4 : a < 240
  · rw [if_neg h1, if_neg h2, if_neg h3, if_pos h4, if_neg h1, if_neg h2, if_neg h3, if_pos h4]; simp; omega
  · rw [if_neg h1, if_neg h2, if_neg h3, if_neg h4, if_neg h1, if_neg h2, if_neg h3, if_neg h4]; simp; omega

theorem dec_no (L : List Int) (h1 : is1 L = false) (h2 : is2 L = false) (h3 : is3 L = false) (h4 : is4 L = false) : decN L = 0 ∧ decR L = 0 := by
  unfold decN decR
  simp [h1, h2, h3, h4]

theorem u_none (L : List Int) (h : headN (L.getD 0 0) = 0 ∨ (L.length : Int) < headN (L.getD 0 0)) (hl : 1 ≤ L.length) : decN L = 0 ∧ decR L = 0 := by
  have hc := headN_cases (L.getD 0 0)
  apply dec_no <;> (first | unfold is1 | unfold is2 | unfold is3 | unfold is4) <;> rw [decide_eq_false_iff_not] <;> omega

theorem u_cont (L : List Int) (j : Nat) (hj : 1 ≤ j) (hj' : (j : Int) < headN (L.getD 0 0)) (h : cont (L.getD j 0) = false) : decN L = 0 ∧ decR L = 0 := by
  have hc := headN_cases (L.getD 0 0)
  have hj4 : j = 1 ∨ j = 2 ∨ j = 3 := by omega
  apply dec_no
  · unfold is1; rw [decide_eq_false_iff_not]; omega
  · unfold is2; rw [decide_eq_false_iff_not]; rintro ⟨_, _, _, c1, _⟩
    rcases hj4 with rfl | rfl | rfl
    · rw [h] at c1; cases c1
    · omega
    · omega
  · unfold is3; rw [decide_eq_false_iff_not]; rintro ⟨_, _, _, c1, c2, _⟩
    rcases hj4 with rfl | rfl | rfl
    · rw [h] at c1; cases c1
    · rw [h] at c2; cases c2
    · omega
  · unfold is4; rw [decide_eq_false_iff_not]; rintro ⟨_, _, _, c1, c2, c3, _⟩
    rcases hj4 with rfl | rfl | rfl
    · rw [h] at c1; cases c1
    · rw [h] at c2; cases c2
    · rw [h] at c3; cases c3

theorem lenOf_eq (r : Int) (n : Int) (hn : 1 ≤ n) : lenOf r = n ↔ isPt r = true ∧ n = (if r < 128 then 1 else if r < 2048 then 2 else if r < 65536 then 3 else 4) := by
  unfold lenOf
  cases h : isPt r
  · simp; omega
  · simp; omega

theorem u_end (L : List Int) (hb : ∀ x ∈ L, 0 ≤ x ∧ x < 256) (m : Nat) (hm : headN (L.getD 0 0) = (m : Int) + 1) (hl : m + 1 ≤ L.length) (hc : ∀ j, 1 ≤ j → j ≤ m → cont (L.getD j 0) = true) :
    (lenOf (gF L (headR (L.getD 0 0)) m) = (m : Int) + 1 → decN L = (m : Int) + 1 ∧ decR L = gF L (headR (L.getD 0 0)) m) ∧
    (lenOf (gF L (headR (L.getD 0 0)) m) ≠ (m : Int) + 1 → decN L = 0 ∧ decR L = 0) := by
  have hh := headN_cases (L.getD 0 0)
  have b0 := getD_bound L hb 0
  have b1 := getD_bound L hb 1
  have b2 := getD_bound L hb 2
  have b3 := getD_bound L hb 3
  have hm4 : m = 0 ∨ m = 1 ∨ m = 2 ∨ m = 3 := by omega
  rcases hm4 with rfl | rfl | rfl | rfl
  · have hr : headR (L.getD 0 0) = L.getD 0 0 := by omega
    have h1 : is1 L = true := by unfold is1; rw [decide_eq_true_iff]; omega
    have hd : decN L = 1 ∧ decR L = L.getD 0 0 := by unfold decN decR; simp [h1]
    simp only [gF]
    rw [hr]
    refine ⟨fun _ => hd, fun h => absurd ?_ h⟩
    show lenOf _ = (1 : Int)
    rw [lenOf_eq _ _ (by omega), isPt_iff, if_pos (by omega)]
    exact ⟨by omega, rfl⟩
  · have hr : headR (L.getD 0 0) = L.getD 0 0 % 32 := by omega
    have e : gF L (headR (L.getD 0 0)) 1 = r2 L := by rw [hr]; rfl
    have c1 := hc 1 (by omega) (by omega)
    have hr2 : r2 L = 64 * (L.getD 0 0 % 32) + L.getD 1 0 % 64 := rfl
    have h1 : is1 L = false := by unfold is1; rw [decide_eq_false_iff_not]; omega
    have h3 : is3 L = false := by unfold is3; rw [decide_eq_false_iff_not]; omega
    have h4 : is4 L = false := by unfold is4; rw [decide_eq_false_iff_not]; omega
    rw [e]
    constructor
    · intro h
      have h' := (lenOf_eq _ _ (by omega)).1 h
      have h2 : is2 L = true := by
        unfold is2; rw [decide_eq_true_iff]
        refine ⟨by omega, by omega, by omega, c1, ?_⟩
        have := h'.2
        split at this <;> omega
      unfold decN decR; simp [h1, h2]
    · intro h
      refine dec_no L h1 ?_ h3 h4
      unfold is2; rw [decide_eq_false_iff_not]
      intro h2
      apply h
      rw [lenOf_eq _ _ (by omega), isPt_iff, if_neg (by omega), if_pos (by omega)]
      exact ⟨by omega, rfl⟩
  · have hr : headR (L.getD 0 0) = L.getD 0 0 % 16 := by omega
    have e : gF L (headR (L.getD 0 0)) 2 = r3 L := by rw [hr]; rfl
    have c1 := hc 1 (by omega) (by omega)
    have c2 := hc 2 (by omega) (by omega)
    have hr3 : r3 L = 64 * (64 * (L.getD 0 0 % 16) + L.getD 1 0 % 64) + L.getD 2 0 % 64 := rfl
    have h1 : is1 L = false := by unfold is1; rw [decide_eq_false_iff_not]; omega
    have h2 : is2 L = false := by unfold is2; rw [decide_eq_false_iff_not]; omega
    have h4 : is4 L = false := by unfold is4; rw [decide_eq_false_iff_not]; omega
    rw [e]
    constructor
    · intro h
      have h' := (lenOf_eq _ _ (by omega)).1 h
      have h3 : is3 L = true := by
        unfold is3; rw [decide_eq_true_iff]
        refine ⟨by omega, by omega, by omega, c1, c2, ?_, h'.1⟩
        have := h'.2
        split at this
        · omega
        · split at this <;> omega
      unfold decN decR; simp [h1, h2, h3]
    · intro h
      refine dec_no L h1 h2 ?_ h4
      unfold is3; rw [decide_eq_false_iff_not]
      intro h3
      apply h
      rw [lenOf_eq _ _ (by omega), if_neg (by omega), if_neg (by omega), if_pos (by omega)]
      exact ⟨h3.2.2.2.2.2.2, rfl⟩
  · have hr : headR (L.getD 0 0) = L.getD 0 0 % 8 := by omega
    have e : gF L (headR (L.getD 0 0)) 3 = r4 L := by rw [hr]; rfl
    have c1 := hc 1 (by omega) (by omega)
    have c2 := hc 2 (by omega) (by omega)
    have c3 := hc 3 (by omega) (by omega)
    have h1 : is1 L = false := by unfold is1; rw [decide_eq_false_iff_not]; omega
    have h2 : is2 L = false := by unfold is2; rw [decide_eq_false_iff_not]; omega
    have h3 : is3 L = false := by unfold is3; rw [decide_eq_false_iff_not]; omega
    rw [e]
    constructor
    · intro h
      have h' := (lenOf_eq _ _ (by omega)).1 h
      have h4 : is4 L = true := by
        unfold is4; rw [decide_eq_true_iff]
        refine ⟨by omega, by omega, by omega, c1, c2, c3, ?_, h'.1⟩
        have := h'.2
        split at this
        · omega
        · split at this
          · omega
          · split at this <;> omega
      unfold decN decR; simp [h1, h2, h3, h4]
    · intro h
      refine dec_no L h1 h2 h3 ?_
      unfold is4; rw [decide_eq_false_iff_not]
      intro h4
      apply h
      rw [lenOf_eq _ _ (by omega), if_neg (by omega), if_neg (by omega), if_neg (by omega)]
      exact ⟨h4.2.2.2.2.2.2.2, rfl⟩
end Go.Proofs.Ytegpdppfdgcljaa
