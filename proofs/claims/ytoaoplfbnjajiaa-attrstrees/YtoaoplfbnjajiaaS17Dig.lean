/- The decimal digits of a number, plainly. -/
import Derived.WalkKit
namespace Go.Proofs.Ytoaoplfbnjajiaa.S17
/-- A number's decimal digits. -/
def digN (n : Nat) : List Int := if _h : n < 10 then [48 + (n : Int)] else digN (n / 10) ++ [48 + ((n % 10 : Nat) : Int)]
theorem digN_small {n : Nat} (h : n < 10) : digN n = [48 + (n : Int)] := by rw [digN, dif_pos h]
theorem digN_big {n : Nat} (h : ¬ n < 10) : digN n = digN (n / 10) ++ [48 + ((n % 10 : Nat) : Int)] := by rw [digN, dif_neg h]
theorem digN_bound (n : Nat) : ∀ x ∈ digN n, 48 ≤ x ∧ x ≤ 57 := by
  induction n using Nat.strongRecOn with
  | _ n ih =>
    intro x hx
    by_cases h : n < 10
    · rw [digN_small h] at hx; simp at hx; omega
    · rw [digN_big h] at hx
      rcases List.mem_append.1 hx with h1 | h1
      · exact ih (n / 10) (by omega) x h1
      · simp at h1; omega
theorem digN_len (k : Nat) : ∀ n, n < 10 ^ (k + 1) → (digN n).length ≤ k + 1 := by
  induction k with
  | zero => intro n h; rw [digN_small (by simpa using h)]; simp
  | succ k ih =>
    intro n h
    by_cases h1 : n < 10
    · rw [digN_small h1]; simp
    · rw [digN_big h1]
      have := ih (n / 10) (by rw [Nat.pow_succ] at h; omega)
      simp; omega
end Go.Proofs.Ytoaoplfbnjajiaa.S17