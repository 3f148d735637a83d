/- Plain mathematics of UTF-8: code points, their bytes, and what bytes are read as. Nothing of the program. -/
import Derived.Test.YtegpdppfdgcljaaBase
import Derived.WalkKit
namespace Go.Proofs.Ytegpdppfdgcljaa
open Go.RowKit

/-- A code point. -/
def isPt (r : Int) : Bool := decide ((0 ≤ r ∧ r < 55296) ∨ (57343 < r ∧ r ≤ 1114111))

theorem isPt_iff (r : Int) : isPt r = true ↔ (0 ≤ r ∧ r < 55296) ∨ (57343 < r ∧ r ≤ 1114111) := by unfold isPt; simp
theorem isPt_not (r : Int) : isPt r = false ↔ (r < 0 ∨ (55296 ≤ r ∧ r ≤ 57343) ∨ 1114111 < r) := by
  unfold isPt; rw [decide_eq_false_iff_not]; omega
theorem isPt_lo {r : Int} (h : isPt r = true) : 0 ≤ r ∧ r ≤ 1114111 := by rw [isPt_iff] at h; omega

/-- How many bytes. -/
def lenOf (r : Int) : Int := if isPt r then (if r < 128 then 1 else if r < 2048 then 2 else if r < 65536 then 3 else 4) else 0

/-- The bytes of a code point. -/
def enc1 (r : Int) : List Int :=
  if r < 128 then [r] else if r < 2048 then [192 + r / 64, 128 + r % 64]
  else if r < 65536 then [224 + r / 4096, 128 + r / 64 % 64, 128 + r % 64]
  else [240 + r / 262144, 128 + r / 4096 % 64, 128 + r / 64 % 64, 128 + r % 64]

theorem enc1_len {r : Int} (h : isPt r = true) : ((enc1 r).length : Int) = lenOf r := by
  unfold enc1 lenOf
  rw [if_pos h]
  split
  · rfl
  · split
    · rfl
    · split <;> rfl

/-- The bytes of several. -/
def encL : List Int → List Int
  | [] => []
  | r :: l => enc1 r ++ encL l

theorem encL_append (a b : List Int) : encL (a ++ b) = encL a ++ encL b := by
  induction a with
  | nil => rfl
  | cons r a ih => simp [encL, ih, List.append_assoc]
theorem enc1_bound (r : Int) : (enc1 r).length ≤ 4 := by
  unfold enc1
  split
  · simp
  · split
    · simp
    · split <;> simp
theorem encL_bound (l : List Int) : (encL l).length ≤ 4 * l.length := by
  induction l with
  | nil => simp [encL]
  | cons r l ih => have := enc1_bound r; simp [encL]; omega

def okL (l : List Int) : Bool := l.all isPt

end Go.Proofs.Ytegpdppfdgcljaa
