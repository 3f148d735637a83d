/- Texts, as lists of numbers. -/
import Derived.Test.YtoaoplfbnjajiaaRn
import Derived.Shelf.RegionOpen
import Derived.Deep.RegionHeld3
namespace Go.Proofs.Ytoaoplfbnjajiaa
open Go.RowKit

/-- A text's bytes, as numbers. -/
def nums (t : ByteArray) : List Int := t.data.toList.map fun b => (b.toNat : Int)
theorem nums_length (t : ByteArray) : (nums t).length = t.size := by simp [nums]
theorem nums_bound (t : ByteArray) : ∀ x ∈ nums t, 0 ≤ x ∧ x < 256 := by
  intro x hx
  simp only [nums, List.mem_map] at hx
  obtain ⟨b, _, rfl⟩ := hx
  have := b.toNat_lt
  omega
theorem nums_at (t : ByteArray) (k : Nat) (h : k < t.size) : (nums t).getD k 0 = (t[k].toNat : Int) := by
  have h' : k < t.data.toList.length := by simpa using h
  simp [nums, List.getD, h]
  rfl
theorem strOfNums_nums (t : ByteArray) : strOfNums (nums t) = t := by
  apply ByteArray.ext
  apply Array.toList_inj.1
  rw [strOfNums_data]
  unfold nums
  rw [List.map_map]
  conv => rhs; rw [← List.map_id t.data.toList]
  apply List.map_congr_left
  intro x _
  simp
theorem nums_strOfNums (xs : List Int) (h : ∀ x ∈ xs, 0 ≤ x ∧ x < 256) : nums (strOfNums xs) = xs := by
  unfold nums
  rw [strOfNums_data, List.map_map]
  conv => rhs; rw [← List.map_id xs]
  apply List.map_congr_left
  intro x hx
  have := h x hx
  simp
  omega
theorem strOfNums_app (a b : List Int) : strOfNums a ++ strOfNums b = strOfNums (a ++ b) := by
  unfold strOfNums
  rw [ByteArray.mk_append_mk, List.map_append]
theorem str_same (xs : List Int) (h : ∀ x ∈ xs, 0 ≤ x ∧ x < 256) (t : ByteArray) : ((strOfNums xs).toList == t.toList) = decide (xs = nums t) := by
  rw [Bool.eq_iff_iff]
  simp
  constructor
  · intro e
    have e' : strOfNums xs = t := by
      apply ByteArray.ext
      apply Array.toList_inj.1
      rw [← ByteArray.toList_eq, ← ByteArray.toList_eq]
      exact e
    rw [← e', nums_strOfNums _ h]
  · intro e
    rw [e, strOfNums_nums]
theorem ret_str {a b : ByteArray} (h : a = b) : Ending.returned (.string a) = .returned (.string b) := by rw [h]
theorem ret_se {a b : ByteArray} {c d : Int} (h : a = b) (h' : c = d) : Ending.returned (.tuple #[.string a, .int .i64 c]) = .returned (.tuple #[.string b, .int .i64 d]) := by rw [h, h']
end Go.Proofs.Ytoaoplfbnjajiaa
