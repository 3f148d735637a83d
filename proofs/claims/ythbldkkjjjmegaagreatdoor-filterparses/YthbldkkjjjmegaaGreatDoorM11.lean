/- Texts: their bytes as a slice, parts of them. -/
import Derived.Test.YthbldkkjjjmegaaGreatDoorM05
import Derived.ScopeJumps
import Derived.Laws.BitsAllLaws
namespace Go.Proofs.YthbldkkjjjmegaaGreatDoor
set_option maxRecDepth 100000
open Go.RowKit

/-- The bytes of a text, as a new slice. -/
theorem bytes_new (t : ByteArray) (w : World) : ∃ (w1 : World) (cap1 : Nat), (convert 9 44 (.string t)).run Tryz.prog w = .ok (.slice (some ⟨w.heap.size, 0, none⟩) t.size cap1) w1 ∧
    (∀ j, j < t.size → w1.cell? ⟨w.heap.size, j, none⟩ = some (.int .u8 ((nums t).getD j 0))) ∧ Below w.heap.size w w1 := by
  refine ⟨_, _, run_bytes_of_string w 9 44 5 t Tryz.underlying9 Tryz.underlying44 Tryz.underlying5, ?_, ((Below.refl _ _).drew).alloc (Nat.le_refl _) _⟩
  intro j hj
  have := World.cell?_alloc_mark w.drew (bytesRow t (grownCap w t.size 0 5)) 5 ((bytesRow t (grownCap w t.size 0 5)).size, (bytesRow t (grownCap w t.size 0 5)).size + 1) j
  refine this.trans ?_
  rw [bytesRow_at t _ j (by simpa using hj), nums_at t j hj]
  rfl
theorem nums_sub (s : ByteArray) (a b : Nat) : nums (s.extract a b) = ((nums s).drop a).take (b - a) := by
  simp [nums, ByteArray.data_extract, Array.toList_extract, List.extract, List.map_take, List.map_drop]
theorem nums_drop (s : ByteArray) (a : Nat) : nums (s.extract a s.size) = (nums s).drop a := by
  rw [nums_sub]
  exact List.take_of_length_le (by rw [List.length_drop, nums_length]; omega)
theorem getD_sub (l : List Int) (a n j : Nat) (h : j < n) : ((l.drop a).take n).getD j 0 = l.getD (a + j) 0 := by
  simp [List.getD, h]
theorem getD_nums (s : ByteArray) (j : Nat) : 0 ≤ (nums s).getD j 0 ∧ (nums s).getD j 0 < 256 := by
  by_cases h : j < (nums s).length
  · have : (nums s).getD j 0 = (nums s)[j] := by simp [List.getD, h]
    rw [this]; exact nums_bound s _ (List.getElem_mem h)
  · simp [List.getD, List.getElem?_eq_none (Nat.le_of_not_lt h)]
theorem toList_none {s : ByteArray} (h : s.size = 0) : s.toList.isEmpty = true := by
  rw [List.isEmpty_iff, ByteArray.toList_eq]
  exact List.eq_nil_of_length_eq_zero (by rw [Array.length_toList]; exact h)
theorem toList_some {s : ByteArray} (h : 0 < s.size) : s.toList.isEmpty = false := by
  cases h2 : s.toList.isEmpty
  · rfl
  · rw [List.isEmpty_iff] at h2
    have h3 := congrArg List.length h2
    rw [ByteArray.toList_eq, Array.length_toList] at h3
    have h4 : s.size = 0 := h3
    omega
end Go.Proofs.YthbldkkjjjmegaaGreatDoor
