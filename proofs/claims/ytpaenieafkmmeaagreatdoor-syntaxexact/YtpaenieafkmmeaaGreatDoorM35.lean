/- Names in memory: slices of pairs, slices of parts. -/
import Derived.Test.YtpaenieafkmmeaaGreatDoorM34
import Derived.ScopeJumps
import Derived.Laws.BitsAllLaws
namespace Go.Proofs.YtpaenieafkmmeaaGreatDoor.S18
set_option maxRecDepth 100000
open Go.RowKit

/-- A slice that holds the pairs l. -/
def PsV (w : World) (v : Value) (l : List Pr) : Prop :=
  ∃ a cap, v = .slice a l.length cap ∧ l.length ≤ 9223372036854775807 ∧ (0 < l.length → ∃ b off, a = some ⟨b, off, none⟩ ∧ ∀ j, j < l.length →
    w.cell? ⟨b, off + j * 2, none⟩ = some (.string (l.getD j pr0).nam) ∧ w.cell? ⟨b, off + j * 2 + 1, none⟩ = some (.string (l.getD j pr0).val))
theorem PsV.below {w w2 : World} {v : Value} {l : List Pr} (h : PsV w v l) (hb : Below w.heap.size w w2) : PsV w2 v l := by
  obtain ⟨a, cap, rfl, hn, hc⟩ := h
  refine ⟨a, cap, rfl, hn, fun i => ?_⟩
  obtain ⟨b, off, rfl, hcc⟩ := hc i
  refine ⟨b, off, rfl, fun j hj => ?_⟩
  obtain ⟨h1, h2⟩ := hcc j hj
  exact ⟨(hb.cell (p := ⟨b, off + j * 2, none⟩) (cell_lt h1)).trans h1, (hb.cell (p := ⟨b, off + j * 2 + 1, none⟩) (cell_lt h2)).trans h2⟩
theorem PsV.nil (w : World) (a : Option Addr) (c : Nat) : PsV w (.slice a 0 c) [] := ⟨a, c, rfl, by simp, fun h => absurd h (Nat.lt_irrefl _)⟩
theorem PsV.shape {w : World} {v : Value} {l : List Pr} (h : PsV w v l) : ∃ a c, v = .slice a l.length c := by
  obtain ⟨a, c, h, _⟩ := h
  exact ⟨a, c, h⟩
/-- A slice that holds the parts n. -/
def NmV (w : World) (v : Value) (n : List (List Pr)) : Prop :=
  ∃ a cap, v = .slice a n.length cap ∧ n.length ≤ cap ∧ n.length ≤ 9223372036854775807 ∧ (0 < n.length → ∃ b off, a = some ⟨b, off, none⟩ ∧ ∀ j, j < n.length → ∃ rv, w.cell? ⟨b, off + j, none⟩ = some rv ∧ PsV w rv (n.getD j []))
theorem NmV.below {w w2 : World} {v : Value} {n : List (List Pr)} (h : NmV w v n) (hb : Below w.heap.size w w2) : NmV w2 v n := by
  obtain ⟨a, cap, rfl, hn, hm, hc⟩ := h
  refine ⟨a, cap, rfl, hn, hm, fun i => ?_⟩
  obtain ⟨b, off, rfl, hcc⟩ := hc i
  refine ⟨b, off, rfl, fun j hj => ?_⟩
  obtain ⟨rv, h1, h2⟩ := hcc j hj
  exact ⟨rv, (hb.cell (p := ⟨b, off + j, none⟩) (cell_lt h1)).trans h1, h2.below hb⟩
theorem NmV.nil (w : World) (a : Option Addr) (c : Nat) : NmV w (.slice a 0 c) [] := ⟨a, c, rfl, Nat.zero_le _, by simp, fun h => absurd h (Nat.lt_irrefl _)⟩
theorem NmV.shape {w : World} {v : Value} {n : List (List Pr)} (h : NmV w v n) : ∃ a c, v = .slice a n.length c := by
  obtain ⟨a, c, h, _⟩ := h
  exact ⟨a, c, h⟩
theorem getD_memR (n : List (List Pr)) (k : Nat) (h : k < n.length) : n.getD k [] ∈ n := by simp [List.getD, h]
theorem getD_memP (n : List Pr) (k : Nat) (h : k < n.length) : n.getD k pr0 ∈ n := by simp [List.getD, h]
theorem drop_consR (l : List (List Pr)) (i : Nat) (h : i < l.length) : l.drop i = l.getD i [] :: l.drop (i + 1) := by
  rw [List.drop_eq_getElem_cons h]
  simp [List.getD, h]
theorem drop_consP (l : List Pr) (i : Nat) (h : i < l.length) : l.drop i = l.getD i pr0 :: l.drop (i + 1) := by
  rw [List.drop_eq_getElem_cons h]
  simp [List.getD, h]
theorem drop_consI (l : List Int) (i : Nat) (h : i < l.length) : l.drop i = l.getD i 0 :: l.drop (i + 1) := by
  rw [List.drop_eq_getElem_cons h]
  simp [List.getD, h]
/-- All in a list are so, told place by place. -/
theorem all_of {α : Type} (p : α → Bool) (d : α) (l : List α) (h : ∀ k, k < l.length → p (l.getD k d) = true) : l.all p = true := by
  rw [List.all_eq_true]
  intro x hx
  obtain ⟨k, hk, rfl⟩ := List.getElem_of_mem hx
  have := h k hk
  simpa [List.getD, hk] using this
theorem all_at {α : Type} {p : α → Bool} {d : α} {l : List α} (h : l.all p = true) (k : Nat) (hk : k < l.length) : p (l.getD k d) = true := by
  rw [List.all_eq_true] at h
  exact h _ (by simp [List.getD, hk])
theorem chk_yes {n : List (List Pr)} (h : okN n = true) : chkN n = 0 := by unfold chkN; rw [if_pos h]
theorem chk_no {n : List (List Pr)} (h : okN n = false) : chkN n = 220 := by unfold chkN; rw [h]; rfl
end Go.Proofs.YtpaenieafkmmeaaGreatDoor.S18
/- Texts: their bytes as a slice, parts of them. -/
namespace Go.Proofs.YtpaenieafkmmeaaGreatDoor.S18
set_option maxRecDepth 100000
open Go.RowKit

/-- The bytes of a text, as a new slice. -/
theorem bytes_new (t : ByteArray) (w : World) : ∃ (w1 : World) (cap1 : Nat), (convert 9 79 (.string t)).run Tryz.prog w = .ok (.slice (some ⟨w.heap.size, 0, none⟩) t.size cap1) w1 ∧
    (∀ j, j < t.size → w1.cell? ⟨w.heap.size, j, none⟩ = some (.int .u8 ((nums t).getD j 0))) ∧ Below w.heap.size w w1 := by
  refine ⟨_, _, run_bytes_of_string w 9 79 5 t Tryz.underlying9 Tryz.underlying79 Tryz.underlying5, ?_, ((Below.refl _ _).drew).alloc (Nat.le_refl _) _⟩
  intro j hj
  have := World.cell?_alloc_mark w.drew (bytesRow t (grownCap w t.size 0 5)) 5 ((bytesRow t (grownCap w t.size 0 5)).size, (bytesRow t (grownCap w t.size 0 5)).size + 1) j
  refine this.trans ?_
  rw [bytesRow_at t _ j (by simpa using hj), nums_at t j hj]
  rfl
theorem nums_sub (s : ByteArray) (a b : Nat) : nums (s.extract a b) = ((nums s).drop a).take (b - a) := by
  simp [nums, ByteArray.data_extract, Array.toList_extract, List.extract, List.map_take, List.map_drop]
theorem nums_drop (s : ByteArray) (a : Nat) : nums (s.extract a s.size) = (nums s).drop a := by
  rw [nums_sub]
  exact List.take_of_length_le (by rw [List.length_drop, nums_length]; omega)
theorem getD_sub (l : List Int) (a n j : Nat) (h : j < n) : ((l.drop a).take n).getD j 0 = l.getD (a + j) 0 := by
  simp [List.getD, h]
theorem getD_nums (s : ByteArray) (j : Nat) : 0 ≤ (nums s).getD j 0 ∧ (nums s).getD j 0 < 256 := by
  by_cases h : j < (nums s).length
  · have : (nums s).getD j 0 = (nums s)[j] := by simp [List.getD, h]
    rw [this]; exact nums_bound s _ (List.getElem_mem h)
  · simp [List.getD, List.getElem?_eq_none (Nat.le_of_not_lt h)]
theorem toList_none {s : ByteArray} (h : s.size = 0) : s.toList.isEmpty = true := by
  rw [List.isEmpty_iff, ByteArray.toList_eq]
  exact List.eq_nil_of_length_eq_zero (by rw [Array.length_toList]; exact h)
theorem toList_some {s : ByteArray} (h : 0 < s.size) : s.toList.isEmpty = false := by
  cases h2 : s.toList.isEmpty
  · rfl
  · rw [List.isEmpty_iff] at h2
    have h3 := congrArg List.length h2
    rw [ByteArray.toList_eq, Array.length_toList] at h3
    have h4 : s.size = 0 := h3
    omega
end Go.Proofs.YtpaenieafkmmeaaGreatDoor.S18
