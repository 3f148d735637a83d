/- The document's Check, Cmp, Under and Above of layer 17, and the sameness of two lists. -/
import Derived.Test.YtpaenieafkmmeaaGreatDoorM28
import Derived.Shelf.RegionOpen
import Derived.Deep.RegionHeld3
import Derived.Deep.RegionWith
namespace Go.Proofs.YtpaenieafkmmeaaGreatDoor.S17
set_option maxRecDepth 100000
open Go.RowKit

theorem chk_short {l : List Int} (h : l.length < 2 ∨ 12 < l.length) : chkO l = 170 := by
  unfold chkO okO
  rw [decide_eq_false (by omega)]
  rfl
end Go.Proofs.YtpaenieafkmmeaaGreatDoor.S17
/- The document's Cmp, Under and Above of layer 17, and the sameness of two lists. -/
namespace Go.Proofs.YtpaenieafkmmeaaGreatDoor.S17
set_option maxRecDepth 100000
open Go.RowKit

theorem cmp_nil_left (m : List Int) : cmpL [] m = if 0 < m.length then -1 else 0 := by cases m <;> simp [cmpL]
theorem cmp_nil_right (l : List Int) : cmpL l [] = if 0 < l.length then 1 else 0 := by cases l <;> simp [cmpL]
end Go.Proofs.YtpaenieafkmmeaaGreatDoor.S17
/- The document's Under and Above of layer 17, and the sameness of two lists. -/
namespace Go.Proofs.YtpaenieafkmmeaaGreatDoor.S17
set_option maxRecDepth 100000
open Go.RowKit

theorem chk_yes {l : List Int} (h : okO l = true) : chkO l = 0 := by unfold chkO; rw [h]; rfl
theorem chk_no {l : List Int} (h : okO l = false) : chkO l = 170 := by unfold chkO; rw [h]; rfl
theorem Row.take {w : World} {a : Option Addr} {cap : Nat} {l : List Int} (h : Row w (.slice a l.length cap) l) (n c : Nat) (hn : n ≤ l.length) : Row w (.slice a n c) (l.take n) := by
  obtain ⟨a', cap', e, hc⟩ := h
  cases e
  have e : (l.take n).length = n := by simp; omega
  refine ⟨a, c, by rw [e], fun hi => ?_⟩
  rw [e] at hi
  obtain ⟨b, off, rfl, hcc⟩ := hc (by omega)
  refine ⟨b, off, rfl, fun j hj => ?_⟩
  rw [e] at hj
  rw [hcc j (by omega)]
  simp [List.getD, hj]
theorem Row.shape {w : World} {v : Value} {l : List Int} (h : Row w v l) : ∃ a c, v = .slice a l.length c := by
  obtain ⟨a, c, e, _⟩ := h
  exact ⟨a, c, e⟩
end Go.Proofs.YtpaenieafkmmeaaGreatDoor.S17
/- Texts, as lists of numbers. -/
namespace Go.Proofs.YtpaenieafkmmeaaGreatDoor.S17
set_option maxRecDepth 100000
open Go.RowKit

/-- A text's bytes, as numbers. -/
def nums (t : ByteArray) : List Int := t.data.toList.map fun b => (b.toNat : Int)
theorem nums_length (t : ByteArray) : (nums t).length = t.size := by simp [nums]
theorem nums_bound (t : ByteArray) : ∀ x ∈ nums t, 0 ≤ x ∧ x < 256 := by
  intro x hx
  simp only [nums, List.mem_map] at hx
  obtain ⟨b, _, rfl⟩ := hx
  have := b.toNat_lt
  omega
theorem nums_at (t : ByteArray) (k : Nat) (h : k < t.size) : (nums t).getD k 0 = (t[k].toNat : Int) := by
  have h' : k < t.data.toList.length := by simpa using h
  simp [nums, List.getD, h]
  rfl
theorem strOfNums_nums (t : ByteArray) : strOfNums (nums t) = t := by
  apply ByteArray.ext
  apply Array.toList_inj.1
  rw [strOfNums_data]
  unfold nums
  rw [List.map_map]
  conv => rhs; rw [← List.map_id t.data.toList]
  apply List.map_congr_left
  intro x _
  simp
theorem nums_strOfNums (xs : List Int) (h : ∀ x ∈ xs, 0 ≤ x ∧ x < 256) : nums (strOfNums xs) = xs := by
  unfold nums
  rw [strOfNums_data, List.map_map]
  conv => rhs; rw [← List.map_id xs]
  apply List.map_congr_left
  intro x hx
  have := h x hx
  simp
  omega
theorem strOfNums_app (a b : List Int) : strOfNums a ++ strOfNums b = strOfNums (a ++ b) := by
  unfold strOfNums
  rw [ByteArray.mk_append_mk, List.map_append]
theorem str_same (xs : List Int) (h : ∀ x ∈ xs, 0 ≤ x ∧ x < 256) (t : ByteArray) : ((strOfNums xs).toList == t.toList) = decide (xs = nums t) := by
  rw [Bool.eq_iff_iff]
  simp
  constructor
  · intro e
    have e' : strOfNums xs = t := by
      apply ByteArray.ext
      apply Array.toList_inj.1
      rw [← ByteArray.toList_eq, ← ByteArray.toList_eq]
      exact e
    rw [← e', nums_strOfNums _ h]
  · intro e
    rw [e, strOfNums_nums]
theorem ret_str {a b : ByteArray} (h : a = b) : Ending.returned (.string a) = .returned (.string b) := by rw [h]
theorem ret_se {a b : ByteArray} {c d : Int} (h : a = b) (h' : c = d) : Ending.returned (.tuple #[.string a, .int .i64 c]) = .returned (.tuple #[.string b, .int .i64 d]) := by rw [h, h']
/-- One byte as a text. -/
theorem conv_one {W : World} {b : Nat} {z : Int} (h : W.cell? ⟨b, 0, none⟩ = some (.int .u8 z)) :
    (convert 79 9 (.slice (some ⟨b, 0, none⟩) 1 1)).run Tryz.prog W = .ok (.string (strOfNums [z])) W := by
  refine run_convert_bytes_arg W 79 5 Tryz.underlying79 Tryz.underlying5 b 0 1 1 [z] rfl ?_ 9 Tryz.underlying9
  intro i hi
  have : i = 0 := by omega
  subst this
  simpa using h
theorem conv_new1 (w : World) (z : Int) : (convert 79 9 (.slice (some ⟨w.heap.size, 0, none⟩) 1 1)).run Tryz.prog (w.alloc (.cells #[.int .u8 z] 5)) = .ok (.string (strOfNums [z])) (w.alloc (.cells #[.int .u8 z] 5)) :=
  conv_one (box1 w _ _)
end Go.Proofs.YtpaenieafkmmeaaGreatDoor.S17
/- The document's digits of layer 17. -/
namespace Go.Proofs.YtpaenieafkmmeaaGreatDoor.S17
set_option maxRecDepth 100000
open Go.RowKit

theorem conv_gr {w w2 : World} {z : Int} (hg : Gr ((w.alloc (.cells #[.int .u8 z] 5)).drew) w2) : (convert 79 9 (.slice (some ⟨w.heap.size, 0, none⟩) 1 1)).run Tryz.prog w2 = .ok (.string (strOfNums [z])) w2 := conv_one (hg.cell (box1 w _ _))
end Go.Proofs.YtpaenieafkmmeaaGreatDoor.S17
/- The document's Show of layer 17. -/
namespace Go.Proofs.YtpaenieafkmmeaaGreatDoor.S17
set_option maxRecDepth 100000
open Go.RowKit

/-- What Show tells. -/
def shS (l : List Int) : ByteArray := if okO l then strOfNums (showO l) else strOfNums []
theorem showO_one (x : Int) : showO [x] = digN x.toNat := by simp [showO, joinO]
end Go.Proofs.YtpaenieafkmmeaaGreatDoor.S17
/- The document's Parse of layer 17. -/
namespace Go.Proofs.YtpaenieafkmmeaaGreatDoor.S17
set_option maxRecDepth 100000
open Go.RowKit

theorem ret_ve {v : Value} {c d : Int} (h : c = d) : Ending.returned (.tuple #[v, .int .i64 c]) = .returned (.tuple #[v, .int .i64 d]) := by rw [h]
end Go.Proofs.YtpaenieafkmmeaaGreatDoor.S17
/- The document's Above of layer 17. -/
namespace Go.Proofs.YtpaenieafkmmeaaGreatDoor.S17
set_option maxRecDepth 100000
open Go.RowKit

theorem Row.news {w : World} {b off n c : Nat} {l : List Int} (h : Row w (.slice (some ⟨b, off, none⟩) n c) l) : ∀ j v, (l.map (Value.int .i64))[j]? = .some v → w.cell? ((⟨b, off, none⟩ : Addr).add j) = .some v := fun j v hv => by
  obtain ⟨a', cap', e, hc⟩ := h
  cases e
  have hj : j < l.length := by have := (List.getElem?_eq_some_iff.1 hv).1; simpa using this
  obtain ⟨b', off', e', hcc⟩ := hc (by omega)
  cases e'
  have hadd : (⟨b, off, none⟩ : Addr).add j = ⟨b, off + j, none⟩ := by unfold Addr.add; split <;> simp_all
  rw [hadd, hcc j hj, ← hv]
  simp [List.getD, hj]
theorem Row.grow {a b : World} (h : Gr a b) {v : Value} {l : List Int} (hc : Row a v l) : Row b v l := hc.below h.below
end Go.Proofs.YtpaenieafkmmeaaGreatDoor.S17
