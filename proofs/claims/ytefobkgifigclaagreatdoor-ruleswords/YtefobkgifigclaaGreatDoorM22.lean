/- What is the call's own, and what only grows: plain facts on worlds. -/
import Derived.Test.YtefobkgifigclaaGreatDoorM21
import Derived.Deep.AppendLies
import Derived.Laws.OwnMore
import Derived.Test.YtefobkgifigclaaGreatDoorProg
import Derived.WalkKit
import Derived.WalkSpells
import Derived.WalkLawsBesides
import Derived.Shelf.RegionOpen
import Derived.Deep.RegionHeld3
import Derived.Deep.RegionWith
namespace Go.Proofs.YtefobkgifigclaaGreatDoor.S14
set_option maxRecDepth 100000
open Go.RowKit

theorem Gr.grown {a b : World} (h : Gr a b) (row : Option Nat) : a.grownBy b row := ⟨h.below.os, h.below.tape, h.below.output, h.size, fun i hi _ => h.below.block i hi⟩
theorem below_own {w w' : World} {B : Nat} {row : Option Nat} (h : w.grownBy w' row) (hB : B ≤ w.heap.size) (hr : ∀ g, row = some g → B ≤ g) : Below B w w' :=
  (Below.refl _ _).grown h hB hr
theorem own_block {w : World} {B e size n : Nat} {v : Value} {xs : List Value} (h : w.ownsRow B e size v n xs) : ∀ g, v.ownBlock = some g → B ≤ g := fun g hg => (h.lt g hg).1
theorem own_below {B e size n : Nat} {v : Value} {xs : List Value} {w w2 : World} (h : w.ownsRow B e size v n xs) (hb : Below w.heap.size w w2) : w2.ownsRow B e size v n xs :=
  h.kept (row := none) ⟨hb.os, hb.tape, hb.output, hb.size, fun k hk _ => hb.block k hk⟩ (by cases hv : v.ownBlock <;> simp)
theorem heap_new (w : World) (o : Obj) : (w.alloc o).heap[w.heap.size]? = some o := by
  show (w.heap.push o)[w.heap.size]? = some o
  simp
theorem add_zero3 (g j : Nat) : (⟨g, 0, none⟩ : Addr).add j = ⟨g, j, none⟩ := by unfold Addr.add; split <;> simp_all
end Go.Proofs.YtefobkgifigclaaGreatDoor.S14
/- Rows of whole numbers: handed in, or of the call's own; plain facts on worlds. -/
namespace Go.Proofs.YtefobkgifigclaaGreatDoor.S14
set_option maxRecDepth 100000
open Go.RowKit
open Go.Sort (grow)


/-- A slice that holds the numbers l. -/
def Row (w : World) (v : Value) (l : List Int) : Prop :=
  ∃ a cap, v = .slice a l.length cap ∧ (0 < l.length → ∃ b off, a = some ⟨b, off, none⟩ ∧ ∀ j, j < l.length → w.cell? ⟨b, off + j, none⟩ = some (.int .i64 (l.getD j 0)))
theorem Row.below {w w2 : World} {v : Value} {l : List Int} (h : Row w v l) (hb : Below w.heap.size w w2) : Row w2 v l := by
  obtain ⟨a, cap, rfl, hc⟩ := h
  refine ⟨a, cap, rfl, fun hi => ?_⟩
  obtain ⟨b, off, rfl, hcc⟩ := hc hi
  exact ⟨b, off, rfl, fun j hj => (hb.cell (p := ⟨b, off + j, none⟩) (cell_lt (hcc j hj))).trans (hcc j hj)⟩
theorem Row.nil (w : World) (a : Option Addr) (c : Nat) : Row w (.slice a 0 c) [] := ⟨a, c, rfl, fun h => absurd h (Nat.lt_irrefl _)⟩
/-- A row of numbers of the call's own. -/
def Rn (B : Nat) (v : Value) (l : List Int) (w : World) : Prop := w.ownsRow B 3 1 v l.length (l.map (Value.int .i64))
theorem Rn.nil (B : Nat) (w : World) : Rn B (.slice none 0 0) [] w := ⟨rfl, .inl ⟨rfl, rfl⟩⟩
theorem Rn.row {w : World} {B : Nat} {v : Value} {l : List Int} (h : Rn B v l w) : Row w v l := by
  rcases h.2 with ⟨hv, h0⟩ | ⟨g, cap, cur, hv, _⟩
  · exact ⟨none, 0, by rw [hv, h0], fun hi => by omega⟩
  · refine ⟨some ⟨g, 0, none⟩, cap, hv, fun hi => ⟨g, 0, rfl, fun j hj => ?_⟩⟩
    have := World.ownsRow.cells h (g := g) (by rw [hv]; rfl) j (.int .i64 (l.getD j 0)) (by simp [List.getD, hj])
    rw [add_zero3 g j] at this
    rw [Nat.zero_add]
    exact this
theorem Rn.shape {w : World} {B : Nat} {v : Value} {l : List Int} (h : Rn B v l w) : ∃ a c, v = .slice a l.length c := by
  rcases h.2 with ⟨hv, h0⟩ | ⟨g, cap, cur, hv, _⟩
  · exact ⟨none, 0, by rw [hv, h0]⟩
  · exact ⟨_, cap, hv⟩
theorem Rn.held {w : World} {B : Nat} {v : Value} {l : List Int} (h : Rn B v l w) (hl : 0 < l.length) : ∃ g c, v = .slice (some ⟨g, 0, none⟩) l.length c ∧ B ≤ g ∧ g < w.heap.size := by
  rcases h.2 with ⟨hv, h0⟩ | ⟨g, cap, cur, hv, hB, hg, _⟩
  · omega
  · exact ⟨g, cap, hv, hB, (Array.getElem?_eq_some_iff.1 hg).1⟩
theorem Rn.below {w w2 : World} {B : Nat} {v : Value} {l : List Int} (h : Rn B v l w) (hb : Below w.heap.size w w2) : Rn B v l w2 := own_below h hb
theorem Rn.base {w : World} {B C : Nat} {v : Value} {l : List Int} (h : Rn B v l w) (hc : C ≤ B) : Rn C v l w := by
  refine ⟨h.1, ?_⟩
  rcases h.2 with h' | ⟨g, cap, cur, hv, hB, rest⟩
  · exact .inl h'
  · exact .inr ⟨g, cap, cur, hv, Nat.le_trans hc hB, rest⟩
theorem elem_info : (Tryz.prog.info? 3).map (fun i => (i.zero, i.size, i.bytes)) = some (some (.int .i64 0), 1, 8) := by kernel_rfl
/-- A new block of numbers. -/
theorem Rn.new (w : World) (B : Nat) (zs : List Int) (cs : Array Value) (hcs : cs.toList = zs.map (Value.int .i64)) (hB : B ≤ w.heap.size) (hm : zs.length ≤ 1000) : Rn B (.slice (.some ⟨w.heap.size, 0, none⟩) zs.length zs.length) zs (w.alloc (.cells cs 3)) := by
  refine ⟨by simp, .inr ⟨w.heap.size, zs.length, cs, rfl, hB, heap_new _ _, Nat.le_refl _, by unfold maxLen; omega, ?_, ?_⟩⟩
  · rw [← Array.length_toList, hcs]; simp
  · rw [hcs]; exact List.take_of_length_le (by simp)
theorem row_new (w : World) (zs : List Int) (cs : Array Value) (T : TypeId) (hcs : cs.toList = zs.map (Value.int .i64)) : Row (w.alloc (.cells cs T)) (.slice (some ⟨w.heap.size, 0, none⟩) zs.length zs.length) zs := by
  refine ⟨_, _, rfl, fun _ => ⟨w.heap.size, 0, rfl, fun j hj => ?_⟩⟩
  rw [World.cell?_alloc_mark, Nat.zero_add]
  have : cs.toList[j]? = some (.int .i64 (zs.getD j 0)) := by rw [hcs]; simp [List.getD, hj]
  simpa using this
theorem Rn.new1 (w : World) (x : Int) : Rn w.heap.size (.slice (.some ⟨w.heap.size, 0, none⟩) 1 1) [x] (w.alloc (.cells #[.int .i64 x] 3)) := Rn.new w _ [x] _ rfl (Nat.le_refl _) (by simp)
theorem Rn.new2 (w : World) (x y : Int) : Rn w.heap.size (.slice (.some ⟨w.heap.size, 0, none⟩) 2 2) [x, y] (w.alloc (.cells #[.int .i64 x, .int .i64 y] 3)) := Rn.new w _ [x, y] _ rfl (Nat.le_refl _) (by simp)
theorem Rn.new3 (w : World) (x y z : Int) : Rn w.heap.size (.slice (.some ⟨w.heap.size, 0, none⟩) 3 3) [x, y, z] (w.alloc (.cells #[.int .i64 x, .int .i64 y, .int .i64 z] 3)) := Rn.new w _ [x, y, z] _ rfl (Nat.le_refl _) (by simp)
theorem Below.one (w : World) (o : Obj) : Below w.heap.size w (w.alloc o) := (Gr.one w o).below
theorem take_snoc (l : List Int) (k : Nat) (h : k < l.length) : l.take (k + 1) = l.take k ++ [l.getD k 0] := by
  rw [List.take_succ_eq_append_getElem h]; simp [List.getD, h]
theorem Rn.push {w1 : World} {B g1 cap1 N : Nat} {es : List Int} {z : Int} (hN : N = es.length) (h : w1.ownsRow B 3 1 (.slice (.some ⟨g1, 0, none⟩) (N + 1) cap1) (N + 1) (es.map (Value.int .i64) ++ [.int .i64 z])) : Rn B (.slice (.some ⟨g1, 0, none⟩) (N + 1) cap1) (es ++ [z]) w1 := by
  unfold Rn
  subst hN
  simpa using h
theorem Rn.last {w : World} {B g N cap : Nat} {t : List Int} {y : Int} (h : Rn B (.slice (.some ⟨g, 0, none⟩) N cap) (t ++ [y]) w) : w.cell? ⟨g, t.length, none⟩ = some (.int .i64 y) := by
  have := World.ownsRow.cells h (g := g) rfl t.length (.int .i64 y) (by simp)
  rwa [add_zero3] at this
theorem Rn.free {w : World} {B g N cap : Nat} {l : List Int} (h : Rn B (.slice (.some ⟨g, 0, none⟩) N cap) l w) (hN : N = l.length) (m : Nat) : w.frozen? ⟨g, m, none⟩ = false := by
  subst hN
  exact World.ownsRow.frozenAt h m
theorem Rn.own {w : World} {B N : Nat} {v : Value} {l : List Int} (hN : N = l.length) (h : Rn B v l w) : w.ownsRow B 3 1 v N (l.map (Value.int .i64)) := by
  subst hN
  exact h
theorem Rn.put {w : World} {B g N cap m : Nat} {t : List Int} {y z : Int} (hN : N = t.length + 1) (hm : m = t.length) (h : Rn B (.slice (.some ⟨g, 0, none⟩) N cap) (t ++ [y]) w) :
    Rn B (.slice (.some ⟨g, 0, none⟩) N cap) (t ++ [z]) (w.setCell ⟨g, m, none⟩ (.int .i64 z)) ∧ w.grownBy (w.setCell ⟨g, m, none⟩ (.int .i64 z)) (.some g) := by
  subst hN hm
  have h2 : w.ownsRow B 3 1 (.slice (.some ⟨g, 0, none⟩) (t.length + 1) cap) (t.length + 1) ((t ++ [y]).map (Value.int .i64)) := by simpa [Rn] using h
  obtain ⟨h3, h4⟩ := h2.stored t.length (.int .i64 z)
  refine ⟨?_, h4⟩
  have e : ((t ++ [y]).map (Value.int .i64)).set t.length (.int .i64 z) = (t ++ [z]).map (Value.int .i64) := by
    rw [List.map_append, List.set_append_right _ _ (by simp)]
    simp
  rw [e] at h3
  unfold Rn
  simpa using h3
theorem own_nil (w : World) (B : Nat) (hB : B ≤ w.heap.size) : (w.alloc (.cells #[] 3)).ownsRow B 3 1 (.slice (some ⟨w.heap.size, 0, none⟩) 0 0) 0 [] :=
  ⟨rfl, .inr ⟨w.heap.size, 0, #[], rfl, hB, heap_new w _, Nat.le_refl _, Nat.zero_le _, rfl, rfl⟩⟩
theorem Rn.news {w : World} {B g N cap : Nat} {t u : List Int} (h : Rn B (.slice (.some ⟨g, 0, none⟩) N cap) (t ++ u) w) : ∀ j v, (t.map (Value.int .i64))[j]? = .some v → w.cell? ((⟨g, 0, none⟩ : Addr).add j) = .some v := fun j v hv => by
  refine World.ownsRow.cells h (g := g) rfl j v ?_
  rw [List.map_append, List.getElem?_append_left (List.getElem?_eq_some_iff.1 hv).1]
  exact hv
theorem ints_one (t : List Int) : ∀ u ∈ t.map (Value.int .i64), u.oneCell' = true := by
  intro u hu
  obtain ⟨x, _, rfl⟩ := List.mem_map.1 hu
  rfl
theorem Rn.all {w : World} {B g N cap : Nat} {t : List Int} (h : Rn B (.slice (.some ⟨g, 0, none⟩) N cap) t w) : ∀ j v, (t.map (Value.int .i64))[j]? = .some v → w.cell? ((⟨g, 0, none⟩ : Addr).add j) = .some v := fun j v hv => World.ownsRow.cells h (g := g) rfl j v hv
theorem Rn.kept {w w' : World} {B : Nat} {row : Option Nat} {v : Value} {l : List Int} (h : Rn B v l w) (hg : w.grownBy w' row) (hne : v.ownBlock ≠ row) : Rn B v l w' := World.ownsRow.kept h hg (.inr hne)
/-- What a later call made lies apart from what lay. -/
theorem apart_blocks {w : World} {B g n c : Nat} {v : Value} {l : List Int} (h : Rn B v l w) (hg : g < B) : v.ownBlock ≠ (Value.slice (some ⟨g, 0, none⟩) n c).ownBlock := by
  rcases h.2 with ⟨hv, _⟩ | ⟨g', cap, cur, hv, hB, _⟩
  · rw [hv]; simp [Value.ownBlock]
  · rw [hv]; simp [Value.ownBlock]; omega
theorem wrap_in {x : Int} (h1 : -9223372036854775808 ≤ x) (h2 : x ≤ 9223372036854775807) : IntKind.i64.wrap x = x := by
  simp [IntKind.wrap, IntKind.bits, IntKind.signed]; omega
end Go.Proofs.YtefobkgifigclaaGreatDoor.S14
/- Texts, as lists of numbers. -/
namespace Go.Proofs.YtefobkgifigclaaGreatDoor.S14
set_option maxRecDepth 100000
open Go.RowKit

/-- A text's bytes, as numbers. -/
def nums (t : ByteArray) : List Int := t.data.toList.map fun b => (b.toNat : Int)
theorem nums_length (t : ByteArray) : (nums t).length = t.size := by simp [nums]
theorem nums_bound (t : ByteArray) : ∀ x ∈ nums t, 0 ≤ x ∧ x < 256 := by
  intro x hx
  simp only [nums, List.mem_map] at hx
  obtain ⟨b, _, rfl⟩ := hx
  have := b.toNat_lt
  omega
theorem nums_at (t : ByteArray) (k : Nat) (h : k < t.size) : (nums t).getD k 0 = (t[k].toNat : Int) := by
  have h' : k < t.data.toList.length := by simpa using h
  simp [nums, List.getD, h]
  rfl
theorem strOfNums_nums (t : ByteArray) : strOfNums (nums t) = t := by
  apply ByteArray.ext
  apply Array.toList_inj.1
  rw [strOfNums_data]
  unfold nums
  rw [List.map_map]
  conv => rhs; rw [← List.map_id t.data.toList]
  apply List.map_congr_left
  intro x _
  simp
theorem nums_strOfNums (xs : List Int) (h : ∀ x ∈ xs, 0 ≤ x ∧ x < 256) : nums (strOfNums xs) = xs := by
  unfold nums
  rw [strOfNums_data, List.map_map]
  conv => rhs; rw [← List.map_id xs]
  apply List.map_congr_left
  intro x hx
  have := h x hx
  simp
  omega
theorem strOfNums_app (a b : List Int) : strOfNums a ++ strOfNums b = strOfNums (a ++ b) := by
  unfold strOfNums
  rw [ByteArray.mk_append_mk, List.map_append]
theorem str_same (xs : List Int) (h : ∀ x ∈ xs, 0 ≤ x ∧ x < 256) (t : ByteArray) : ((strOfNums xs).toList == t.toList) = decide (xs = nums t) := by
  rw [Bool.eq_iff_iff]
  simp
  constructor
  · intro e
    have e' : strOfNums xs = t := by
      apply ByteArray.ext
      apply Array.toList_inj.1
      rw [← ByteArray.toList_eq, ← ByteArray.toList_eq]
      exact e
    rw [← e', nums_strOfNums _ h]
  · intro e
    rw [e, strOfNums_nums]
theorem ret_str {a b : ByteArray} (h : a = b) : Ending.returned (.string a) = .returned (.string b) := by rw [h]
theorem ret_se {a b : ByteArray} {c d : Int} (h : a = b) (h' : c = d) : Ending.returned (.tuple #[.string a, .int .i64 c]) = .returned (.tuple #[.string b, .int .i64 d]) := by rw [h, h']
/-- One byte as a text. -/
theorem conv_one {W : World} {b : Nat} {z : Int} (h : W.cell? ⟨b, 0, none⟩ = some (.int .u8 z)) :
    (convert 84 9 (.slice (some ⟨b, 0, none⟩) 1 1)).run Tryz.prog W = .ok (.string (strOfNums [z])) W := by
  refine run_convert_bytes_arg W 84 5 Tryz.underlying84 Tryz.underlying5 b 0 1 1 [z] rfl ?_ 9 Tryz.underlying9
  intro i hi
  have : i = 0 := by omega
  subst this
  simpa using h
theorem conv_new1 (w : World) (z : Int) : (convert 84 9 (.slice (some ⟨w.heap.size, 0, none⟩) 1 1)).run Tryz.prog (w.alloc (.cells #[.int .u8 z] 5)) = .ok (.string (strOfNums [z])) (w.alloc (.cells #[.int .u8 z] 5)) :=
  conv_one (box1 w _ _)
end Go.Proofs.YtefobkgifigclaaGreatDoor.S14
/- The document's digits and Text of layer 14. -/
namespace Go.Proofs.YtefobkgifigclaaGreatDoor.S14
set_option maxRecDepth 100000
open Go.RowKit

theorem conv_gr {w w2 : World} {z : Int} (hg : Gr ((w.alloc (.cells #[.int .u8 z] 5)).drew) w2) : (convert 84 9 (.slice (some ⟨w.heap.size, 0, none⟩) 1 1)).run Tryz.prog w2 = .ok (.string (strOfNums [z])) w2 := conv_one (hg.cell (box1 w _ _))
theorem str_lit (a : ByteArray) (l : List Int) (h : a = strOfNums l) (t : List Int) : strOfNums t ++ a = strOfNums (t ++ l) := by rw [h, strOfNums_app]
end Go.Proofs.YtefobkgifigclaaGreatDoor.S14
/- The document's Parts, Show and Norm of layer 14. -/
namespace Go.Proofs.YtefobkgifigclaaGreatDoor.S14
set_option maxRecDepth 100000
open Go.RowKit

/-- Two floats, as the document's number. -/
abbrev zz (x y : Nat) : Value := .agg #[.float .f64 x, .float .f64 y]
end Go.Proofs.YtefobkgifigclaaGreatDoor.S14
/- The document's Show, Norm, Turn and Times of layer 14. -/
namespace Go.Proofs.YtefobkgifigclaaGreatDoor.S14
set_option maxRecDepth 100000
open Go.RowKit

/-- The text of a number. -/
def shZ (p : Option (Int × Int)) : ByteArray := match p with | some q => strOfNums (txt q.1 q.2) | none => strOfNums []
theorem ret_iii {a b a' b' c d : Int} (h : a = b) (h2 : a' = b') (h' : c = d) : Ending.returned (.tuple #[.int .i64 a, .int .i64 a', .int .i64 c]) = .returned (.tuple #[.int .i64 b, .int .i64 b', .int .i64 d]) := by rw [h, h2, h']
theorem tmod_four (n : Int) : (n.tmod 4 < 0 ∧ n.tmod 4 + 4 = n % 4) ∨ (¬ n.tmod 4 < 0 ∧ n.tmod 4 = n % 4) := by
  rcases Int.le_total 0 n with h | h
  · right
    rw [Int.tmod_eq_emod_of_nonneg h]
    omega
  · have e := Int.tmod_eq_emod (a := n) (b := 4)
    rw [e]
    split <;> simp <;> omega
end Go.Proofs.YtefobkgifigclaaGreatDoor.S14
/- The document's Times of layer 14. -/
namespace Go.Proofs.YtefobkgifigclaaGreatDoor.S14
set_option maxRecDepth 100000
open Go.RowKit

theorem inZ_yes {a : Int} (h1 : -999999 ≤ a) (h2 : a ≤ 999999) : inZ a = true := decide_eq_true ⟨h1, h2⟩
theorem inZ_lo {a : Int} (h : a < -999999) : inZ a = false := decide_eq_false (by omega)
theorem inZ_hi {a : Int} (h : 999999 < a) : inZ a = false := decide_eq_false (by omega)
/-- Two boxes of two cells. -/
theorem two_gr {w w1 : World} {a b c d : Value} {T : TypeId} (g : Gr ((w.alloc (.cells #[a, b] T)).alloc (.cells #[c, d] T)) w1) :
    w1.cell? ⟨w.heap.size + 1, 0, none⟩ = some c ∧ w1.cell? ⟨w.heap.size + 1, 1, none⟩ = some d ∧ w1.cell? ⟨w.heap.size, 0, none⟩ = some a ∧ w1.cell? ⟨w.heap.size, 1, none⟩ = some b := by
  have e : (w.alloc (.cells #[a, b] T)).heap.size = w.heap.size + 1 := by simp
  have p1 : (w.alloc (.cells #[a, b] T)).cell? ⟨w.heap.size, 0, none⟩ = some a := by rw [World.cell?_alloc_mark]; rfl
  have p2 : (w.alloc (.cells #[a, b] T)).cell? ⟨w.heap.size, 1, none⟩ = some b := by rw [World.cell?_alloc_mark]; rfl
  have q1 : ((w.alloc (.cells #[a, b] T)).alloc (.cells #[c, d] T)).cell? ⟨w.heap.size + 1, 0, none⟩ = some c := by rw [← e, World.cell?_alloc_mark]; rfl
  have q2 : ((w.alloc (.cells #[a, b] T)).alloc (.cells #[c, d] T)).cell? ⟨w.heap.size + 1, 1, none⟩ = some d := by rw [← e, World.cell?_alloc_mark]; rfl
  exact ⟨g.cell q1, g.cell q2, g.cell ((Gr.one _ _).cell p1), g.cell ((Gr.one _ _).cell p2)⟩
theorem tim_none_r (p : Option (Int × Int)) : tim p none = (0, 0) ∧ timE p none = 140 := by cases p <;> exact ⟨rfl, rfl⟩
theorem tim_out (a b c d : Int) (h : (inZ (a * c - b * d) && inZ (a * d + b * c)) = false) : tim (some (a, b)) (some (c, d)) = (0, 0) ∧ timE (some (a, b)) (some (c, d)) = 3 := by
  have hn : ¬ ((inZ (prod (a, b) (c, d)).1 && inZ (prod (a, b) (c, d)).2) = true) := fun e => Bool.noConfusion (h.symm.trans e)
  exact ⟨if_neg hn, if_neg hn⟩
theorem tim_in (a b c d : Int) (h : (inZ (a * c - b * d) && inZ (a * d + b * c)) = true) : tim (some (a, b)) (some (c, d)) = (a * c - b * d, a * d + b * c) ∧ timE (some (a, b)) (some (c, d)) = 0 := by
  have hn : (inZ (prod (a, b) (c, d)).1 && inZ (prod (a, b) (c, d)).2) = true := h
  exact ⟨if_pos hn, if_pos hn⟩
end Go.Proofs.YtefobkgifigclaaGreatDoor.S14
/- The document's Cmp of layer 14. -/
namespace Go.Proofs.YtefobkgifigclaaGreatDoor.S14
set_option maxRecDepth 100000
open Go.RowKit

end Go.Proofs.YtefobkgifigclaaGreatDoor.S14
/- The document's take and Parse of layer 14. (By gen_par.py.) -/
namespace Go.Proofs.YtefobkgifigclaaGreatDoor.S14
set_option maxRecDepth 100000
open Go.RowKit

theorem goD_step (s : List Int) (x : Int) (k : Nat) (h : k < s.length) : goD (s.drop k) x = if 48 ≤ s.getD k 0 ∧ s.getD k 0 ≤ 57 ∧ x < 1000000 then goD (s.drop (k + 1)) (10 * x + s.getD k 0 - 48) else (x, s.drop k) := by
  rw [List.drop_eq_getElem_cons h]
  simp [goD, List.getD, h]
theorem goD_end (s : List Int) (x : Int) (k : Nat) (h : ¬ k < s.length) : goD (s.drop k) x = (x, s.drop k) := by
  rw [List.drop_eq_nil_of_le (by omega)]
  rfl
theorem drop_head (s : List Int) (k : Nat) : (s.drop k).getD 0 0 = s.getD k 0 := by simp [List.getD]
theorem ret_ii {a b c d : Int} (h : a = b) (h' : c = d) : Ending.returned (.tuple #[.int .i64 a, .int .i64 c]) = .returned (.tuple #[.int .i64 b, .int .i64 d]) := by rw [h, h']
theorem takeL_neg {s : List Int} (h : s.getD 0 0 = 45) {v : Int} {r : List Int} (e : goD (s.drop 1) 0 = (v, r)) : takeL s = (-v, r) := by unfold takeL; rw [if_pos h, e]
theorem takeL_pos {s : List Int} (h : ¬ s.getD 0 0 = 45) {v : Int} {r : List Int} (e : goD s 0 = (v, r)) : takeL s = (v, r) := by unfold takeL; rw [if_neg h, e]
end Go.Proofs.YtefobkgifigclaaGreatDoor.S14
/- The document's Parse of layer 14. (By gen_parse.py.) -/
namespace Go.Proofs.YtefobkgifigclaaGreatDoor.S14
set_option maxRecDepth 100000
open Go.RowKit

theorem goD_spec : ∀ (s : List Int) (n : Int), 0 ≤ n → n ≤ 9999999 → (∃ k, k ≤ s.length ∧ (goD s n).2 = s.drop k) ∧ 0 ≤ (goD s n).1 ∧ (goD s n).1 ≤ 9999999
  | [], n, h1, h2 => ⟨⟨0, Nat.le_refl _, rfl⟩, h1, h2⟩
  | c :: s, n, h1, h2 => by
    simp only [goD]
    split
    · rename_i h
      obtain ⟨⟨k, hk, e⟩, b⟩ := goD_spec s (10 * n + c - 48) (by omega) (by omega)
      exact ⟨⟨k + 1, by simp; omega, e⟩, b⟩
    · exact ⟨⟨0, Nat.zero_le _, rfl⟩, h1, h2⟩
theorem takeL_spec (s : List Int) : (∃ k, k ≤ s.length ∧ (takeL s).2 = s.drop k) ∧ -9999999 ≤ (takeL s).1 ∧ (takeL s).1 ≤ 9999999 := by
  unfold takeL
  split
  · rename_i h
    have hl : 1 ≤ s.length := by
      cases s with
      | nil => simp at h
      | cons => simp
    obtain ⟨⟨k, hk, e⟩, b⟩ := goD_spec (s.drop 1) 0 (Int.le_refl _) (by omega)
    refine ⟨⟨k + 1, by rw [List.length_drop] at hk; omega, ?_⟩, by simp only; omega, by simp only; omega⟩
    simp only
    rw [e, List.drop_drop, Nat.add_comm]
  · obtain ⟨⟨k, hk, e⟩, b⟩ := goD_spec s 0 (Int.le_refl _) (by omega)
    exact ⟨⟨k, hk, e⟩, by omega, by omega⟩
theorem ok_of (s : List Int) (a b : Int) (h : cutG s = (a, b)) : okG s = (inZ a && inZ b && decide (txt a b = s)) := by unfold okG; rw [h]
theorem par_no {s : List Int} (h : okG s = false) : parG s = (0, 0) ∧ parF s = 140 := by unfold parG parF; rw [h]; exact ⟨rfl, rfl⟩
theorem par_yes {s : List Int} (h : okG s = true) : parG s = cutG s ∧ parF s = 0 := by unfold parG parF; rw [h]; exact ⟨rfl, rfl⟩
end Go.Proofs.YtefobkgifigclaaGreatDoor.S14
