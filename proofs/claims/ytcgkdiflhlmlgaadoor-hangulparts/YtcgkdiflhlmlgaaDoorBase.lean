/- Words that all texts of this stage share: hidden facts, plain facts on worlds, rows of runes. -/
import Derived.Test.YtcgkdiflhlmlgaaDoorRows
import Derived.WalkKit
import Derived.WalkSpells
import Derived.WalkLawsBesides
import Derived.Below
import Derived.BigQuiet
import Derived.Deep.QuietTactic
import Derived.Deep.AppendLies
import Derived.Laws.OwnMore
import Derived.Shelf.SlSortCmp.QuietGrown
namespace Go.Proofs.YtcgkdiflhlmlgaaDoor
open Go.RowKit
open Go.Sort (grow)

theorem hide {p : Prop} (h : p) : Hid p := h
theorem unhide {p : Prop} (h : Hid p) : p := h
theorem ret_bool {a b : Bool} (h : a = b) : Ending.returned (.bool a) = .returned (.bool b) := by rw [h]
theorem ret_int {k : IntKind} {a b : Int} (h : a = b) : Ending.returned (.int k a) = .returned (.int k b) := by rw [h]
theorem cell_lt {w : World} {a : Addr} {v : Value} (h : w.cell? a = some v) : a.block < w.heap.size := by
  rcases Nat.lt_or_ge a.block w.heap.size with h' | h'
  · exact h'
  · simp [World.cell?, Array.getElem?_eq_none h'] at h
theorem below_new {w w1 : World} {o : Obj} (hb : Below (w.alloc o).heap.size (w.alloc o) w1) : Below w.heap.size w w1 :=
  ((Below.refl _ _).alloc (Nat.le_refl _) _).trans (hb.mono (by simp))
theorem below_drewN {B : Nat} {w w1 : World} (h : Below B w w1) (n : Nat) : Below B w (w1.drewN n) := ⟨h.os, h.tape, h.output, h.size, h.block⟩

/-- The world has drawn, and blocks were laid behind; all that lay lies as it lay. -/
def Gr (w w' : World) : Prop := ∃ q os, w' = grow (w.drewN q) os
theorem Gr.refl (w : World) : Gr w w := ⟨0, #[], by rw [Go.Sort.grow_empty]; rfl⟩
theorem Gr.trans {a b c : World} (h : Gr a b) (k : Gr b c) : Gr a c := by
  obtain ⟨q, os, rfl⟩ := h
  obtain ⟨q2, os2, rfl⟩ := k
  exact ⟨q + q2, os ++ os2, by show grow (grow ((a.drewN q).drewN q2) os) os2 = _; rw [Go.Sort.grow_grow, World.drewN_drewN]⟩
theorem Gr.one (w : World) (o : Obj) : Gr w (w.alloc o) := ⟨0, #[o], by rw [Go.Sort.alloc_eq_grow]; rfl⟩
theorem Gr.alloc {a b : World} (h : Gr a b) (o : Obj) : Gr a (b.alloc o) := h.trans (Gr.one b o)
theorem Gr.drewN {a b : World} (h : Gr a b) (n : Nat) : Gr a (b.drewN n) := h.trans ⟨n, #[], by rw [Go.Sort.grow_empty]⟩
theorem Gr.drew {a b : World} (h : Gr a b) : Gr a b.drew := h.drewN 1
theorem Gr.grow {a b : World} (h : Gr a b) (n : Nat) (os : Array Obj) : Gr a (Go.Sort.grow (b.drewN n) os) := h.trans ⟨n, os, rfl⟩
theorem Gr.below {a b : World} (h : Gr a b) : Below a.heap.size a b := by
  obtain ⟨q, os, rfl⟩ := h
  exact ⟨rfl, rfl, rfl, by simp [Go.Sort.grow, World.drewN], fun i hi => by
    show ((a.drewN q).heap ++ os)[i]? = _
    rw [Array.getElem?_append_left (by show i < a.heap.size; omega)]
    rfl⟩
theorem Gr.cell {a b : World} (h : Gr a b) {p : Addr} {v : Value} (hc : a.cell? p = some v) : b.cell? p = some v := (h.below.cell (p := p) (cell_lt hc)).trans hc
theorem Gr.size {a b : World} (h : Gr a b) : a.heap.size ≤ b.heap.size := h.below.size
theorem Gr.grown {a b : World} (h : Gr a b) (row : Option Nat) : a.grownBy b row := ⟨h.below.os, h.below.tape, h.below.output, h.size, fun i hi _ => h.below.block i hi⟩
theorem below_own {w w' : World} {B : Nat} {row : Option Nat} (h : w.grownBy w' row) (hB : B ≤ w.heap.size) (hr : ∀ g, row = some g → B ≤ g) : Below B w w' :=
  (Below.refl _ _).grown h hB hr
theorem own_block {w : World} {B e size n : Nat} {v : Value} {xs : List Value} (h : w.ownsRow B e size v n xs) : ∀ g, v.ownBlock = some g → B ≤ g := fun g hg => (h.lt g hg).1
theorem own_below {B e size n : Nat} {v : Value} {xs : List Value} {w w2 : World} (h : w.ownsRow B e size v n xs) (hb : Below w.heap.size w w2) : w2.ownsRow B e size v n xs :=
  h.kept (row := none) ⟨hb.os, hb.tape, hb.output, hb.size, fun k hk _ => hb.block k hk⟩ (by cases hv : v.ownBlock <;> simp)
theorem heap_new (w : World) (o : Obj) : (w.alloc o).heap[w.heap.size]? = some o := by
  show (w.heap.push o)[w.heap.size]? = some o
  simp
theorem add_zero3 (g j : Nat) : (⟨g, 0, none⟩ : Addr).add j = ⟨g, j, none⟩ := by unfold Addr.add; split <;> simp_all

/-- A slice that holds the runes l. -/
def Row (w : World) (v : Value) (l : List Int) : Prop :=
  ∃ a cap, v = .slice a l.length cap ∧ (0 < l.length → ∃ b off, a = some ⟨b, off, none⟩ ∧ ∀ j, j < l.length → w.cell? ⟨b, off + j, none⟩ = some (.int .i32 (l.getD j 0)))
theorem Row.below {w w2 : World} {v : Value} {l : List Int} (h : Row w v l) (hb : Below w.heap.size w w2) : Row w2 v l := by
  obtain ⟨a, cap, rfl, hc⟩ := h
  refine ⟨a, cap, rfl, fun hi => ?_⟩
  obtain ⟨b, off, rfl, hcc⟩ := hc hi
  exact ⟨b, off, rfl, fun j hj => (hb.cell (p := ⟨b, off + j, none⟩) (cell_lt (hcc j hj))).trans (hcc j hj)⟩
theorem Row.nil (w : World) (a : Option Addr) (c : Nat) : Row w (.slice a 0 c) [] := ⟨a, c, rfl, fun h => absurd h (Nat.lt_irrefl _)⟩
/-- A row of runes of the call's own. -/
def Rn (B : Nat) (v : Value) (l : List Int) (w : World) : Prop := w.ownsRow B 21 1 v l.length (l.map (Value.int .i32))
theorem Rn.nil (B : Nat) (w : World) : Rn B (.slice none 0 0) [] w := ⟨rfl, .inl ⟨rfl, rfl⟩⟩
theorem Rn.row {w : World} {B : Nat} {v : Value} {l : List Int} (h : Rn B v l w) : Row w v l := by
  rcases h.2 with ⟨hv, h0⟩ | ⟨g, cap, cur, hv, _⟩
  · exact ⟨none, 0, by rw [hv, h0], fun hi => by omega⟩
  · refine ⟨some ⟨g, 0, none⟩, cap, hv, fun hi => ⟨g, 0, rfl, fun j hj => ?_⟩⟩
    have := World.ownsRow.cells h (g := g) (by rw [hv]; rfl) j (.int .i32 (l.getD j 0)) (by simp [List.getD, hj])
    rw [add_zero3 g j] at this
    rw [Nat.zero_add]
    exact this
theorem Rn.shape {w : World} {B : Nat} {v : Value} {l : List Int} (h : Rn B v l w) : ∃ a c, v = .slice a l.length c := by
  rcases h.2 with ⟨hv, h0⟩ | ⟨g, cap, cur, hv, _⟩
  · exact ⟨none, 0, by rw [hv, h0]⟩
  · exact ⟨_, cap, hv⟩
theorem Rn.held {w : World} {B : Nat} {v : Value} {l : List Int} (h : Rn B v l w) (hl : 0 < l.length) : ∃ g c, v = .slice (some ⟨g, 0, none⟩) l.length c ∧ B ≤ g ∧ g < w.heap.size := by
  rcases h.2 with ⟨hv, h0⟩ | ⟨g, cap, cur, hv, hB, hg, _⟩
  · omega
  · exact ⟨g, cap, hv, hB, (Array.getElem?_eq_some_iff.1 hg).1⟩
theorem Rn.below {w w2 : World} {B : Nat} {v : Value} {l : List Int} (h : Rn B v l w) (hb : Below w.heap.size w w2) : Rn B v l w2 := own_below h hb
theorem Rn.base {w : World} {B C : Nat} {v : Value} {l : List Int} (h : Rn B v l w) (hc : C ≤ B) : Rn C v l w := by
  refine ⟨h.1, ?_⟩
  rcases h.2 with h' | ⟨g, cap, cur, hv, hB, rest⟩
  · exact .inl h'
  · exact .inr ⟨g, cap, cur, hv, Nat.le_trans hc hB, rest⟩
theorem elem_info : (Tryd.prog.info? 21).map (fun i => (i.zero, i.size, i.bytes)) = some (some (.int .i32 0), 1, 4) := by kernel_rfl
/-- A new block of runes. -/
theorem Rn.new (w : World) (B : Nat) (zs : List Int) (cs : Array Value) (hcs : cs.toList = zs.map (Value.int .i32)) (hB : B ≤ w.heap.size) (hm : zs.length ≤ 1000) : Rn B (.slice (.some ⟨w.heap.size, 0, none⟩) zs.length zs.length) zs (w.alloc (.cells cs 21)) := by
  refine ⟨by simp, .inr ⟨w.heap.size, zs.length, cs, rfl, hB, heap_new _ _, Nat.le_refl _, by unfold maxLen; omega, ?_, ?_⟩⟩
  · rw [← Array.length_toList, hcs]; simp
  · rw [hcs]; exact List.take_of_length_le (by simp)
theorem row_new (w : World) (zs : List Int) (cs : Array Value) (T : TypeId) (hcs : cs.toList = zs.map (Value.int .i32)) : Row (w.alloc (.cells cs T)) (.slice (some ⟨w.heap.size, 0, none⟩) zs.length zs.length) zs := by
  refine ⟨_, _, rfl, fun _ => ⟨w.heap.size, 0, rfl, fun j hj => ?_⟩⟩
  rw [World.cell?_alloc_mark, Nat.zero_add]
  have : cs.toList[j]? = some (.int .i32 (zs.getD j 0)) := by rw [hcs]; simp [List.getD, hj]
  simpa using this

/-- The table of the leads, the vowels and the tails lies as the program's text lays it. -/
def Lay (w : World) : Prop :=
  w.cell? ⟨0, 0, none⟩ = some (.int .i32 4352) ∧ w.cell? ⟨0, 1, none⟩ = some (.int .i32 4370) ∧ w.cell? ⟨0, 2, none⟩ = some (.int .i32 4449) ∧ w.cell? ⟨0, 3, none⟩ = some (.int .i32 4469) ∧ w.cell? ⟨0, 4, none⟩ = some (.int .i32 4520) ∧ w.cell? ⟨0, 5, none⟩ = some (.int .i32 4546)
theorem Lay.below {w w2 : World} {B : Nat} (h : Lay w) (hb : Below B w w2) (hB : 0 < B) : Lay w2 := by
  obtain ⟨h0, h1, h2, h3, h4, h5⟩ := h
  exact ⟨(hb.cell (by exact hB)).trans h0, (hb.cell (by exact hB)).trans h1, (hb.cell (by exact hB)).trans h2, (hb.cell (by exact hB)).trans h3, (hb.cell (by exact hB)).trans h4, (hb.cell (by exact hB)).trans h5⟩
theorem Lay.pos {w : World} (h : Lay w) : 0 < w.heap.size := cell_lt h.1
theorem Lay.gr {w w2 : World} (h : Lay w) (g : Gr w w2) : Lay w2 := h.below g.below h.pos
end Go.Proofs.YtcgkdiflhlmlgaaDoor
