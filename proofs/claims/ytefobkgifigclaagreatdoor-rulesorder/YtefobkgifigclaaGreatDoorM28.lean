/- Words that all texts of this stage share: hidden facts, a span, and plain facts on worlds. -/
import Derived.WalkKit
import Derived.Below
import Derived.BigQuiet
import Derived.Deep.QuietTactic
import Derived.Shelf.SlSortCmp.QuietGrown
import Derived.Deep.AppendLies
import Derived.Laws.OwnMore
import Derived.Test.YtefobkgifigclaaGreatDoorProg
import Derived.WalkSpells
import Derived.WalkLawsBesides
import Derived.Shelf.RegionOpen
import Derived.Deep.RegionHeld3
import Derived.ScopeJumps
import Derived.Laws.BitsAllLaws
namespace Go.Proofs.YtefobkgifigclaaGreatDoor.S18
set_option maxRecDepth 100000
open Go.RowKit
open Go.Sort (grow)

theorem hide {p : Prop} (h : p) : Hid p := h
theorem unhide {p : Prop} (h : Hid p) : p := h
theorem ret_bool {a b : Bool} (h : a = b) : Ending.returned (.bool a) = .returned (.bool b) := by rw [h]
theorem ret_int {k : IntKind} {a b : Int} (h : a = b) : Ending.returned (.int k a) = .returned (.int k b) := by rw [h]
theorem cell_lt {w : World} {a : Addr} {v : Value} (h : w.cell? a = some v) : a.block < w.heap.size := by
  rcases Nat.lt_or_ge a.block w.heap.size with h' | h'
  · exact h'
  · simp [World.cell?, Array.getElem?_eq_none h'] at h
theorem below_new {w w1 : World} {o : Obj} (hb : Below (w.alloc o).heap.size (w.alloc o) w1) : Below w.heap.size w w1 :=
  ((Below.refl _ _).alloc (Nat.le_refl _) _).trans (hb.mono (by simp))

/-- A span: from, to, what it has. -/
structure Sp where
  f : Int
  t : Int
  h : Int
/-- The span that is none. -/
def sp0 : Sp := ⟨0, 0, 0⟩
/-- Are two spans, two lists of spans the same? -/
def eqS (a b : Sp) : Bool := decide (a.f = b.f ∧ a.t = b.t ∧ a.h = b.h)
def eqL : List Sp → List Sp → Bool
  | [], [] => true
  | [], _ :: _ => false
  | _ :: _, [] => false
  | a :: l, b :: m => eqS a b && eqL l m
theorem eqS_iff (a b : Sp) : eqS a b = true ↔ a = b := by
  obtain ⟨f, t, h⟩ := a
  obtain ⟨f2, t2, h2⟩ := b
  simp [eqS]
theorem eqL_iff (a b : List Sp) : eqL a b = true ↔ a = b := by
  induction a generalizing b with
  | nil => cases b <;> simp [eqL]
  | cons x a ih =>
    cases b with
    | nil => simp [eqL]
    | cons y b => simp [eqL, eqS_iff, ih]
theorem eqL_true {a b : List Sp} (h : a = b) : eqL a b = true := (eqL_iff a b).2 h
theorem eqL_false {a b : List Sp} (h : ¬ a = b) : eqL a b = false := by
  cases h2 : eqL a b
  · rfl
  · exact absurd ((eqL_iff a b).1 h2) h

/-- May a span be? -/
def mayS (s : Sp) : Bool := decide (0 ≤ s.f ∧ s.f ≤ s.t ∧ s.t ≤ 1114111)
theorem mayS_iff (s : Sp) : mayS s = true ↔ 0 ≤ s.f ∧ s.f ≤ s.t ∧ s.t ≤ 1114111 := by unfold mayS; simp
theorem mayS_not (s : Sp) : mayS s = false ↔ ¬ (0 ≤ s.f ∧ s.f ≤ s.t ∧ s.t ≤ 1114111) := by unfold mayS; rw [decide_eq_false_iff_not]

/-- Is a number in a span? -/
def inS (s : Sp) (r : Int) : Bool := decide (s.f ≤ r ∧ r ≤ s.t)
theorem inS_iff (s : Sp) (r : Int) : inS s r = true ↔ s.f ≤ r ∧ r ≤ s.t := by unfold inS; simp
theorem inS_not (s : Sp) (r : Int) : inS s r = false ↔ ¬ (s.f ≤ r ∧ r ≤ s.t) := by unfold inS; rw [decide_eq_false_iff_not]

/-- Does a span touch the one ahead, with the same? -/
def joinS (p s : Sp) : Bool := decide (s.f = p.t + 1 ∧ s.h = p.h)
theorem joinS_iff (p s : Sp) : joinS p s = true ↔ s.f = p.t + 1 ∧ s.h = p.h := by unfold joinS; simp
theorem joinS_not (p s : Sp) : joinS p s = false ↔ ¬ (s.f = p.t + 1 ∧ s.h = p.h) := by unfold joinS; rw [decide_eq_false_iff_not]

/-- May a span follow the one ahead? -/
def folS (p s : Sp) : Bool := decide (p.t < s.f) && !joinS p s

/-- A slice that holds the spans l. -/
def Tab (w : World) (v : Value) (l : List Sp) : Prop :=
  ∃ a cap, v = .slice a l.length cap ∧ (0 < l.length → ∃ b off, a = some ⟨b, off, none⟩ ∧ ∀ j, j < l.length →
    w.cell? ⟨b, off + j * 3, none⟩ = some (.int .i32 (l.getD j sp0).f) ∧ w.cell? ⟨b, off + j * 3 + 1, none⟩ = some (.int .i32 (l.getD j sp0).t) ∧ w.cell? ⟨b, off + j * 3 + 2, none⟩ = some (.int .i64 (l.getD j sp0).h))

theorem Tab.below {w w2 : World} {v : Value} {l : List Sp} (h : Tab w v l) (hb : Below w.heap.size w w2) : Tab w2 v l := by
  obtain ⟨a, cap, rfl, hc⟩ := h
  refine ⟨a, cap, rfl, fun i => ?_⟩
  obtain ⟨b, off, rfl, hcc⟩ := hc i
  refine ⟨b, off, rfl, fun j hj => ?_⟩
  obtain ⟨h1, h2, h3⟩ := hcc j hj
  exact ⟨(hb.cell (p := ⟨b, off + j * 3, none⟩) (cell_lt h1)).trans h1, (hb.cell (p := ⟨b, off + j * 3 + 1, none⟩) (cell_lt h2)).trans h2, (hb.cell (p := ⟨b, off + j * 3 + 2, none⟩) (cell_lt h3)).trans h3⟩

theorem Tab.nil (w : World) (a : Option Addr) (c : Nat) : Tab w (.slice a 0 c) [] := ⟨a, c, rfl, fun h => absurd h (Nat.lt_irrefl _)⟩
theorem below_drewN {B : Nat} {w w1 : World} (h : Below B w w1) (n : Nat) : Below B w (w1.drewN n) := ⟨h.os, h.tape, h.output, h.size, h.block⟩

/-- The world has drawn, and blocks were laid behind; all that lay lies as it lay. -/
def Gr (w w' : World) : Prop := ∃ q os, w' = grow (w.drewN q) os
theorem Gr.refl (w : World) : Gr w w := ⟨0, #[], by rw [Go.Sort.grow_empty]; rfl⟩
theorem Gr.trans {a b c : World} (h : Gr a b) (k : Gr b c) : Gr a c := by
  obtain ⟨q, os, rfl⟩ := h
  obtain ⟨q2, os2, rfl⟩ := k
  exact ⟨q + q2, os ++ os2, by show grow (grow ((a.drewN q).drewN q2) os) os2 = _; rw [Go.Sort.grow_grow, World.drewN_drewN]⟩
theorem Gr.one (w : World) (o : Obj) : Gr w (w.alloc o) := ⟨0, #[o], by rw [Go.Sort.alloc_eq_grow]; rfl⟩
theorem Gr.alloc {a b : World} (h : Gr a b) (o : Obj) : Gr a (b.alloc o) := h.trans (Gr.one b o)
theorem Gr.drewN {a b : World} (h : Gr a b) (n : Nat) : Gr a (b.drewN n) := h.trans ⟨n, #[], by rw [Go.Sort.grow_empty]⟩
theorem Gr.drew {a b : World} (h : Gr a b) : Gr a b.drew := h.drewN 1
theorem Gr.grow {a b : World} (h : Gr a b) (n : Nat) (os : Array Obj) : Gr a (Go.Sort.grow (b.drewN n) os) := h.trans ⟨n, os, rfl⟩
theorem Gr.below {a b : World} (h : Gr a b) : Below a.heap.size a b := by
  obtain ⟨q, os, rfl⟩ := h
  exact ⟨rfl, rfl, rfl, by simp [Go.Sort.grow, World.drewN], fun i hi => by
    show ((a.drewN q).heap ++ os)[i]? = _
    rw [Array.getElem?_append_left (by show i < a.heap.size; omega)]
    rfl⟩
theorem Gr.cell {a b : World} (h : Gr a b) {p : Addr} {v : Value} (hc : a.cell? p = some v) : b.cell? p = some v := (h.below.cell (p := p) (cell_lt hc)).trans hc
theorem Gr.tab {a b : World} (h : Gr a b) {v : Value} {l : List Sp} (hc : Tab a v l) : Tab b v l := hc.below h.below
theorem Gr.size {a b : World} (h : Gr a b) : a.heap.size ≤ b.heap.size := h.below.size
/-- A cell in every world that has grown. -/
theorem cell_gr {w : World} {a : Addr} {v : Value} (h : w.cell? a = some v) (n : Nat) (os : Array Obj) : (grow (w.drewN n) os).cell? a = some v := cell_grown (cell_lt h) h n os
theorem callsGr {f : FuncId} {args : Array Value} {w : World} {n : Nat} {os : Array Obj} {v : Value} {P : Program}
    (h : Calls P f args (grow (w.drewN n) os) fun e w' => e = .returned v ∧ Gr (grow (w.drewN n) os) w') : Calls P f args (grow (w.drewN n) os) fun e w'' => e = .returned v ∧ ∃ p : GrownBy, w'' = grow (w.drewN p.n) p.os :=
  Calls.grown_of h

/-- The three cells of a new box. -/
theorem box3 (w : World) (a b c : Value) (T : TypeId) : (w.alloc (.cells #[a, b, c] T)).cell? ⟨w.heap.size, 0, none⟩ = some a ∧ (w.alloc (.cells #[a, b, c] T)).cell? ⟨w.heap.size, 1, none⟩ = some b ∧ (w.alloc (.cells #[a, b, c] T)).cell? ⟨w.heap.size, 2, none⟩ = some c := by
  refine ⟨?_, ?_, ?_⟩ <;> rw [World.cell?_alloc_mark] <;> rfl
theorem box1 (w : World) (a : Value) (T : TypeId) : (w.alloc (.cells #[a] T)).cell? ⟨w.heap.size, 0, none⟩ = some a := by
  rw [World.cell?_alloc_mark]; rfl
end Go.Proofs.YtefobkgifigclaaGreatDoor.S18
/- What is the call's own, and what only grows: plain facts on worlds. -/
namespace Go.Proofs.YtefobkgifigclaaGreatDoor.S18
set_option maxRecDepth 100000
open Go.RowKit

theorem Gr.grown {a b : World} (h : Gr a b) (row : Option Nat) : a.grownBy b row := ⟨h.below.os, h.below.tape, h.below.output, h.size, fun i hi _ => h.below.block i hi⟩
theorem below_own {w w' : World} {B : Nat} {row : Option Nat} (h : w.grownBy w' row) (hB : B ≤ w.heap.size) (hr : ∀ g, row = some g → B ≤ g) : Below B w w' :=
  (Below.refl _ _).grown h hB hr
theorem own_block {w : World} {B e size n : Nat} {v : Value} {xs : List Value} (h : w.ownsRow B e size v n xs) : ∀ g, v.ownBlock = some g → B ≤ g := fun g hg => (h.lt g hg).1
theorem own_below {B e size n : Nat} {v : Value} {xs : List Value} {w w2 : World} (h : w.ownsRow B e size v n xs) (hb : Below w.heap.size w w2) : w2.ownsRow B e size v n xs :=
  h.kept (row := none) ⟨hb.os, hb.tape, hb.output, hb.size, fun k hk _ => hb.block k hk⟩ (by cases hv : v.ownBlock <;> simp)
theorem heap_new (w : World) (o : Obj) : (w.alloc o).heap[w.heap.size]? = some o := by
  show (w.heap.push o)[w.heap.size]? = some o
  simp
theorem add_zero3 (g j : Nat) : (⟨g, 0, none⟩ : Addr).add j = ⟨g, j, none⟩ := by unfold Addr.add; split <;> simp_all
end Go.Proofs.YtefobkgifigclaaGreatDoor.S18
/- Rows of whole numbers: handed in, or of the call's own; plain facts on worlds. -/
namespace Go.Proofs.YtefobkgifigclaaGreatDoor.S18
set_option maxRecDepth 100000
open Go.RowKit
open Go.Sort (grow)


/-- A slice that holds the numbers l. -/
def Row (w : World) (v : Value) (l : List Int) : Prop :=
  ∃ a cap, v = .slice a l.length cap ∧ (0 < l.length → ∃ b off, a = some ⟨b, off, none⟩ ∧ ∀ j, j < l.length → w.cell? ⟨b, off + j, none⟩ = some (.int .i64 (l.getD j 0)))
theorem Row.below {w w2 : World} {v : Value} {l : List Int} (h : Row w v l) (hb : Below w.heap.size w w2) : Row w2 v l := by
  obtain ⟨a, cap, rfl, hc⟩ := h
  refine ⟨a, cap, rfl, fun hi => ?_⟩
  obtain ⟨b, off, rfl, hcc⟩ := hc hi
  exact ⟨b, off, rfl, fun j hj => (hb.cell (p := ⟨b, off + j, none⟩) (cell_lt (hcc j hj))).trans (hcc j hj)⟩
theorem Row.nil (w : World) (a : Option Addr) (c : Nat) : Row w (.slice a 0 c) [] := ⟨a, c, rfl, fun h => absurd h (Nat.lt_irrefl _)⟩
/-- A row of numbers of the call's own. -/
def Rn (B : Nat) (v : Value) (l : List Int) (w : World) : Prop := w.ownsRow B 3 1 v l.length (l.map (Value.int .i64))
theorem Rn.nil (B : Nat) (w : World) : Rn B (.slice none 0 0) [] w := ⟨rfl, .inl ⟨rfl, rfl⟩⟩
theorem Rn.row {w : World} {B : Nat} {v : Value} {l : List Int} (h : Rn B v l w) : Row w v l := by
  rcases h.2 with ⟨hv, h0⟩ | ⟨g, cap, cur, hv, _⟩
  · exact ⟨none, 0, by rw [hv, h0], fun hi => by omega⟩
  · refine ⟨some ⟨g, 0, none⟩, cap, hv, fun hi => ⟨g, 0, rfl, fun j hj => ?_⟩⟩
    have := World.ownsRow.cells h (g := g) (by rw [hv]; rfl) j (.int .i64 (l.getD j 0)) (by simp [List.getD, hj])
    rw [add_zero3 g j] at this
    rw [Nat.zero_add]
    exact this
theorem Rn.shape {w : World} {B : Nat} {v : Value} {l : List Int} (h : Rn B v l w) : ∃ a c, v = .slice a l.length c := by
  rcases h.2 with ⟨hv, h0⟩ | ⟨g, cap, cur, hv, _⟩
  · exact ⟨none, 0, by rw [hv, h0]⟩
  · exact ⟨_, cap, hv⟩
theorem Rn.held {w : World} {B : Nat} {v : Value} {l : List Int} (h : Rn B v l w) (hl : 0 < l.length) : ∃ g c, v = .slice (some ⟨g, 0, none⟩) l.length c ∧ B ≤ g ∧ g < w.heap.size := by
  rcases h.2 with ⟨hv, h0⟩ | ⟨g, cap, cur, hv, hB, hg, _⟩
  · omega
  · exact ⟨g, cap, hv, hB, (Array.getElem?_eq_some_iff.1 hg).1⟩
theorem Rn.below {w w2 : World} {B : Nat} {v : Value} {l : List Int} (h : Rn B v l w) (hb : Below w.heap.size w w2) : Rn B v l w2 := own_below h hb
theorem Rn.base {w : World} {B C : Nat} {v : Value} {l : List Int} (h : Rn B v l w) (hc : C ≤ B) : Rn C v l w := by
  refine ⟨h.1, ?_⟩
  rcases h.2 with h' | ⟨g, cap, cur, hv, hB, rest⟩
  · exact .inl h'
  · exact .inr ⟨g, cap, cur, hv, Nat.le_trans hc hB, rest⟩
theorem elem_info : (Tryz.prog.info? 3).map (fun i => (i.zero, i.size, i.bytes)) = some (some (.int .i64 0), 1, 8) := by kernel_rfl
/-- A new block of numbers. -/
theorem Rn.new (w : World) (B : Nat) (zs : List Int) (cs : Array Value) (hcs : cs.toList = zs.map (Value.int .i64)) (hB : B ≤ w.heap.size) (hm : zs.length ≤ 1000) : Rn B (.slice (.some ⟨w.heap.size, 0, none⟩) zs.length zs.length) zs (w.alloc (.cells cs 3)) := by
  refine ⟨by simp, .inr ⟨w.heap.size, zs.length, cs, rfl, hB, heap_new _ _, Nat.le_refl _, by unfold maxLen; omega, ?_, ?_⟩⟩
  · rw [← Array.length_toList, hcs]; simp
  · rw [hcs]; exact List.take_of_length_le (by simp)
theorem row_new (w : World) (zs : List Int) (cs : Array Value) (T : TypeId) (hcs : cs.toList = zs.map (Value.int .i64)) : Row (w.alloc (.cells cs T)) (.slice (some ⟨w.heap.size, 0, none⟩) zs.length zs.length) zs := by
  refine ⟨_, _, rfl, fun _ => ⟨w.heap.size, 0, rfl, fun j hj => ?_⟩⟩
  rw [World.cell?_alloc_mark, Nat.zero_add]
  have : cs.toList[j]? = some (.int .i64 (zs.getD j 0)) := by rw [hcs]; simp [List.getD, hj]
  simpa using this
theorem Rn.new1 (w : World) (x : Int) : Rn w.heap.size (.slice (.some ⟨w.heap.size, 0, none⟩) 1 1) [x] (w.alloc (.cells #[.int .i64 x] 3)) := Rn.new w _ [x] _ rfl (Nat.le_refl _) (by simp)
theorem Rn.new2 (w : World) (x y : Int) : Rn w.heap.size (.slice (.some ⟨w.heap.size, 0, none⟩) 2 2) [x, y] (w.alloc (.cells #[.int .i64 x, .int .i64 y] 3)) := Rn.new w _ [x, y] _ rfl (Nat.le_refl _) (by simp)
theorem Rn.new3 (w : World) (x y z : Int) : Rn w.heap.size (.slice (.some ⟨w.heap.size, 0, none⟩) 3 3) [x, y, z] (w.alloc (.cells #[.int .i64 x, .int .i64 y, .int .i64 z] 3)) := Rn.new w _ [x, y, z] _ rfl (Nat.le_refl _) (by simp)
theorem Below.one (w : World) (o : Obj) : Below w.heap.size w (w.alloc o) := (Gr.one w o).below
theorem take_snoc (l : List Int) (k : Nat) (h : k < l.length) : l.take (k + 1) = l.take k ++ [l.getD k 0] := by
  rw [List.take_succ_eq_append_getElem h]; simp [List.getD, h]
theorem Rn.push {w1 : World} {B g1 cap1 N : Nat} {es : List Int} {z : Int} (hN : N = es.length) (h : w1.ownsRow B 3 1 (.slice (.some ⟨g1, 0, none⟩) (N + 1) cap1) (N + 1) (es.map (Value.int .i64) ++ [.int .i64 z])) : Rn B (.slice (.some ⟨g1, 0, none⟩) (N + 1) cap1) (es ++ [z]) w1 := by
  unfold Rn
  subst hN
  simpa using h
theorem Rn.last {w : World} {B g N cap : Nat} {t : List Int} {y : Int} (h : Rn B (.slice (.some ⟨g, 0, none⟩) N cap) (t ++ [y]) w) : w.cell? ⟨g, t.length, none⟩ = some (.int .i64 y) := by
  have := World.ownsRow.cells h (g := g) rfl t.length (.int .i64 y) (by simp)
  rwa [add_zero3] at this
theorem Rn.free {w : World} {B g N cap : Nat} {l : List Int} (h : Rn B (.slice (.some ⟨g, 0, none⟩) N cap) l w) (hN : N = l.length) (m : Nat) : w.frozen? ⟨g, m, none⟩ = false := by
  subst hN
  exact World.ownsRow.frozenAt h m
theorem Rn.own {w : World} {B N : Nat} {v : Value} {l : List Int} (hN : N = l.length) (h : Rn B v l w) : w.ownsRow B 3 1 v N (l.map (Value.int .i64)) := by
  subst hN
  exact h
theorem Rn.put {w : World} {B g N cap m : Nat} {t : List Int} {y z : Int} (hN : N = t.length + 1) (hm : m = t.length) (h : Rn B (.slice (.some ⟨g, 0, none⟩) N cap) (t ++ [y]) w) :
    Rn B (.slice (.some ⟨g, 0, none⟩) N cap) (t ++ [z]) (w.setCell ⟨g, m, none⟩ (.int .i64 z)) ∧ w.grownBy (w.setCell ⟨g, m, none⟩ (.int .i64 z)) (.some g) := by
  subst hN hm
  have h2 : w.ownsRow B 3 1 (.slice (.some ⟨g, 0, none⟩) (t.length + 1) cap) (t.length + 1) ((t ++ [y]).map (Value.int .i64)) := by simpa [Rn] using h
  obtain ⟨h3, h4⟩ := h2.stored t.length (.int .i64 z)
  refine ⟨?_, h4⟩
  have e : ((t ++ [y]).map (Value.int .i64)).set t.length (.int .i64 z) = (t ++ [z]).map (Value.int .i64) := by
    rw [List.map_append, List.set_append_right _ _ (by simp)]
    simp
  rw [e] at h3
  unfold Rn
  simpa using h3
theorem own_nil (w : World) (B : Nat) (hB : B ≤ w.heap.size) : (w.alloc (.cells #[] 3)).ownsRow B 3 1 (.slice (some ⟨w.heap.size, 0, none⟩) 0 0) 0 [] :=
  ⟨rfl, .inr ⟨w.heap.size, 0, #[], rfl, hB, heap_new w _, Nat.le_refl _, Nat.zero_le _, rfl, rfl⟩⟩
theorem Rn.news {w : World} {B g N cap : Nat} {t u : List Int} (h : Rn B (.slice (.some ⟨g, 0, none⟩) N cap) (t ++ u) w) : ∀ j v, (t.map (Value.int .i64))[j]? = .some v → w.cell? ((⟨g, 0, none⟩ : Addr).add j) = .some v := fun j v hv => by
  refine World.ownsRow.cells h (g := g) rfl j v ?_
  rw [List.map_append, List.getElem?_append_left (List.getElem?_eq_some_iff.1 hv).1]
  exact hv
theorem ints_one (t : List Int) : ∀ u ∈ t.map (Value.int .i64), u.oneCell' = true := by
  intro u hu
  obtain ⟨x, _, rfl⟩ := List.mem_map.1 hu
  rfl
theorem Rn.all {w : World} {B g N cap : Nat} {t : List Int} (h : Rn B (.slice (.some ⟨g, 0, none⟩) N cap) t w) : ∀ j v, (t.map (Value.int .i64))[j]? = .some v → w.cell? ((⟨g, 0, none⟩ : Addr).add j) = .some v := fun j v hv => World.ownsRow.cells h (g := g) rfl j v hv
theorem Rn.kept {w w' : World} {B : Nat} {row : Option Nat} {v : Value} {l : List Int} (h : Rn B v l w) (hg : w.grownBy w' row) (hne : v.ownBlock ≠ row) : Rn B v l w' := World.ownsRow.kept h hg (.inr hne)
/-- What a later call made lies apart from what lay. -/
theorem apart_blocks {w : World} {B g n c : Nat} {v : Value} {l : List Int} (h : Rn B v l w) (hg : g < B) : v.ownBlock ≠ (Value.slice (some ⟨g, 0, none⟩) n c).ownBlock := by
  rcases h.2 with ⟨hv, _⟩ | ⟨g', cap, cur, hv, hB, _⟩
  · rw [hv]; simp [Value.ownBlock]
  · rw [hv]; simp [Value.ownBlock]; omega
theorem wrap_in {x : Int} (h1 : -9223372036854775808 ≤ x) (h2 : x ≤ 9223372036854775807) : IntKind.i64.wrap x = x := by
  simp [IntKind.wrap, IntKind.bits, IntKind.signed]; omega
end Go.Proofs.YtefobkgifigclaaGreatDoor.S18
/- Texts, as lists of numbers. -/
namespace Go.Proofs.YtefobkgifigclaaGreatDoor.S18
set_option maxRecDepth 100000
open Go.RowKit

/-- A text's bytes, as numbers. -/
def nums (t : ByteArray) : List Int := t.data.toList.map fun b => (b.toNat : Int)
theorem nums_length (t : ByteArray) : (nums t).length = t.size := by simp [nums]
theorem nums_bound (t : ByteArray) : ∀ x ∈ nums t, 0 ≤ x ∧ x < 256 := by
  intro x hx
  simp only [nums, List.mem_map] at hx
  obtain ⟨b, _, rfl⟩ := hx
  have := b.toNat_lt
  omega
theorem nums_at (t : ByteArray) (k : Nat) (h : k < t.size) : (nums t).getD k 0 = (t[k].toNat : Int) := by
  have h' : k < t.data.toList.length := by simpa using h
  simp [nums, List.getD, h]
  rfl
theorem strOfNums_nums (t : ByteArray) : strOfNums (nums t) = t := by
  apply ByteArray.ext
  apply Array.toList_inj.1
  rw [strOfNums_data]
  unfold nums
  rw [List.map_map]
  conv => rhs; rw [← List.map_id t.data.toList]
  apply List.map_congr_left
  intro x _
  simp
theorem nums_strOfNums (xs : List Int) (h : ∀ x ∈ xs, 0 ≤ x ∧ x < 256) : nums (strOfNums xs) = xs := by
  unfold nums
  rw [strOfNums_data, List.map_map]
  conv => rhs; rw [← List.map_id xs]
  apply List.map_congr_left
  intro x hx
  have := h x hx
  simp
  omega
theorem strOfNums_app (a b : List Int) : strOfNums a ++ strOfNums b = strOfNums (a ++ b) := by
  unfold strOfNums
  rw [ByteArray.mk_append_mk, List.map_append]
theorem str_same (xs : List Int) (h : ∀ x ∈ xs, 0 ≤ x ∧ x < 256) (t : ByteArray) : ((strOfNums xs).toList == t.toList) = decide (xs = nums t) := by
  rw [Bool.eq_iff_iff]
  simp
  constructor
  · intro e
    have e' : strOfNums xs = t := by
      apply ByteArray.ext
      apply Array.toList_inj.1
      rw [← ByteArray.toList_eq, ← ByteArray.toList_eq]
      exact e
    rw [← e', nums_strOfNums _ h]
  · intro e
    rw [e, strOfNums_nums]
theorem ret_str {a b : ByteArray} (h : a = b) : Ending.returned (.string a) = .returned (.string b) := by rw [h]
theorem ret_se {a b : ByteArray} {c d : Int} (h : a = b) (h' : c = d) : Ending.returned (.tuple #[.string a, .int .i64 c]) = .returned (.tuple #[.string b, .int .i64 d]) := by rw [h, h']
/-- One byte as a text. -/
theorem conv_one {W : World} {b : Nat} {z : Int} (h : W.cell? ⟨b, 0, none⟩ = some (.int .u8 z)) :
    (convert 84 9 (.slice (some ⟨b, 0, none⟩) 1 1)).run Tryz.prog W = .ok (.string (strOfNums [z])) W := by
  refine run_convert_bytes_arg W 84 5 Tryz.underlying84 Tryz.underlying5 b 0 1 1 [z] rfl ?_ 9 Tryz.underlying9
  intro i hi
  have : i = 0 := by omega
  subst this
  simpa using h
theorem conv_new1 (w : World) (z : Int) : (convert 84 9 (.slice (some ⟨w.heap.size, 0, none⟩) 1 1)).run Tryz.prog (w.alloc (.cells #[.int .u8 z] 5)) = .ok (.string (strOfNums [z])) (w.alloc (.cells #[.int .u8 z] 5)) :=
  conv_one (box1 w _ _)
end Go.Proofs.YtefobkgifigclaaGreatDoor.S18
/- Names and their texts, plainly: what may be, how it is written, how it is read; P18.5, P18.6. -/
namespace Go.Proofs.YtefobkgifigclaaGreatDoor.S18
set_option maxRecDepth 100000
open Go.RowKit

/-- A pair: its name, its value. -/
structure Pr where
  nam : ByteArray
  val : ByteArray
/-- The pair that is none. -/
def pr0 : Pr := ⟨ByteArray.empty, ByteArray.empty⟩
def lowB (c : Int) : Bool := decide (97 ≤ c ∧ c ≤ 122)
def digB (c : Int) : Bool := decide (48 ≤ c ∧ c ≤ 57)
def wrdC (c : Int) : Bool := lowB c || (digB c || decide (c = 45))
/-- Is a text a word? -/
def wrdB (l : List Int) : Bool := decide (1 ≤ l.length ∧ l.length ≤ 16) && (lowB (l.getD 0 0) && l.all wrdC)
/-- May a pair, a part, a name be? -/
def okP (p : Pr) : Bool := wrdB (nums p.nam) && decide (1 ≤ p.val.size ∧ p.val.size ≤ 400)
def okR (r : List Pr) : Bool := decide (1 ≤ r.length ∧ r.length ≤ 3) && r.all okP
def okN (n : List (List Pr)) : Bool := decide (n.length ≤ 6) && n.all okR
def chkN (n : List (List Pr)) : Int := if okN n = true then 0 else 220
/-- The bytes that have a slash ahead wherever they stand. -/
def sgn (c : Int) : Bool := decide (c = 44 ∨ c = 43 ∨ c = 34 ∨ c = 92 ∨ c = 60 ∨ c = 62 ∨ c = 59 ∨ c = 61)
def esc (c : Int) : Bool := sgn c || decide (c = 32 ∨ c = 35)
def hexD (n : Int) : Int := if n < 10 then 48 + n else 87 + n
def unh (c : Int) : Int := if 48 ≤ c ∧ c ≤ 57 then c - 48 else if 97 ≤ c ∧ c ≤ 102 then c - 87 else if 65 ≤ c ∧ c ≤ 70 then c - 55 else 16
/-- The text of one byte of a value, which stands first, or last. -/
def escB (f la : Bool) (c : Int) : List Int :=
  if c < 32 ∨ c = 127 then [92, hexD (c / 16), hexD (c % 16)] else if (sgn c || (decide (c = 32) && (f || la) || (decide (c = 35) && f))) = true then [92, c] else [c]
/-- The text of a value, of a pair, of a part, of a name. -/
def shV (f : Bool) : List Int → List Int
  | [] => []
  | c :: t => escB f t.isEmpty c ++ shV false t
def shP (p : Pr) : List Int := nums p.nam ++ (61 :: shV true (nums p.val))
def shR (f : Bool) : List Pr → List Int
  | [] => []
  | p :: t => (if f then [] else [43]) ++ (shP p ++ shR false t)
def shN (f : Bool) : List (List Pr) → List Int
  | [] => []
  | r :: t => (if f then [] else [44]) ++ (shR true r ++ shN false t)
/-- What Show answers. -/
def shS (n : List (List Pr)) : ByteArray := if okN n = true then strOfNums (shN true n) else strOfNums []

/-- What a value's text says, and the rest: nothing, or what begins with a comma or a plus. f: it stands first; b: a bare space was read last. -/
def valL (f b : Bool) : List Int → Option (List Int × List Int)
  | [] => if b then none else some ([], [])
  | c :: t =>
    if c = 44 ∨ c = 43 then (if b then none else some ([], c :: t))
    else if c = 92 then
      match t with
      | [] => none
      | d :: u =>
        if esc d = true then (valL false false u).map fun x => (d :: x.1, x.2)
        else
          match u with
          | [] => none
          | e :: r => if unh d < 16 ∧ unh e < 16 then (valL false false r).map fun x => ((16 * unh d + unh e) :: x.1, x.2) else none
    else if sgn c = true ∨ (f = true ∧ (c = 32 ∨ c = 35)) then none
    else (valL false (decide (c = 32)) t).map fun x => (c :: x.1, x.2)
/-- A text, cut at the first = (which is left out). -/
def cutE : List Int → List Int × List Int
  | [] => ([], [])
  | c :: t => if c = 61 then ([], t) else (c :: (cutE t).1, (cutE t).2)
def smlC (c : Int) : Int := if 65 ≤ c ∧ c ≤ 90 then c + 32 else c
/-- The pair that a text begins with, and the rest. -/
def pairL (l : List Int) : Option (Pr × List Int) := (valL true false (cutE l).2).map fun x => (⟨strOfNums ((cutE l).1.map smlC), strOfNums x.1⟩, x.2)
/-- The parts of a text, behind parts n and pairs r. -/
def partsL : Nat → List (List Pr) → List Pr → List Int → Option (List (List Pr))
  | 0, _, _, _ => none
  | k + 1, n, r, l =>
    match pairL l with
    | none => none
    | some (p, []) => some (n ++ [r ++ [p]])
    | some (p, c :: t) => if c = 43 then partsL k n (r ++ [p]) t else partsL k (n ++ [r ++ [p]]) [] t
def parR (l : List Int) : Option (List (List Pr)) :=
  match partsL (l.length + 1) [] [] l with
  | none => none
  | some n => if okN n = true then some n else none
/-- The name of a text, and the error. -/
def parN (l : List Int) : List (List Pr) := if 3000 < l.length then [] else if l.length = 0 then [] else (parR l).getD []
def parE (l : List Int) : Int := if 3000 < l.length then 3 else if l.length = 0 then 0 else if (parR l).isSome = true then 0 else 220

theorem val_nil (f b : Bool) : valL f b [] = if b then none else some ([], []) := by rw [valL.eq_def]
theorem val_sep (f b : Bool) {c : Int} (t : List Int) (h : c = 44 ∨ c = 43) : valL f b (c :: t) = if b then none else some ([], c :: t) := by
  rw [valL.eq_def]
  simp only
  rw [if_pos h]
theorem val_esc (f b : Bool) {d : Int} (u : List Int) (h : esc d = true) : valL f b (92 :: d :: u) = (valL false false u).map fun x => (d :: x.1, x.2) := by
  rw [valL.eq_def]
  simp only
  rw [if_neg (by decide), if_pos trivial, if_pos h]
theorem val_hex (f b : Bool) {d : Int} (e : Int) (r : List Int) (h : esc d = false) : valL f b (92 :: d :: e :: r) = if unh d < 16 ∧ unh e < 16 then (valL false false r).map fun x => ((16 * unh d + unh e) :: x.1, x.2) else none := by
  rw [valL.eq_def]
  simp only
  rw [if_neg (by decide), if_pos trivial, if_neg (by rw [h]; decide)]
theorem val_one (f b : Bool) : valL f b [92] = none := by
  rw [valL.eq_def]
  simp only
  rw [if_neg (by decide), if_pos trivial]
theorem val_two (f b : Bool) {d : Int} (h : esc d = false) : valL f b [92, d] = none := by
  rw [valL.eq_def]
  simp only
  rw [if_neg (by decide), if_pos trivial, if_neg (by rw [h]; decide)]
theorem val_bare (f b : Bool) {c : Int} (t : List Int) (h1 : ¬ (c = 44 ∨ c = 43)) (h2 : ¬ c = 92) : valL f b (c :: t) = if sgn c = true ∨ (f = true ∧ (c = 32 ∨ c = 35)) then none else (valL false (decide (c = 32)) t).map fun x => (c :: x.1, x.2) := by
  rw [valL.eq_def]
  simp only
  rw [if_neg h1, if_neg h2]
theorem unh_hex (n : Int) (h0 : 0 ≤ n) (h1 : n < 16) : unh (hexD n) = n := by
  unfold unh hexD
  by_cases h : n < 10
  · rw [if_pos h, if_pos (by omega)]; omega
  · rw [if_neg h, if_neg (by omega), if_pos (by omega)]; omega
theorem hex_plain (n : Int) (h0 : 0 ≤ n) (h1 : n < 16) : esc (hexD n) = false := by
  unfold esc sgn hexD
  by_cases h : n < 10
  · rw [if_pos h]
    simp
    omega
  · rw [if_neg h]
    simp
    omega
/-- A value's text is read as it was written. -/
theorem val_back (X : List Int) (hX : X = [] ∨ ∃ c t, X = c :: t ∧ (c = 44 ∨ c = 43)) : ∀ (l : List Int) (f b : Bool), (∀ x ∈ l, 0 ≤ x ∧ x < 256) → (l = [] → b = false) → valL f b (shV f l ++ X) = some (l, X)
  | [], f, b, _, hb => by
    rw [hb rfl]
    rcases hX with rfl | ⟨c, t, rfl, hc⟩
    · exact val_nil f false
    · exact val_sep f false t hc
  | c :: t, f, b, hl, _ => by
    have hc := hl c (by simp)
    have ht : ∀ x ∈ t, 0 ≤ x ∧ x < 256 := fun x hx => hl x (by simp [hx])
    rw [shV]
    unfold escB
    by_cases h1 : c < 32 ∨ c = 127
    · rw [if_pos h1]
      simp only [List.cons_append, List.nil_append]
      rw [val_hex f b _ _ (hex_plain _ (by omega) (by omega)), unh_hex _ (by omega) (by omega), unh_hex _ (by omega) (by omega), val_back X hX t false false ht (fun _ => rfl), if_pos (by omega)]
      simp
      omega
    · rw [if_neg h1]
      by_cases h2 : (sgn c || (decide (c = 32) && (f || t.isEmpty) || (decide (c = 35) && f))) = true
      · rw [if_pos h2]
        have he : esc c = true := by
          unfold esc
          simp only [Bool.or_eq_true, Bool.and_eq_true, decide_eq_true_eq] at h2 ⊢
          rcases h2 with h | ⟨h, _⟩ | ⟨h, _⟩
          · exact .inl h
          · exact .inr (.inl h)
          · exact .inr (.inr h)
        simp only [List.cons_append, List.nil_append]
        rw [val_esc f b _ he, val_back X hX t false false ht (fun _ => rfl)]
        rfl
      · rw [if_neg h2]
        have h3 : sgn c = false := by
          cases h : sgn c
          · rfl
          · rw [h] at h2; simp at h2
        have h4 : ¬ (c = 44 ∨ c = 43) ∧ ¬ c = 92 := by
          unfold sgn at h3
          simp at h3
          omega
        rw [h3] at h2
        simp only [Bool.false_or, Bool.or_eq_true, Bool.and_eq_true, decide_eq_true_eq, not_or, not_and] at h2
        simp only [List.cons_append, List.nil_append]
        rw [val_bare f b _ h4.1 h4.2, h3, if_neg, val_back X hX t false _ ht]
        · rfl
        · intro e
          subst e
          have := h2.1
          simp at this ⊢
          omega
        · intro h
          rcases h with h | ⟨hf, h | h⟩
          · simp at h
          · exact (h2.1 h).1 hf
          · exact h2.2 h hf
theorem cutE_word (Y : List Int) : ∀ (l : List Int), (∀ x ∈ l, x ≠ 61) → cutE (l ++ 61 :: Y) = (l, Y)
  | [], _ => by simp [cutE]
  | c :: t, h => by
    have := cutE_word Y t (fun x hx => h x (by simp [hx]))
    have hc := h c (by simp)
    simp only [List.cons_append, cutE]
    rw [if_neg hc, this]
theorem wrdC_in {c : Int} (h : wrdC c = true) : (97 ≤ c ∧ c ≤ 122) ∨ (48 ≤ c ∧ c ≤ 57) ∨ c = 45 := by
  unfold wrdC lowB digB at h
  simpa using h
theorem wrd_all {l : List Int} (h : wrdB l = true) : ∀ x ∈ l, wrdC x = true := by
  unfold wrdB at h
  simp only [Bool.and_eq_true, List.all_eq_true] at h
  exact h.2.2
theorem wrd_len {l : List Int} (h : wrdB l = true) : 1 ≤ l.length ∧ l.length ≤ 16 := by
  unfold wrdB at h
  simp only [Bool.and_eq_true, decide_eq_true_eq] at h
  exact h.1
theorem okP_parts {p : Pr} (h : okP p = true) : wrdB (nums p.nam) = true ∧ 1 ≤ p.val.size ∧ p.val.size ≤ 400 := by
  unfold okP at h
  simpa using h
theorem sml_word {l : List Int} (h : ∀ x ∈ l, wrdC x = true) : l.map smlC = l := by
  conv => rhs; rw [← List.map_id l]
  apply List.map_congr_left
  intro x hx
  have := wrdC_in (h x hx)
  unfold smlC
  rw [if_neg (by omega)]
  rfl
theorem pair_back (p : Pr) (hp : okP p = true) (X : List Int) (hX : X = [] ∨ ∃ c t, X = c :: t ∧ (c = 44 ∨ c = 43)) : pairL (shP p ++ X) = some (p, X) := by
  obtain ⟨hw, hv, _⟩ := okP_parts hp
  have ha := wrd_all hw
  have e : cutE (shP p ++ X) = (nums p.nam, shV true (nums p.val) ++ X) := by
    unfold shP
    rw [List.append_assoc, List.cons_append]
    exact cutE_word _ _ fun x hx => by have := wrdC_in (ha x hx); omega
  unfold pairL
  rw [e]
  simp only
  rw [val_back X hX _ true false (nums_bound _) (fun _ => rfl), sml_word ha]
  simp only [Option.map_some, strOfNums_nums]
theorem shR_plus (p : Pr) (t : List Pr) : shR false (p :: t) = 43 :: shR true (p :: t) := rfl
theorem shN_comma (r : List Pr) (t : List (List Pr)) : shN false (r :: t) = 44 :: (shR true r ++ shN false t) := rfl
theorem parts_back : ∀ (k : Nat) (ps : List Pr) (ns n : List (List Pr)) (r : List Pr), ps ≠ [] → (∀ p ∈ ps, okP p = true) → (∀ q ∈ ns, q ≠ [] ∧ ∀ p ∈ q, okP p = true) → (shR true ps ++ shN false ns).length < k →
    partsL k n r (shR true ps ++ shN false ns) = some (n ++ [r ++ ps] ++ ns)
  | 0, _, _, _, _, _, _, _, h => absurd h (Nat.not_lt_zero _)
  | k + 1, [], _, _, _, h, _, _, _ => absurd rfl h
  | k + 1, p :: pt, ns, n, r, _, hp, hn, hk => by
    have hX : (shR false pt ++ shN false ns) = [] ∨ ∃ c t, (shR false pt ++ shN false ns) = c :: t ∧ (c = 44 ∨ c = 43) := by
      cases pt with
      | cons q t => exact .inr ⟨_, _, by rw [shR_plus]; rfl, .inr rfl⟩
      | nil =>
        cases ns with
        | nil => exact .inl rfl
        | cons q t => exact .inr ⟨_, _, by rw [shN_comma]; rfl, .inl rfl⟩
    have e : shR true (p :: pt) ++ shN false ns = shP p ++ (shR false pt ++ shN false ns) := by simp [shR]
    rw [e] at hk ⊢
    have hpb := pair_back p (hp p (by simp)) _ hX
    have h1 : 1 ≤ (shP p).length := by unfold shP; simp; omega
    rw [List.length_append] at hk
    rw [partsL, hpb]
    cases pt with
    | cons q t =>
      rw [shR_plus] at hk ⊢
      simp only [List.cons_append] at hk ⊢
      rw [if_pos trivial, parts_back k (q :: t) ns n (r ++ [p]) (by simp) (fun x hx => hp x (by simp at hx ⊢; exact .inr hx)) hn (by simp at hk ⊢; omega)]
      simp
    | nil =>
      cases ns with
      | nil => simp [shR, shN]
      | cons q t =>
        obtain ⟨q1, q2⟩ := hn q (by simp)
        rw [show shR false [] ++ shN false (q :: t) = 44 :: (shR true q ++ shN false t) from rfl] at hk ⊢
        simp only
        rw [if_neg (by decide), parts_back k q t (n ++ [r ++ [p]]) [] q1 q2 (fun x hx => hn x (by simp [hx])) (by simp at hk ⊢; omega)]
        simp
theorem okN_parts {n : List (List Pr)} (h : okN n = true) : n.length ≤ 6 ∧ ∀ r ∈ n, okR r = true := by
  unfold okN at h
  simpa using h
theorem okR_parts {r : List Pr} (h : okR r = true) : (1 ≤ r.length ∧ r.length ≤ 3) ∧ ∀ p ∈ r, okP p = true := by
  unfold okR at h
  simpa using h
theorem okR_ne {r : List Pr} (h : okR r = true) : r ≠ [] := fun e => by
  have := (okR_parts h).1
  rw [e] at this
  simp at this
theorem shN_ne {n : List (List Pr)} (h : okN n = true) (hn : n ≠ []) : (shN true n).length ≠ 0 := by
  cases n with
  | nil => exact absurd rfl hn
  | cons r t =>
    have hr := (okN_parts h).2 r (by simp)
    cases r with
    | nil => exact absurd rfl (okR_ne hr)
    | cons p u => simp [shN, shR, shP]
/-- P18.5: a name that may be is read as it was written. -/
theorem par_back {n : List (List Pr)} (h : okN n = true) (hl : (shN true n).length ≤ 3000) : parN (shN true n) = n ∧ parE (shN true n) = 0 := by
  cases n with
  | nil => exact ⟨rfl, rfl⟩
  | cons r t =>
    have h0 := shN_ne h (by simp)
    have hp := (okN_parts h).2
    have e : parR (shN true (r :: t)) = some (r :: t) := by
      unfold parR
      have e2 : shN true (r :: t) = shR true r ++ shN false t := rfl
      rw [e2, parts_back _ r t [] [] (okR_ne (hp r (by simp))) (okR_parts (hp r (by simp))).2 (fun q hq => ⟨okR_ne (hp q (by simp [hq])), (okR_parts (hp q (by simp [hq]))).2⟩) (by omega)]
      simp only [List.nil_append, List.singleton_append]
      rw [if_pos h]
    unfold parN parE
    rw [if_neg (by omega), if_neg h0, if_neg (by omega), if_neg h0, e]
    exact ⟨rfl, rfl⟩
theorem par_long {l : List Int} (h : 3000 < l.length) : parN l = [] ∧ parE l = 3 := by
  unfold parN parE
  rw [if_pos h, if_pos h]
  exact ⟨rfl, rfl⟩
theorem par_empty : parN [] = [] ∧ parE [] = 0 := ⟨rfl, rfl⟩
theorem par_yes {l : List Int} {n : List (List Pr)} (h1 : ¬ 3000 < l.length) (h2 : l.length ≠ 0) (h : parR l = some n) : parN l = n ∧ parE l = 0 := by
  unfold parN parE
  rw [if_neg h1, if_neg h1, if_neg h2, if_neg h2, h]
  exact ⟨rfl, rfl⟩
theorem par_no {l : List Int} (h1 : ¬ 3000 < l.length) (h2 : l.length ≠ 0) (h : parR l = none) : parN l = [] ∧ parE l = 220 := by
  unfold parN parE
  rw [if_neg h1, if_neg h1, if_neg h2, if_neg h2, h]
  exact ⟨rfl, rfl⟩
theorem parR_some {l : List Int} {n : List (List Pr)} (h : partsL (l.length + 1) [] [] l = some n) : parR l = if okN n = true then some n else none := by
  unfold parR
  rw [h]
theorem parR_none {l : List Int} (h : partsL (l.length + 1) [] [] l = none) : parR l = none := by
  unfold parR
  rw [h]
theorem parR_ok {l : List Int} {n : List (List Pr)} (h : parR l = some n) : okN n = true := by
  unfold parR at h
  split at h
  · cases h
  · split at h
    · rename_i hk
      cases h
      exact hk
    · cases h
/-- What is read may be; where there is an error nothing is told. -/
theorem par_ok (l : List Int) : okN (parN l) = true := by
  unfold parN
  split
  · rfl
  · split
    · rfl
    · cases h : parR l with
      | none => rfl
      | some n => exact parR_ok h
theorem par_err {l : List Int} (h : parE l ≠ 0) : parN l = [] := by
  unfold parN parE at *
  split at h
  · rw [if_pos (by assumption)]
  · rw [if_neg (by assumption)]
    split at h
    · exact absurd rfl h
    · rw [if_neg (by assumption)]
      cases hp : parR l with
      | none => rfl
      | some n => rw [hp] at h; exact absurd rfl h
theorem parE_in (l : List Int) : parE l = 0 ∨ parE l = 3 ∨ parE l = 220 := by
  unfold parE
  repeat' split
  all_goals simp
end Go.Proofs.YtefobkgifigclaaGreatDoor.S18
/- Names in memory: slices of pairs, slices of parts. -/
namespace Go.Proofs.YtefobkgifigclaaGreatDoor.S18
set_option maxRecDepth 100000
open Go.RowKit

/-- A slice that holds the pairs l. -/
def PsV (w : World) (v : Value) (l : List Pr) : Prop :=
  ∃ a cap, v = .slice a l.length cap ∧ l.length ≤ 9223372036854775807 ∧ (0 < l.length → ∃ b off, a = some ⟨b, off, none⟩ ∧ ∀ j, j < l.length →
    w.cell? ⟨b, off + j * 2, none⟩ = some (.string (l.getD j pr0).nam) ∧ w.cell? ⟨b, off + j * 2 + 1, none⟩ = some (.string (l.getD j pr0).val))
theorem PsV.below {w w2 : World} {v : Value} {l : List Pr} (h : PsV w v l) (hb : Below w.heap.size w w2) : PsV w2 v l := by
  obtain ⟨a, cap, rfl, hn, hc⟩ := h
  refine ⟨a, cap, rfl, hn, fun i => ?_⟩
  obtain ⟨b, off, rfl, hcc⟩ := hc i
  refine ⟨b, off, rfl, fun j hj => ?_⟩
  obtain ⟨h1, h2⟩ := hcc j hj
  exact ⟨(hb.cell (p := ⟨b, off + j * 2, none⟩) (cell_lt h1)).trans h1, (hb.cell (p := ⟨b, off + j * 2 + 1, none⟩) (cell_lt h2)).trans h2⟩
theorem PsV.nil (w : World) (a : Option Addr) (c : Nat) : PsV w (.slice a 0 c) [] := ⟨a, c, rfl, by simp, fun h => absurd h (Nat.lt_irrefl _)⟩
theorem PsV.shape {w : World} {v : Value} {l : List Pr} (h : PsV w v l) : ∃ a c, v = .slice a l.length c := by
  obtain ⟨a, c, h, _⟩ := h
  exact ⟨a, c, h⟩
/-- A slice that holds the parts n. -/
def NmV (w : World) (v : Value) (n : List (List Pr)) : Prop :=
  ∃ a cap, v = .slice a n.length cap ∧ n.length ≤ cap ∧ n.length ≤ 9223372036854775807 ∧ (0 < n.length → ∃ b off, a = some ⟨b, off, none⟩ ∧ ∀ j, j < n.length → ∃ rv, w.cell? ⟨b, off + j, none⟩ = some rv ∧ PsV w rv (n.getD j []))
theorem NmV.below {w w2 : World} {v : Value} {n : List (List Pr)} (h : NmV w v n) (hb : Below w.heap.size w w2) : NmV w2 v n := by
  obtain ⟨a, cap, rfl, hn, hm, hc⟩ := h
  refine ⟨a, cap, rfl, hn, hm, fun i => ?_⟩
  obtain ⟨b, off, rfl, hcc⟩ := hc i
  refine ⟨b, off, rfl, fun j hj => ?_⟩
  obtain ⟨rv, h1, h2⟩ := hcc j hj
  exact ⟨rv, (hb.cell (p := ⟨b, off + j, none⟩) (cell_lt h1)).trans h1, h2.below hb⟩
theorem NmV.nil (w : World) (a : Option Addr) (c : Nat) : NmV w (.slice a 0 c) [] := ⟨a, c, rfl, Nat.zero_le _, by simp, fun h => absurd h (Nat.lt_irrefl _)⟩
theorem NmV.shape {w : World} {v : Value} {n : List (List Pr)} (h : NmV w v n) : ∃ a c, v = .slice a n.length c := by
  obtain ⟨a, c, h, _⟩ := h
  exact ⟨a, c, h⟩
theorem getD_memR (n : List (List Pr)) (k : Nat) (h : k < n.length) : n.getD k [] ∈ n := by simp [List.getD, h]
theorem getD_memP (n : List Pr) (k : Nat) (h : k < n.length) : n.getD k pr0 ∈ n := by simp [List.getD, h]
theorem drop_consR (l : List (List Pr)) (i : Nat) (h : i < l.length) : l.drop i = l.getD i [] :: l.drop (i + 1) := by
  rw [List.drop_eq_getElem_cons h]
  simp [List.getD, h]
theorem drop_consP (l : List Pr) (i : Nat) (h : i < l.length) : l.drop i = l.getD i pr0 :: l.drop (i + 1) := by
  rw [List.drop_eq_getElem_cons h]
  simp [List.getD, h]
theorem drop_consI (l : List Int) (i : Nat) (h : i < l.length) : l.drop i = l.getD i 0 :: l.drop (i + 1) := by
  rw [List.drop_eq_getElem_cons h]
  simp [List.getD, h]
/-- All in a list are so, told place by place. -/
theorem all_of {α : Type} (p : α → Bool) (d : α) (l : List α) (h : ∀ k, k < l.length → p (l.getD k d) = true) : l.all p = true := by
  rw [List.all_eq_true]
  intro x hx
  obtain ⟨k, hk, rfl⟩ := List.getElem_of_mem hx
  have := h k hk
  simpa [List.getD, hk] using this
theorem all_at {α : Type} {p : α → Bool} {d : α} {l : List α} (h : l.all p = true) (k : Nat) (hk : k < l.length) : p (l.getD k d) = true := by
  rw [List.all_eq_true] at h
  exact h _ (by simp [List.getD, hk])
theorem chk_yes {n : List (List Pr)} (h : okN n = true) : chkN n = 0 := by unfold chkN; rw [if_pos h]
theorem chk_no {n : List (List Pr)} (h : okN n = false) : chkN n = 220 := by unfold chkN; rw [h]; rfl
end Go.Proofs.YtefobkgifigclaaGreatDoor.S18
/- Texts: their bytes as a slice, parts of them. -/
namespace Go.Proofs.YtefobkgifigclaaGreatDoor.S18
set_option maxRecDepth 100000
open Go.RowKit

/-- The bytes of a text, as a new slice. -/
theorem bytes_new (t : ByteArray) (w : World) : ∃ (w1 : World) (cap1 : Nat), (convert 9 84 (.string t)).run Tryz.prog w = .ok (.slice (some ⟨w.heap.size, 0, none⟩) t.size cap1) w1 ∧
    (∀ j, j < t.size → w1.cell? ⟨w.heap.size, j, none⟩ = some (.int .u8 ((nums t).getD j 0))) ∧ Below w.heap.size w w1 := by
  refine ⟨_, _, run_bytes_of_string w 9 84 5 t Tryz.underlying9 Tryz.underlying84 Tryz.underlying5, ?_, ((Below.refl _ _).drew).alloc (Nat.le_refl _) _⟩
  intro j hj
  have := World.cell?_alloc_mark w.drew (bytesRow t (grownCap w t.size 0 5)) 5 ((bytesRow t (grownCap w t.size 0 5)).size, (bytesRow t (grownCap w t.size 0 5)).size + 1) j
  refine this.trans ?_
  rw [bytesRow_at t _ j (by simpa using hj), nums_at t j hj]
  rfl
theorem nums_sub (s : ByteArray) (a b : Nat) : nums (s.extract a b) = ((nums s).drop a).take (b - a) := by
  simp [nums, ByteArray.data_extract, Array.toList_extract, List.extract, List.map_take, List.map_drop]
theorem nums_drop (s : ByteArray) (a : Nat) : nums (s.extract a s.size) = (nums s).drop a := by
  rw [nums_sub]
  exact List.take_of_length_le (by rw [List.length_drop, nums_length]; omega)
theorem getD_sub (l : List Int) (a n j : Nat) (h : j < n) : ((l.drop a).take n).getD j 0 = l.getD (a + j) 0 := by
  simp [List.getD, h]
theorem getD_nums (s : ByteArray) (j : Nat) : 0 ≤ (nums s).getD j 0 ∧ (nums s).getD j 0 < 256 := by
  by_cases h : j < (nums s).length
  · have : (nums s).getD j 0 = (nums s)[j] := by simp [List.getD, h]
    rw [this]; exact nums_bound s _ (List.getElem_mem h)
  · simp [List.getD, List.getElem?_eq_none (Nat.le_of_not_lt h)]
theorem toList_none {s : ByteArray} (h : s.size = 0) : s.toList.isEmpty = true := by
  rw [List.isEmpty_iff, ByteArray.toList_eq]
  exact List.eq_nil_of_length_eq_zero (by rw [Array.length_toList]; exact h)
theorem toList_some {s : ByteArray} (h : 0 < s.size) : s.toList.isEmpty = false := by
  cases h2 : s.toList.isEmpty
  · rfl
  · rw [List.isEmpty_iff] at h2
    have h3 := congrArg List.length h2
    rw [ByteArray.toList_eq, Array.length_toList] at h3
    have h4 : s.size = 0 := h3
    omega
end Go.Proofs.YtefobkgifigclaaGreatDoor.S18
