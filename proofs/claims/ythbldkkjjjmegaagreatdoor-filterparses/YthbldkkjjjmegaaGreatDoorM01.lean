/- Words that all texts of this stage share: hidden facts, a span, and plain facts on worlds. -/
import Derived.WalkKit
import Derived.Below
import Derived.BigQuiet
import Derived.Deep.QuietTactic
import Derived.Shelf.SlSortCmp.QuietGrown
namespace Go.Proofs.YthbldkkjjjmegaaGreatDoor
set_option maxRecDepth 100000
open Go.RowKit
open Go.Sort (grow)

theorem hide {p : Prop} (h : p) : Hid p := h
theorem unhide {p : Prop} (h : Hid p) : p := h
theorem ret_bool {a b : Bool} (h : a = b) : Ending.returned (.bool a) = .returned (.bool b) := by rw [h]
theorem ret_int {k : IntKind} {a b : Int} (h : a = b) : Ending.returned (.int k a) = .returned (.int k b) := by rw [h]
theorem cell_lt {w : World} {a : Addr} {v : Value} (h : w.cell? a = some v) : a.block < w.heap.size := by
  rcases Nat.lt_or_ge a.block w.heap.size with h' | h'
  · exact h'
  · simp [World.cell?, Array.getElem?_eq_none h'] at h
theorem below_new {w w1 : World} {o : Obj} (hb : Below (w.alloc o).heap.size (w.alloc o) w1) : Below w.heap.size w w1 :=
  ((Below.refl _ _).alloc (Nat.le_refl _) _).trans (hb.mono (by simp))

/-- A span: from, to, what it has. -/
structure Sp where
  f : Int
  t : Int
  h : Int
/-- The span that is none. -/
def sp0 : Sp := ⟨0, 0, 0⟩
/-- Are two spans, two lists of spans the same? -/
def eqS (a b : Sp) : Bool := decide (a.f = b.f ∧ a.t = b.t ∧ a.h = b.h)
def eqL : List Sp → List Sp → Bool
  | [], [] => true
  | [], _ :: _ => false
  | _ :: _, [] => false
  | a :: l, b :: m => eqS a b && eqL l m
theorem eqS_iff (a b : Sp) : eqS a b = true ↔ a = b := by
  obtain ⟨f, t, h⟩ := a
  obtain ⟨f2, t2, h2⟩ := b
  simp [eqS]
theorem eqL_iff (a b : List Sp) : eqL a b = true ↔ a = b := by
  induction a generalizing b with
  | nil => cases b <;> simp [eqL]
  | cons x a ih =>
    cases b with
    | nil => simp [eqL]
    | cons y b => simp [eqL, eqS_iff, ih]
theorem eqL_true {a b : List Sp} (h : a = b) : eqL a b = true := (eqL_iff a b).2 h
theorem eqL_false {a b : List Sp} (h : ¬ a = b) : eqL a b = false := by
  cases h2 : eqL a b
  · rfl
  · exact absurd ((eqL_iff a b).1 h2) h

/-- May a span be? -/
def mayS (s : Sp) : Bool := decide (0 ≤ s.f ∧ s.f ≤ s.t ∧ s.t ≤ 1114111)
theorem mayS_iff (s : Sp) : mayS s = true ↔ 0 ≤ s.f ∧ s.f ≤ s.t ∧ s.t ≤ 1114111 := by unfold mayS; simp
theorem mayS_not (s : Sp) : mayS s = false ↔ ¬ (0 ≤ s.f ∧ s.f ≤ s.t ∧ s.t ≤ 1114111) := by unfold mayS; rw [decide_eq_false_iff_not]

/-- Is a number in a span? -/
def inS (s : Sp) (r : Int) : Bool := decide (s.f ≤ r ∧ r ≤ s.t)
theorem inS_iff (s : Sp) (r : Int) : inS s r = true ↔ s.f ≤ r ∧ r ≤ s.t := by unfold inS; simp
theorem inS_not (s : Sp) (r : Int) : inS s r = false ↔ ¬ (s.f ≤ r ∧ r ≤ s.t) := by unfold inS; rw [decide_eq_false_iff_not]

/-- Does a span touch the one ahead, with the same? -/
def joinS (p s : Sp) : Bool := decide (s.f = p.t + 1 ∧ s.h = p.h)
theorem joinS_iff (p s : Sp) : joinS p s = true ↔ s.f = p.t + 1 ∧ s.h = p.h := by unfold joinS; simp
theorem joinS_not (p s : Sp) : joinS p s = false ↔ ¬ (s.f = p.t + 1 ∧ s.h = p.h) := by unfold joinS; rw [decide_eq_false_iff_not]

/-- May a span follow the one ahead? -/
def folS (p s : Sp) : Bool := decide (p.t < s.f) && !joinS p s

/-- A slice that holds the spans l. -/
def Tab (w : World) (v : Value) (l : List Sp) : Prop :=
  ∃ a cap, v = .slice a l.length cap ∧ (0 < l.length → ∃ b off, a = some ⟨b, off, none⟩ ∧ ∀ j, j < l.length →
    w.cell? ⟨b, off + j * 3, none⟩ = some (.int .i32 (l.getD j sp0).f) ∧ w.cell? ⟨b, off + j * 3 + 1, none⟩ = some (.int .i32 (l.getD j sp0).t) ∧ w.cell? ⟨b, off + j * 3 + 2, none⟩ = some (.int .i64 (l.getD j sp0).h))

theorem Tab.below {w w2 : World} {v : Value} {l : List Sp} (h : Tab w v l) (hb : Below w.heap.size w w2) : Tab w2 v l := by
  obtain ⟨a, cap, rfl, hc⟩ := h
  refine ⟨a, cap, rfl, fun i => ?_⟩
  obtain ⟨b, off, rfl, hcc⟩ := hc i
  refine ⟨b, off, rfl, fun j hj => ?_⟩
  obtain ⟨h1, h2, h3⟩ := hcc j hj
  exact ⟨(hb.cell (p := ⟨b, off + j * 3, none⟩) (cell_lt h1)).trans h1, (hb.cell (p := ⟨b, off + j * 3 + 1, none⟩) (cell_lt h2)).trans h2, (hb.cell (p := ⟨b, off + j * 3 + 2, none⟩) (cell_lt h3)).trans h3⟩

theorem Tab.nil (w : World) (a : Option Addr) (c : Nat) : Tab w (.slice a 0 c) [] := ⟨a, c, rfl, fun h => absurd h (Nat.lt_irrefl _)⟩
theorem below_drewN {B : Nat} {w w1 : World} (h : Below B w w1) (n : Nat) : Below B w (w1.drewN n) := ⟨h.os, h.tape, h.output, h.size, h.block⟩

/-- The world has drawn, and blocks were laid behind; all that lay lies as it lay. -/
def Gr (w w' : World) : Prop := ∃ q os, w' = grow (w.drewN q) os
theorem Gr.refl (w : World) : Gr w w := ⟨0, #[], by rw [Go.Sort.grow_empty]; rfl⟩
theorem Gr.trans {a b c : World} (h : Gr a b) (k : Gr b c) : Gr a c := by
  obtain ⟨q, os, rfl⟩ := h
  obtain ⟨q2, os2, rfl⟩ := k
  exact ⟨q + q2, os ++ os2, by show grow (grow ((a.drewN q).drewN q2) os) os2 = _; rw [Go.Sort.grow_grow, World.drewN_drewN]⟩
theorem Gr.one (w : World) (o : Obj) : Gr w (w.alloc o) := ⟨0, #[o], by rw [Go.Sort.alloc_eq_grow]; rfl⟩
theorem Gr.alloc {a b : World} (h : Gr a b) (o : Obj) : Gr a (b.alloc o) := h.trans (Gr.one b o)
theorem Gr.drewN {a b : World} (h : Gr a b) (n : Nat) : Gr a (b.drewN n) := h.trans ⟨n, #[], by rw [Go.Sort.grow_empty]⟩
theorem Gr.drew {a b : World} (h : Gr a b) : Gr a b.drew := h.drewN 1
theorem Gr.grow {a b : World} (h : Gr a b) (n : Nat) (os : Array Obj) : Gr a (Go.Sort.grow (b.drewN n) os) := h.trans ⟨n, os, rfl⟩
theorem Gr.below {a b : World} (h : Gr a b) : Below a.heap.size a b := by
  obtain ⟨q, os, rfl⟩ := h
  exact ⟨rfl, rfl, rfl, by simp [Go.Sort.grow, World.drewN], fun i hi => by
    show ((a.drewN q).heap ++ os)[i]? = _
    rw [Array.getElem?_append_left (by show i < a.heap.size; omega)]
    rfl⟩
theorem Gr.cell {a b : World} (h : Gr a b) {p : Addr} {v : Value} (hc : a.cell? p = some v) : b.cell? p = some v := (h.below.cell (p := p) (cell_lt hc)).trans hc
theorem Gr.tab {a b : World} (h : Gr a b) {v : Value} {l : List Sp} (hc : Tab a v l) : Tab b v l := hc.below h.below
theorem Gr.size {a b : World} (h : Gr a b) : a.heap.size ≤ b.heap.size := h.below.size
/-- A cell in every world that has grown. -/
theorem cell_gr {w : World} {a : Addr} {v : Value} (h : w.cell? a = some v) (n : Nat) (os : Array Obj) : (grow (w.drewN n) os).cell? a = some v := cell_grown (cell_lt h) h n os
theorem callsGr {f : FuncId} {args : Array Value} {w : World} {n : Nat} {os : Array Obj} {v : Value} {P : Program}
    (h : Calls P f args (grow (w.drewN n) os) fun e w' => e = .returned v ∧ Gr (grow (w.drewN n) os) w') : Calls P f args (grow (w.drewN n) os) fun e w'' => e = .returned v ∧ ∃ p : GrownBy, w'' = grow (w.drewN p.n) p.os :=
  Calls.grown_of h

/-- The three cells of a new box. -/
theorem box3 (w : World) (a b c : Value) (T : TypeId) : (w.alloc (.cells #[a, b, c] T)).cell? ⟨w.heap.size, 0, none⟩ = some a ∧ (w.alloc (.cells #[a, b, c] T)).cell? ⟨w.heap.size, 1, none⟩ = some b ∧ (w.alloc (.cells #[a, b, c] T)).cell? ⟨w.heap.size, 2, none⟩ = some c := by
  refine ⟨?_, ?_, ?_⟩ <;> rw [World.cell?_alloc_mark] <;> rfl
theorem box1 (w : World) (a : Value) (T : TypeId) : (w.alloc (.cells #[a] T)).cell? ⟨w.heap.size, 0, none⟩ = some a := by
  rw [World.cell?_alloc_mark]; rfl
end Go.Proofs.YthbldkkjjjmegaaGreatDoor
