/- Words that all texts of this stage share: hidden facts, a span, and plain facts on worlds. -/
import Derived.WalkKit
import Derived.Below
import Derived.BigQuiet
import Derived.Deep.QuietTactic
import Derived.Shelf.SlSortCmp.QuietGrown
import Derived.Deep.AppendLies
import Derived.Laws.OwnMore
import Derived.Test.YtefobkgifigclaaGreatDoorProg
import Derived.WalkSpells
import Derived.WalkLawsBesides
import Derived.ScopeJumps
import Derived.WalkMore
namespace Go.Proofs.YtefobkgifigclaaGreatDoor
set_option maxRecDepth 100000
open Go.RowKit
open Go.Sort (grow)

theorem hide {p : Prop} (h : p) : Hid p := h
theorem unhide {p : Prop} (h : Hid p) : p := h
theorem ret_bool {a b : Bool} (h : a = b) : Ending.returned (.bool a) = .returned (.bool b) := by rw [h]
theorem ret_int {k : IntKind} {a b : Int} (h : a = b) : Ending.returned (.int k a) = .returned (.int k b) := by rw [h]
theorem cell_lt {w : World} {a : Addr} {v : Value} (h : w.cell? a = some v) : a.block < w.heap.size := by
  rcases Nat.lt_or_ge a.block w.heap.size with h' | h'
  · exact h'
  · simp [World.cell?, Array.getElem?_eq_none h'] at h
theorem below_new {w w1 : World} {o : Obj} (hb : Below (w.alloc o).heap.size (w.alloc o) w1) : Below w.heap.size w w1 :=
  ((Below.refl _ _).alloc (Nat.le_refl _) _).trans (hb.mono (by simp))

/-- A span: from, to, what it has. -/
structure Sp where
  f : Int
  t : Int
  h : Int
/-- The span that is none. -/
def sp0 : Sp := ⟨0, 0, 0⟩
/-- Are two spans, two lists of spans the same? -/
def eqS (a b : Sp) : Bool := decide (a.f = b.f ∧ a.t = b.t ∧ a.h = b.h)
def eqL : List Sp → List Sp → Bool
  | [], [] => true
  | [], _ :: _ => false
  | _ :: _, [] => false
  | a :: l, b :: m => eqS a b && eqL l m
theorem eqS_iff (a b : Sp) : eqS a b = true ↔ a = b := by
  obtain ⟨f, t, h⟩ := a
  obtain ⟨f2, t2, h2⟩ := b
  simp [eqS]
theorem eqL_iff (a b : List Sp) : eqL a b = true ↔ a = b := by
  induction a generalizing b with
  | nil => cases b <;> simp [eqL]
  | cons x a ih =>
    cases b with
    | nil => simp [eqL]
    | cons y b => simp [eqL, eqS_iff, ih]
theorem eqL_true {a b : List Sp} (h : a = b) : eqL a b = true := (eqL_iff a b).2 h
theorem eqL_false {a b : List Sp} (h : ¬ a = b) : eqL a b = false := by
  cases h2 : eqL a b
  · rfl
  · exact absurd ((eqL_iff a b).1 h2) h

/-- May a span be? -/
def mayS (s : Sp) : Bool := decide (0 ≤ s.f ∧ s.f ≤ s.t ∧ s.t ≤ 1114111)
theorem mayS_iff (s : Sp) : mayS s = true ↔ 0 ≤ s.f ∧ s.f ≤ s.t ∧ s.t ≤ 1114111 := by unfold mayS; simp
theorem mayS_not (s : Sp) : mayS s = false ↔ ¬ (0 ≤ s.f ∧ s.f ≤ s.t ∧ s.t ≤ 1114111) := by unfold mayS; rw [decide_eq_false_iff_not]

/-- Is a number in a span? -/
def inS (s : Sp) (r : Int) : Bool := decide (s.f ≤ r ∧ r ≤ s.t)
theorem inS_iff (s : Sp) (r : Int) : inS s r = true ↔ s.f ≤ r ∧ r ≤ s.t := by unfold inS; simp
theorem inS_not (s : Sp) (r : Int) : inS s r = false ↔ ¬ (s.f ≤ r ∧ r ≤ s.t) := by unfold inS; rw [decide_eq_false_iff_not]

/-- Does a span touch the one ahead, with the same? -/
def joinS (p s : Sp) : Bool := decide (s.f = p.t + 1 ∧ s.h = p.h)
theorem joinS_iff (p s : Sp) : joinS p s = true ↔ s.f = p.t + 1 ∧ s.h = p.h := by unfold joinS; simp
theorem joinS_not (p s : Sp) : joinS p s = false ↔ ¬ (s.f = p.t + 1 ∧ s.h = p.h) := by unfold joinS; rw [decide_eq_false_iff_not]

/-- May a span follow the one ahead? -/
def folS (p s : Sp) : Bool := decide (p.t < s.f) && !joinS p s

/-- A slice that holds the spans l. -/
def Tab (w : World) (v : Value) (l : List Sp) : Prop :=
  ∃ a cap, v = .slice a l.length cap ∧ (0 < l.length → ∃ b off, a = some ⟨b, off, none⟩ ∧ ∀ j, j < l.length →
    w.cell? ⟨b, off + j * 3, none⟩ = some (.int .i32 (l.getD j sp0).f) ∧ w.cell? ⟨b, off + j * 3 + 1, none⟩ = some (.int .i32 (l.getD j sp0).t) ∧ w.cell? ⟨b, off + j * 3 + 2, none⟩ = some (.int .i64 (l.getD j sp0).h))

theorem Tab.below {w w2 : World} {v : Value} {l : List Sp} (h : Tab w v l) (hb : Below w.heap.size w w2) : Tab w2 v l := by
  obtain ⟨a, cap, rfl, hc⟩ := h
  refine ⟨a, cap, rfl, fun i => ?_⟩
  obtain ⟨b, off, rfl, hcc⟩ := hc i
  refine ⟨b, off, rfl, fun j hj => ?_⟩
  obtain ⟨h1, h2, h3⟩ := hcc j hj
  exact ⟨(hb.cell (p := ⟨b, off + j * 3, none⟩) (cell_lt h1)).trans h1, (hb.cell (p := ⟨b, off + j * 3 + 1, none⟩) (cell_lt h2)).trans h2, (hb.cell (p := ⟨b, off + j * 3 + 2, none⟩) (cell_lt h3)).trans h3⟩

theorem Tab.nil (w : World) (a : Option Addr) (c : Nat) : Tab w (.slice a 0 c) [] := ⟨a, c, rfl, fun h => absurd h (Nat.lt_irrefl _)⟩
theorem below_drewN {B : Nat} {w w1 : World} (h : Below B w w1) (n : Nat) : Below B w (w1.drewN n) := ⟨h.os, h.tape, h.output, h.size, h.block⟩

/-- The world has drawn, and blocks were laid behind; all that lay lies as it lay. -/
def Gr (w w' : World) : Prop := ∃ q os, w' = grow (w.drewN q) os
theorem Gr.refl (w : World) : Gr w w := ⟨0, #[], by rw [Go.Sort.grow_empty]; rfl⟩
theorem Gr.trans {a b c : World} (h : Gr a b) (k : Gr b c) : Gr a c := by
  obtain ⟨q, os, rfl⟩ := h
  obtain ⟨q2, os2, rfl⟩ := k
  exact ⟨q + q2, os ++ os2, by show grow (grow ((a.drewN q).drewN q2) os) os2 = _; rw [Go.Sort.grow_grow, World.drewN_drewN]⟩
theorem Gr.one (w : World) (o : Obj) : Gr w (w.alloc o) := ⟨0, #[o], by rw [Go.Sort.alloc_eq_grow]; rfl⟩
theorem Gr.alloc {a b : World} (h : Gr a b) (o : Obj) : Gr a (b.alloc o) := h.trans (Gr.one b o)
theorem Gr.drewN {a b : World} (h : Gr a b) (n : Nat) : Gr a (b.drewN n) := h.trans ⟨n, #[], by rw [Go.Sort.grow_empty]⟩
theorem Gr.drew {a b : World} (h : Gr a b) : Gr a b.drew := h.drewN 1
theorem Gr.grow {a b : World} (h : Gr a b) (n : Nat) (os : Array Obj) : Gr a (Go.Sort.grow (b.drewN n) os) := h.trans ⟨n, os, rfl⟩
theorem Gr.below {a b : World} (h : Gr a b) : Below a.heap.size a b := by
  obtain ⟨q, os, rfl⟩ := h
  exact ⟨rfl, rfl, rfl, by simp [Go.Sort.grow, World.drewN], fun i hi => by
    show ((a.drewN q).heap ++ os)[i]? = _
    rw [Array.getElem?_append_left (by show i < a.heap.size; omega)]
    rfl⟩
theorem Gr.cell {a b : World} (h : Gr a b) {p : Addr} {v : Value} (hc : a.cell? p = some v) : b.cell? p = some v := (h.below.cell (p := p) (cell_lt hc)).trans hc
theorem Gr.tab {a b : World} (h : Gr a b) {v : Value} {l : List Sp} (hc : Tab a v l) : Tab b v l := hc.below h.below
theorem Gr.size {a b : World} (h : Gr a b) : a.heap.size ≤ b.heap.size := h.below.size
/-- A cell in every world that has grown. -/
theorem cell_gr {w : World} {a : Addr} {v : Value} (h : w.cell? a = some v) (n : Nat) (os : Array Obj) : (grow (w.drewN n) os).cell? a = some v := cell_grown (cell_lt h) h n os
theorem callsGr {f : FuncId} {args : Array Value} {w : World} {n : Nat} {os : Array Obj} {v : Value} {P : Program}
    (h : Calls P f args (grow (w.drewN n) os) fun e w' => e = .returned v ∧ Gr (grow (w.drewN n) os) w') : Calls P f args (grow (w.drewN n) os) fun e w'' => e = .returned v ∧ ∃ p : GrownBy, w'' = grow (w.drewN p.n) p.os :=
  Calls.grown_of h

/-- The three cells of a new box. -/
theorem box3 (w : World) (a b c : Value) (T : TypeId) : (w.alloc (.cells #[a, b, c] T)).cell? ⟨w.heap.size, 0, none⟩ = some a ∧ (w.alloc (.cells #[a, b, c] T)).cell? ⟨w.heap.size, 1, none⟩ = some b ∧ (w.alloc (.cells #[a, b, c] T)).cell? ⟨w.heap.size, 2, none⟩ = some c := by
  refine ⟨?_, ?_, ?_⟩ <;> rw [World.cell?_alloc_mark] <;> rfl
theorem box1 (w : World) (a : Value) (T : TypeId) : (w.alloc (.cells #[a] T)).cell? ⟨w.heap.size, 0, none⟩ = some a := by
  rw [World.cell?_alloc_mark]; rfl
end Go.Proofs.YtefobkgifigclaaGreatDoor
/- What is the call's own, and what only grows: plain facts on worlds. -/
namespace Go.Proofs.YtefobkgifigclaaGreatDoor
set_option maxRecDepth 100000
open Go.RowKit

theorem Gr.grown {a b : World} (h : Gr a b) (row : Option Nat) : a.grownBy b row := ⟨h.below.os, h.below.tape, h.below.output, h.size, fun i hi _ => h.below.block i hi⟩
theorem below_own {w w' : World} {B : Nat} {row : Option Nat} (h : w.grownBy w' row) (hB : B ≤ w.heap.size) (hr : ∀ g, row = some g → B ≤ g) : Below B w w' :=
  (Below.refl _ _).grown h hB hr
theorem own_block {w : World} {B e size n : Nat} {v : Value} {xs : List Value} (h : w.ownsRow B e size v n xs) : ∀ g, v.ownBlock = some g → B ≤ g := fun g hg => (h.lt g hg).1
theorem own_below {B e size n : Nat} {v : Value} {xs : List Value} {w w2 : World} (h : w.ownsRow B e size v n xs) (hb : Below w.heap.size w w2) : w2.ownsRow B e size v n xs :=
  h.kept (row := none) ⟨hb.os, hb.tape, hb.output, hb.size, fun k hk _ => hb.block k hk⟩ (by cases hv : v.ownBlock <;> simp)
theorem heap_new (w : World) (o : Obj) : (w.alloc o).heap[w.heap.size]? = some o := by
  show (w.heap.push o)[w.heap.size]? = some o
  simp
theorem add_zero3 (g j : Nat) : (⟨g, 0, none⟩ : Addr).add j = ⟨g, j, none⟩ := by unfold Addr.add; split <;> simp_all
end Go.Proofs.YtefobkgifigclaaGreatDoor
/- Rows of runes: handed in, or of the call's own; plain facts on worlds. -/
namespace Go.Proofs.YtefobkgifigclaaGreatDoor
set_option maxRecDepth 100000
open Go.RowKit
open Go.Sort (grow)


/-- A slice that holds the runes l. -/
def Row (w : World) (v : Value) (l : List Int) : Prop :=
  ∃ a cap, v = .slice a l.length cap ∧ (0 < l.length → ∃ b off, a = some ⟨b, off, none⟩ ∧ ∀ j, j < l.length → w.cell? ⟨b, off + j, none⟩ = some (.int .i32 (l.getD j 0)))
theorem Row.below {w w2 : World} {v : Value} {l : List Int} (h : Row w v l) (hb : Below w.heap.size w w2) : Row w2 v l := by
  obtain ⟨a, cap, rfl, hc⟩ := h
  refine ⟨a, cap, rfl, fun hi => ?_⟩
  obtain ⟨b, off, rfl, hcc⟩ := hc hi
  exact ⟨b, off, rfl, fun j hj => (hb.cell (p := ⟨b, off + j, none⟩) (cell_lt (hcc j hj))).trans (hcc j hj)⟩
theorem Row.nil (w : World) (a : Option Addr) (c : Nat) : Row w (.slice a 0 c) [] := ⟨a, c, rfl, fun h => absurd h (Nat.lt_irrefl _)⟩
/-- A row of runes of the call's own. -/
def Rn (B : Nat) (v : Value) (l : List Int) (w : World) : Prop := w.ownsRow B 21 1 v l.length (l.map (Value.int .i32))
theorem Rn.nil (B : Nat) (w : World) : Rn B (.slice none 0 0) [] w := ⟨rfl, .inl ⟨rfl, rfl⟩⟩
theorem Rn.row {w : World} {B : Nat} {v : Value} {l : List Int} (h : Rn B v l w) : Row w v l := by
  rcases h.2 with ⟨hv, h0⟩ | ⟨g, cap, cur, hv, _⟩
  · exact ⟨none, 0, by rw [hv, h0], fun hi => by omega⟩
  · refine ⟨some ⟨g, 0, none⟩, cap, hv, fun hi => ⟨g, 0, rfl, fun j hj => ?_⟩⟩
    have := World.ownsRow.cells h (g := g) (by rw [hv]; rfl) j (.int .i32 (l.getD j 0)) (by simp [List.getD, hj])
    rw [add_zero3 g j] at this
    rw [Nat.zero_add]
    exact this
theorem Rn.shape {w : World} {B : Nat} {v : Value} {l : List Int} (h : Rn B v l w) : ∃ a c, v = .slice a l.length c := by
  rcases h.2 with ⟨hv, h0⟩ | ⟨g, cap, cur, hv, _⟩
  · exact ⟨none, 0, by rw [hv, h0]⟩
  · exact ⟨_, cap, hv⟩
theorem Rn.held {w : World} {B : Nat} {v : Value} {l : List Int} (h : Rn B v l w) (hl : 0 < l.length) : ∃ g c, v = .slice (some ⟨g, 0, none⟩) l.length c ∧ B ≤ g ∧ g < w.heap.size := by
  rcases h.2 with ⟨hv, h0⟩ | ⟨g, cap, cur, hv, hB, hg, _⟩
  · omega
  · exact ⟨g, cap, hv, hB, (Array.getElem?_eq_some_iff.1 hg).1⟩
theorem Rn.below {w w2 : World} {B : Nat} {v : Value} {l : List Int} (h : Rn B v l w) (hb : Below w.heap.size w w2) : Rn B v l w2 := own_below h hb
theorem Rn.base {w : World} {B C : Nat} {v : Value} {l : List Int} (h : Rn B v l w) (hc : C ≤ B) : Rn C v l w := by
  refine ⟨h.1, ?_⟩
  rcases h.2 with h' | ⟨g, cap, cur, hv, hB, rest⟩
  · exact .inl h'
  · exact .inr ⟨g, cap, cur, hv, Nat.le_trans hc hB, rest⟩
theorem elem_info : (Tryz.prog.info? 21).map (fun i => (i.zero, i.size, i.bytes)) = some (some (.int .i32 0), 1, 4) := by kernel_rfl
/-- A new block of runes. -/
theorem Rn.new (w : World) (B : Nat) (zs : List Int) (cs : Array Value) (hcs : cs.toList = zs.map (Value.int .i32)) (hB : B ≤ w.heap.size) (hm : zs.length ≤ 1000) : Rn B (.slice (.some ⟨w.heap.size, 0, none⟩) zs.length zs.length) zs (w.alloc (.cells cs 21)) := by
  refine ⟨by simp, .inr ⟨w.heap.size, zs.length, cs, rfl, hB, heap_new _ _, Nat.le_refl _, by unfold maxLen; omega, ?_, ?_⟩⟩
  · rw [← Array.length_toList, hcs]; simp
  · rw [hcs]; exact List.take_of_length_le (by simp)
theorem row_new (w : World) (zs : List Int) (cs : Array Value) (T : TypeId) (hcs : cs.toList = zs.map (Value.int .i32)) : Row (w.alloc (.cells cs T)) (.slice (some ⟨w.heap.size, 0, none⟩) zs.length zs.length) zs := by
  refine ⟨_, _, rfl, fun _ => ⟨w.heap.size, 0, rfl, fun j hj => ?_⟩⟩
  rw [World.cell?_alloc_mark, Nat.zero_add]
  have : cs.toList[j]? = some (.int .i32 (zs.getD j 0)) := by rw [hcs]; simp [List.getD, hj]
  simpa using this
theorem Rn.new1 (w : World) (x : Int) : Rn w.heap.size (.slice (.some ⟨w.heap.size, 0, none⟩) 1 1) [x] (w.alloc (.cells #[.int .i32 x] 21)) := Rn.new w _ [x] _ rfl (Nat.le_refl _) (by simp)
theorem Rn.new2 (w : World) (x y : Int) : Rn w.heap.size (.slice (.some ⟨w.heap.size, 0, none⟩) 2 2) [x, y] (w.alloc (.cells #[.int .i32 x, .int .i32 y] 21)) := Rn.new w _ [x, y] _ rfl (Nat.le_refl _) (by simp)
theorem Rn.new3 (w : World) (x y z : Int) : Rn w.heap.size (.slice (.some ⟨w.heap.size, 0, none⟩) 3 3) [x, y, z] (w.alloc (.cells #[.int .i32 x, .int .i32 y, .int .i32 z] 21)) := Rn.new w _ [x, y, z] _ rfl (Nat.le_refl _) (by simp)
theorem Below.one (w : World) (o : Obj) : Below w.heap.size w (w.alloc o) := (Gr.one w o).below
theorem take_snoc (l : List Int) (k : Nat) (h : k < l.length) : l.take (k + 1) = l.take k ++ [l.getD k 0] := by
  rw [List.take_succ_eq_append_getElem h]; simp [List.getD, h]
theorem Rn.push {w1 : World} {B g1 cap1 N : Nat} {es : List Int} {z : Int} (hN : N = es.length) (h : w1.ownsRow B 21 1 (.slice (.some ⟨g1, 0, none⟩) (N + 1) cap1) (N + 1) (es.map (Value.int .i32) ++ [.int .i32 z])) : Rn B (.slice (.some ⟨g1, 0, none⟩) (N + 1) cap1) (es ++ [z]) w1 := by
  unfold Rn
  subst hN
  simpa using h
theorem Rn.last {w : World} {B g N cap : Nat} {t : List Int} {y : Int} (h : Rn B (.slice (.some ⟨g, 0, none⟩) N cap) (t ++ [y]) w) : w.cell? ⟨g, t.length, none⟩ = some (.int .i32 y) := by
  have := World.ownsRow.cells h (g := g) rfl t.length (.int .i32 y) (by simp)
  rwa [add_zero3] at this
theorem Rn.free {w : World} {B g N cap : Nat} {l : List Int} (h : Rn B (.slice (.some ⟨g, 0, none⟩) N cap) l w) (hN : N = l.length) (m : Nat) : w.frozen? ⟨g, m, none⟩ = false := by
  subst hN
  exact World.ownsRow.frozenAt h m
theorem Rn.own {w : World} {B N : Nat} {v : Value} {l : List Int} (hN : N = l.length) (h : Rn B v l w) : w.ownsRow B 21 1 v N (l.map (Value.int .i32)) := by
  subst hN
  exact h
theorem Rn.put {w : World} {B g N cap m : Nat} {t : List Int} {y z : Int} (hN : N = t.length + 1) (hm : m = t.length) (h : Rn B (.slice (.some ⟨g, 0, none⟩) N cap) (t ++ [y]) w) :
    Rn B (.slice (.some ⟨g, 0, none⟩) N cap) (t ++ [z]) (w.setCell ⟨g, m, none⟩ (.int .i32 z)) ∧ w.grownBy (w.setCell ⟨g, m, none⟩ (.int .i32 z)) (.some g) := by
  subst hN hm
  have h2 : w.ownsRow B 21 1 (.slice (.some ⟨g, 0, none⟩) (t.length + 1) cap) (t.length + 1) ((t ++ [y]).map (Value.int .i32)) := by simpa [Rn] using h
  obtain ⟨h3, h4⟩ := h2.stored t.length (.int .i32 z)
  refine ⟨?_, h4⟩
  have e : ((t ++ [y]).map (Value.int .i32)).set t.length (.int .i32 z) = (t ++ [z]).map (Value.int .i32) := by
    rw [List.map_append, List.set_append_right _ _ (by simp)]
    simp
  rw [e] at h3
  unfold Rn
  simpa using h3
theorem own_nil (w : World) (B : Nat) (hB : B ≤ w.heap.size) : (w.alloc (.cells #[] 21)).ownsRow B 21 1 (.slice (some ⟨w.heap.size, 0, none⟩) 0 0) 0 [] :=
  ⟨rfl, .inr ⟨w.heap.size, 0, #[], rfl, hB, heap_new w _, Nat.le_refl _, Nat.zero_le _, rfl, rfl⟩⟩
theorem Rn.news {w : World} {B g N cap : Nat} {t u : List Int} (h : Rn B (.slice (.some ⟨g, 0, none⟩) N cap) (t ++ u) w) : ∀ j v, (t.map (Value.int .i32))[j]? = .some v → w.cell? ((⟨g, 0, none⟩ : Addr).add j) = .some v := fun j v hv => by
  refine World.ownsRow.cells h (g := g) rfl j v ?_
  rw [List.map_append, List.getElem?_append_left (List.getElem?_eq_some_iff.1 hv).1]
  exact hv
theorem ints_one (t : List Int) : ∀ u ∈ t.map (Value.int .i32), u.oneCell' = true := by
  intro u hu
  obtain ⟨x, _, rfl⟩ := List.mem_map.1 hu
  rfl
theorem Rn.all {w : World} {B g N cap : Nat} {t : List Int} (h : Rn B (.slice (.some ⟨g, 0, none⟩) N cap) t w) : ∀ j v, (t.map (Value.int .i32))[j]? = .some v → w.cell? ((⟨g, 0, none⟩ : Addr).add j) = .some v := fun j v hv => World.ownsRow.cells h (g := g) rfl j v hv
theorem Rn.kept {w w' : World} {B : Nat} {row : Option Nat} {v : Value} {l : List Int} (h : Rn B v l w) (hg : w.grownBy w' row) (hne : v.ownBlock ≠ row) : Rn B v l w' := World.ownsRow.kept h hg (.inr hne)
/-- What a later call made lies apart from what lay. -/
theorem apart_blocks {w : World} {B g n c : Nat} {v : Value} {l : List Int} (h : Rn B v l w) (hg : g < B) : v.ownBlock ≠ (Value.slice (some ⟨g, 0, none⟩) n c).ownBlock := by
  rcases h.2 with ⟨hv, _⟩ | ⟨g', cap, cur, hv, hB, _⟩
  · rw [hv]; simp [Value.ownBlock]
  · rw [hv]; simp [Value.ownBlock]; omega
theorem wrap_in {x : Int} (h1 : -2147483648 ≤ x) (h2 : x ≤ 2147483647) : IntKind.i32.wrap x = x := by
  simp [IntKind.wrap, IntKind.bits, IntKind.signed]; omega
end Go.Proofs.YtefobkgifigclaaGreatDoor
/- Runs, and what is put in order: plainly, for any classes c out of a rising list K. -/
namespace Go.Proofs.YtefobkgifigclaaGreatDoor
set_option maxRecDepth 100000

/-- Those of class k, as they stand. -/
def ofK (c : Int → Int) (k : Int) (r : List Int) : List Int := r.filter fun x => decide (c x = k)
/-- Some characters, class by class. -/
def srt (c : Int → Int) (K r : List Int) : List Int := K.flatMap fun k => ofK c k r
/-- One more: what was done, and the run that is made. -/
def rstep (c : Int → Int) (s : List (List Int) × List Int) (x : Int) : List (List Int) × List Int :=
  if c x = 0 ∧ s.2 ≠ [] then (s.1 ++ [s.2], [x]) else (s.1, s.2 ++ [x])
def rfold (c : Int → Int) (l : List Int) : List (List Int) × List Int := l.foldl (rstep c) ([], [])
def rfin (s : List (List Int) × List Int) : List (List Int) := if s.2 ≠ [] then s.1 ++ [s.2] else s.1
def runsL (c : Int → Int) (l : List Int) : List (List Int) := rfin (rfold c l)
def ordL (c : Int → Int) (K l : List Int) : List Int := (runsL c l).flatMap (srt c K)
/-- May b stand just behind a? -/
def nxt (c : Int → Int) (a b : Int) : Bool := decide (c b = 0 ∨ c a ≤ c b)
def ordered (c : Int → Int) : List Int → Bool
  | a :: b :: t => nxt c a b && ordered c (b :: t)
  | _ => true

section
variable {c : Int → Int} {K : List Int}

theorem rfold_snoc (l : List Int) (x : Int) : rfold c (l ++ [x]) = rstep c (rfold c l) x := by simp [rfold]
/-- A list of runs: none is empty, only the first of a run may have no class, and of all but the first run it has none. -/
def Runny (c : Int → Int) (rs : List (List Int)) : Prop :=
  (∀ r, r ∈ rs → r ≠ [] ∧ ∀ x, x ∈ r.tail → c x ≠ 0) ∧ ∀ r, r ∈ rs.tail → ∃ y t, r = y :: t ∧ c y = 0
theorem runny_append {a b : List (List Int)} (ha : Runny c a) (hb : ∀ r, r ∈ b → (r ≠ [] ∧ ∀ x, x ∈ r.tail → c x ≠ 0) ∧ ∃ y t, r = y :: t ∧ c y = 0) : Runny c (a ++ b) := by
  refine ⟨fun r hr => ?_, fun r hr => ?_⟩
  · rcases List.mem_append.1 hr with h | h
    · exact ha.1 r h
    · exact (hb r h).1
  · cases a with
    | nil => exact (hb r (List.mem_of_mem_tail (by simpa using hr))).2
    | cons x a =>
      simp only [List.cons_append, List.tail_cons, List.mem_append] at hr
      rcases hr with h | h
      · exact ha.2 r (by simpa using h)
      · exact (hb r h).2
theorem rfold_inv (l : List Int) : (rfold c l).1.flatten ++ (rfold c l).2 = l ∧ Runny c (rfin (rfold c l)) ∧ ((rfold c l).1 ≠ [] → (rfold c l).2 ≠ []) ∧ ((rfold c l).2 = [] → l = []) := by
  suffices h : ∀ (l : List Int), (rfold c l.reverse).1.flatten ++ (rfold c l.reverse).2 = l.reverse ∧ Runny c (rfin (rfold c l.reverse)) ∧ ((rfold c l.reverse).1 ≠ [] → (rfold c l.reverse).2 ≠ []) ∧ ((rfold c l.reverse).2 = [] → l.reverse = []) by
    have := h l.reverse
    rwa [List.reverse_reverse] at this
  intro l
  induction l with
  | nil => exact ⟨rfl, ⟨fun r hr => by simp [rfold, rfin] at hr, fun r hr => by simp [rfold, rfin] at hr⟩, fun h => absurd rfl h, fun _ => rfl⟩
  | cons x l ih =>
    rw [List.reverse_cons, rfold_snoc]
    generalize rfold c l.reverse = s at ih ⊢
    obtain ⟨out, now⟩ := s
    obtain ⟨i1, i2, i3, i4⟩ := ih
    simp only at i1 i3 i4
    unfold rstep
    by_cases hx : c x = 0 ∧ now ≠ []
    · rw [if_pos hx]
      have e : rfin (out, now) = out ++ [now] := by unfold rfin; rw [if_pos hx.2]
      rw [e] at i2
      refine ⟨?_, ?_, fun _ => by simp, fun h => by simp at h⟩
      · simp only [List.flatten_append, List.flatten_cons, List.flatten_nil, List.append_nil]
        rw [i1]
      · have e2 : rfin (out ++ [now], [x]) = (out ++ [now]) ++ [[x]] := by unfold rfin; rw [if_pos (by simp)]
        rw [e2]
        refine runny_append i2 fun r hr => ?_
        simp only [List.mem_cons, List.not_mem_nil, or_false] at hr
        subst hr
        exact ⟨⟨by simp, fun y hy => by simp at hy⟩, x, [], rfl, hx.1⟩
    · rw [if_neg hx]
      refine ⟨?_, ?_, fun _ => by simp, fun h => by simp at h⟩
      · simp only
        rw [← List.append_assoc, i1]
      · have e2 : rfin (out, now ++ [x]) = out ++ [now ++ [x]] := by unfold rfin; rw [if_pos (by simp)]
        rw [e2]
        by_cases hn : now = []
        · subst hn
          have ho : out = [] := by
            cases out with
            | nil => rfl
            | cons a b => exact absurd rfl (i3 (by simp))
          subst ho
          refine ⟨fun r hr => ?_, fun r hr => by simp at hr⟩
          simp at hr
          subst hr
          exact ⟨by simp, fun y hy => by simp at hy⟩
        · have hcx : c x ≠ 0 := fun h => hx ⟨h, hn⟩
          have e : rfin (out, now) = out ++ [now] := by unfold rfin; rw [if_pos hn]
          rw [e] at i2
          obtain ⟨y, t, rfl⟩ := List.exists_cons_of_ne_nil hn
          refine ⟨fun r hr => ?_, fun r hr => ?_⟩
          · rcases List.mem_append.1 hr with h | h
            · exact i2.1 r (by simp [h])
            · simp only [List.mem_cons, List.not_mem_nil, or_false] at h
              subst h
              have := (i2.1 (y :: t) (by simp)).2
              refine ⟨by simp, fun z hz => ?_⟩
              simp only [List.cons_append, List.tail_cons, List.mem_append, List.mem_cons, List.not_mem_nil, or_false] at hz
              rcases hz with h | h
              · exact this z (by simpa using h)
              · rw [h]; exact hcx
          · cases out with
            | nil => simp at hr
            | cons a b =>
              simp only [List.cons_append, List.tail_cons, List.mem_append, List.mem_cons, List.not_mem_nil, or_false] at hr
              rcases hr with h | h
              · exact i2.2 r (by simp [h])
              · subst h
                obtain ⟨y', t', e', hc⟩ := i2.2 (y :: t) (by simp)
                cases e'
                exact ⟨y, t ++ [x], rfl, hc⟩
theorem runs_flat (l : List Int) : (runsL c l).flatten = l := by
  obtain ⟨h1, _, _, _⟩ := rfold_inv (c := c) l
  unfold runsL rfin
  by_cases h : (rfold c l).2 ≠ []
  · rw [if_pos h]; simpa using h1
  · rw [if_neg h]
    have h' : (rfold c l).2 = [] := Classical.not_not.1 h
    rw [h'] at h1
    simpa using h1
theorem runs_runny (l : List Int) : Runny c (runsL c l) := (rfold_inv l).2.1
/-- A run of its own is one. -/
theorem rfold_run (r : List Int) (hr : r ≠ []) (ht : ∀ x, x ∈ r.tail → c x ≠ 0) : rfold c r = ([], r) := by
  obtain ⟨y, t, rfl⟩ := List.exists_cons_of_ne_nil hr
  have h0 : rstep c ([], []) y = ([], [y]) := by unfold rstep; rw [if_neg (fun h => h.2 rfl)]; rfl
  have : ∀ (t u : List Int), u ≠ [] → (∀ x, x ∈ t → c x ≠ 0) → t.foldl (rstep c) ([], u) = ([], u ++ t) := by
    intro t
    induction t with
    | nil => intro u _ _; simp
    | cons x t ih =>
      intro u hu h
      rw [List.foldl_cons]
      have e : rstep c ([], u) x = ([], u ++ [x]) := by unfold rstep; rw [if_neg (fun h2 => h x (by simp) h2.1)]
      rw [e, ih (u ++ [x]) (by simp) fun z hz => h z (by simp [hz])]
      simp
  unfold rfold
  rw [List.foldl_cons, h0, this t [y] (by simp) (by simpa using ht)]
  rfl
theorem runs_run (r : List Int) (hr : r ≠ []) (ht : ∀ x, x ∈ r.tail → c x ≠ 0) : runsL c r = [r] := by
  unfold runsL rfin
  rw [rfold_run r hr ht, if_pos hr]
  rfl
theorem ord_run (r : List Int) (hr : r ≠ []) (ht : ∀ x, x ∈ r.tail → c x ≠ 0) : ordL c K r = srt c K r := by
  unfold ordL
  rw [runs_run r hr ht]
  simp
/-- What is put in order is its runs, put in order. -/
theorem ord_parts (l : List Int) : (runsL c l).flatMap (ordL c K) = ordL c K l := by
  have hR := (runs_runny (c := c) l).1
  unfold ordL at *
  generalize runsL c l = rs at hR
  induction rs with
  | nil => rfl
  | cons r rs ih =>
    rw [List.flatMap_cons, List.flatMap_cons, ih fun q hq => hR q (by simp [hq])]
    have := ord_run (K := K) r (hR r (by simp)).1 (hR r (by simp)).2
    unfold ordL at this
    rw [this]

theorem ofK_append (k : Int) (a b : List Int) : ofK c k (a ++ b) = ofK c k a ++ ofK c k b := by simp [ofK]
theorem ofK_mem {k x : Int} {r : List Int} (h : x ∈ ofK c k r) : x ∈ r ∧ c x = k := by simpa [ofK] using h
theorem ofK_ofK_same (k : Int) (r : List Int) : ofK c k (ofK c k r) = ofK c k r := by simp [ofK, List.filter_filter]
theorem ofK_ofK_other {k j : Int} (h : j ≠ k) (r : List Int) : ofK c k (ofK c j r) = [] := by
  rw [ofK, List.filter_eq_nil_iff]
  intro x hx
  have := (ofK_mem hx).2
  simp only [decide_eq_true_eq]
  omega
theorem ofK_none {k : Int} {r : List Int} (h : ∀ x, x ∈ r → c x ≠ k) : ofK c k r = [] := by
  rw [ofK, List.filter_eq_nil_iff]
  intro x hx
  simpa using h x hx
theorem srt_mem {x : Int} {r : List Int} (h : x ∈ srt c K r) : x ∈ r := by
  obtain ⟨k, _, h⟩ := List.mem_flatMap.1 h
  exact (ofK_mem h).1
/-- Those of one class stay as they stood. -/
theorem ofK_srt (hp : K.Pairwise (· < ·)) (k : Int) (r : List Int) (hk : ∀ x, x ∈ r → c x ∈ K) : ofK c k (srt c K r) = ofK c k r := by
  have : ∀ (K : List Int), K.Pairwise (· < ·) → ofK c k (K.flatMap fun j => ofK c j r) = if k ∈ K then ofK c k r else [] := by
    intro K
    induction K with
    | nil => intro _; simp [ofK]
    | cons j K ih =>
      intro hp
      rw [List.flatMap_cons, ofK_append, ih hp.of_cons]
      by_cases hj : j = k
      · subst hj
        have hn : j ∉ K := fun h => by have := (List.pairwise_cons.1 hp).1 j h; omega
        rw [if_neg hn, ofK_ofK_same, if_pos (by simp)]
        simp
      · rw [ofK_ofK_other hj]
        by_cases hm : k ∈ K
        · rw [if_pos hm, if_pos (by simp [hm])]; rfl
        · rw [if_neg hm, if_neg (by simp; exact ⟨fun h => hj h.symm, hm⟩)]; rfl
  unfold srt
  rw [this K hp]
  by_cases hm : k ∈ K
  · rw [if_pos hm]
  · rw [if_neg hm]
    exact (ofK_none fun x hx h => hm (by rw [← h]; exact hk x hx)).symm
theorem ofK_ord (hp : K.Pairwise (· < ·)) (hK : ∀ x, c x ∈ K) (k : Int) (l : List Int) : ofK c k (ordL c K l) = ofK c k l := by
  have : ∀ rs : List (List Int), ofK c k (rs.flatMap (srt c K)) = ofK c k rs.flatten := by
    intro rs
    induction rs with
    | nil => rfl
    | cons r rs ih => rw [List.flatMap_cons, List.flatten_cons, ofK_append, ofK_append, ih, ofK_srt hp k r fun x _ => hK x]
  unfold ordL
  rw [this, runs_flat]
theorem srt_sorted (hp : K.Pairwise (· < ·)) (r : List Int) : (srt c K r).Pairwise fun a b => c a ≤ c b := by
  unfold srt
  induction K with
  | nil => simp
  | cons k K ih =>
    rw [List.flatMap_cons, List.pairwise_append]
    refine ⟨?_, ih hp.of_cons, fun a ha b hb => ?_⟩
    · refine List.Pairwise.imp_of_mem (R := fun _ _ => True) (fun ha hb _ => ?_) (List.pairwise_of_forall (fun _ _ => trivial))
      rw [(ofK_mem ha).2, (ofK_mem hb).2]
      exact Int.le_refl _
    · obtain ⟨j, hj, hb⟩ := List.mem_flatMap.1 hb
      rw [(ofK_mem ha).2, (ofK_mem hb).2]
      exact Int.le_of_lt ((List.pairwise_cons.1 hp).1 j hj)
theorem split_min (k : Int) (r : List Int) (hs : r.Pairwise fun a b => c a ≤ c b) (hk : ∀ x, x ∈ r → k ≤ c x) : r = ofK c k r ++ r.filter fun x => decide (c x ≠ k) := by
  induction r with
  | nil => rfl
  | cons x r ih =>
    have ih' := ih hs.of_cons fun y hy => hk y (by simp [hy])
    by_cases hx : c x = k
    · have e1 : ofK c k (x :: r) = x :: ofK c k r := by simp [ofK, hx]
      have e2 : (x :: r).filter (fun x => decide (c x ≠ k)) = r.filter fun x => decide (c x ≠ k) := by simp [hx]
      rw [e1, e2, List.cons_append, ← ih']
    · have hlt : ∀ y, y ∈ r → c y ≠ k := fun y hy => by
        have h1 := (List.pairwise_cons.1 hs).1 y hy
        have h2 := hk x (by simp)
        omega
      have e1 : ofK c k (x :: r) = [] := ofK_none fun y hy => by
        rcases List.mem_cons.1 hy with rfl | hy
        · exact hx
        · exact hlt y hy
      have e2 : (x :: r).filter (fun x => decide (c x ≠ k)) = x :: r := by
        rw [List.filter_eq_self]
        intro y hy
        rcases List.mem_cons.1 hy with rfl | hy
        · simpa using hx
        · simpa using hlt y hy
      rw [e1, e2]; rfl
/-- What is sorted stays as it is. -/
theorem srt_self : ∀ (K : List Int), K.Pairwise (· < ·) → ∀ (r : List Int), (r.Pairwise fun a b => c a ≤ c b) → (∀ x, x ∈ r → c x ∈ K) → srt c K r = r
  | [], _, r, _, h => by
    cases r with
    | nil => rfl
    | cons x r => have := h x (by simp); simp at this
  | k :: K, hp, r, hs, h => by
    have hk : ∀ x, x ∈ r → k ≤ c x := fun x hx => by
      rcases List.mem_cons.1 (h x hx) with e | e
      · omega
      · exact Int.le_of_lt ((List.pairwise_cons.1 hp).1 _ e)
    have h1 := split_min k r hs hk
    have h2 := srt_self K hp.of_cons (r.filter fun x => decide (c x ≠ k)) (hs.filter _) fun x hx => by
      simp only [List.mem_filter, decide_eq_true_eq] at hx
      rcases List.mem_cons.1 (h x hx.1) with e | e
      · exact absurd e hx.2
      · exact e
    have h3 : ∀ j, j ∈ K → ofK c j (r.filter fun x => decide (c x ≠ k)) = ofK c j r := fun j hj => by
      have := (List.pairwise_cons.1 hp).1 j hj
      unfold ofK
      rw [List.filter_filter]
      congr 1
      funext x
      by_cases hx : c x = j
      · simp [hx]; omega
      · simp [hx]
    have h4 : srt c K (r.filter fun x => decide (c x ≠ k)) = srt c K r := by
      have : ∀ (M : List Int), (∀ j, j ∈ M → j ∈ K) → (M.flatMap fun j => ofK c j (r.filter fun x => decide (c x ≠ k))) = M.flatMap fun j => ofK c j r := by
        intro M
        induction M with
        | nil => intro _; rfl
        | cons j M ih => intro hM; rw [List.flatMap_cons, List.flatMap_cons, h3 j (hM j (by simp)), ih fun i hi => hM i (by simp [hi])]
      exact this K fun _ h => h
    rw [h4] at h2
    unfold srt at h2 ⊢
    rw [List.flatMap_cons, h2]
    exact h1.symm

theorem ordered_cons {a b : Int} {t : List Int} : ordered c (a :: b :: t) = true ↔ nxt c a b = true ∧ ordered c (b :: t) = true := by simp [ordered]
theorem ordered_tail {a : Int} {t : List Int} (h : ordered c (a :: t) = true) : ordered c t = true := by
  cases t with
  | nil => rfl
  | cons b t => exact (ordered_cons.1 h).2
theorem ordered_of_sorted : ∀ (l : List Int), (l.Pairwise fun a b => c a ≤ c b) → ordered c l = true
  | [], _ => rfl
  | [_], _ => rfl
  | a :: b :: t, h => ordered_cons.2 ⟨by
      have := (List.pairwise_cons.1 h).1 b (by simp)
      unfold nxt; simp; omega, ordered_of_sorted (b :: t) h.of_cons⟩
theorem ordered_append : ∀ (a b : List Int), ordered c a = true → ordered c b = true → (∀ x y t, a.getLast? = some x → b = y :: t → nxt c x y = true) → ordered c (a ++ b) = true
  | [], b, _, hb, _ => hb
  | [x], b, _, hb, h => by
    cases b with
    | nil => rfl
    | cons y t => exact ordered_cons.2 ⟨h x y t rfl rfl, hb⟩
  | x :: y :: a, b, ha, hb, h => by
    obtain ⟨h1, h2⟩ := ordered_cons.1 ha
    exact ordered_cons.2 ⟨h1, ordered_append (y :: a) b h2 hb fun p q t hp hq => h p q t (by simpa using hp) hq⟩
theorem ordered_left : ∀ (a b : List Int), ordered c (a ++ b) = true → ordered c a = true
  | [], _, _ => rfl
  | [_], _, _ => rfl
  | x :: y :: a, b, h => by
    obtain ⟨h1, h2⟩ := ordered_cons.1 (show ordered c (x :: y :: (a ++ b)) = true from h)
    exact ordered_cons.2 ⟨h1, ordered_left (y :: a) b h2⟩
theorem ordered_right : ∀ (a b : List Int), ordered c (a ++ b) = true → ordered c b = true
  | [], _, h => h
  | x :: a, b, h => ordered_right a b (ordered_tail (show ordered c (x :: (a ++ b)) = true from h))
/-- The first of a run that has no class comes first. -/
theorem srt_head (hp : K.Pairwise (· < ·)) (h0 : ∃ K', K = 0 :: K') {y : Int} {t : List Int} (hy : c y = 0) : ∃ u, srt c K (y :: t) = y :: u := by
  obtain ⟨K', rfl⟩ := h0
  refine ⟨ofK c 0 t ++ K'.flatMap fun k => ofK c k (y :: t), ?_⟩
  unfold srt
  rw [List.flatMap_cons]
  have : ofK c 0 (y :: t) = y :: ofK c 0 t := by simp [ofK, hy]
  rw [this]; rfl
/-- What is put in order is ordered. -/
theorem ord_ordered (hp : K.Pairwise (· < ·)) (h0 : ∃ K', K = 0 :: K') (l : List Int) : ordered c (ordL c K l) = true := by
  have hR := runs_runny (c := c) l
  unfold ordL
  generalize runsL c l = rs at hR
  have : ∀ rs : List (List Int), (∀ r, r ∈ rs.tail → ∃ y t, r = y :: t ∧ c y = 0) → ordered c (rs.flatMap (srt c K)) = true := by
    intro rs
    induction rs with
    | nil => intro _; rfl
    | cons r rs ih =>
      intro h
      rw [List.flatMap_cons]
      refine ordered_append _ _ (ordered_of_sorted _ (srt_sorted hp r)) (ih fun q hq => h q (by simpa using List.mem_of_mem_tail hq)) fun x y t _ he => ?_
      cases rs with
      | nil => simp at he
      | cons q rs =>
        obtain ⟨z, s, rfl, hz⟩ := h q (by simp)
        obtain ⟨u, hu⟩ := srt_head (t := s) hp h0 hz
        rw [List.flatMap_cons, hu] at he
        cases he
        unfold nxt; simp [hz]
  exact this rs hR.2
theorem run_sorted (r : List Int) (ht : ∀ x, x ∈ r.tail → c x ≠ 0) (ho : ordered c r = true) (hn : ∀ x, x ∈ r → 0 ≤ c x) : r.Pairwise fun a b => c a ≤ c b := by
  induction r with
  | nil => exact List.Pairwise.nil
  | cons x r ih =>
    have ho2 := ordered_tail ho
    have ht2 : ∀ y, y ∈ r.tail → c y ≠ 0 := fun y hy => ht y (by simpa using List.mem_of_mem_tail hy)
    have ih' := ih ht2 ho2 fun y hy => hn y (by simp [hy])
    refine List.pairwise_cons.2 ⟨fun y hy => ?_, ih'⟩
    cases r with
    | nil => simp at hy
    | cons z r =>
      have h1 := (ordered_cons.1 ho).1
      have h2 : c z ≠ 0 := ht z (by simp)
      have h3 : c x ≤ c z := by unfold nxt at h1; simp at h1; omega
      rcases List.mem_cons.1 hy with rfl | hy
      · exact h3
      · exact Int.le_trans h3 ((List.pairwise_cons.1 ih').1 y hy)
/-- What is ordered stays as it is. -/
theorem ord_self (hp : K.Pairwise (· < ·)) (hK : ∀ x, c x ∈ K) (hn : ∀ x, 0 ≤ c x) (l : List Int) (ho : ordered c l = true) : ordL c K l = l := by
  have hR := (runs_runny (c := c) l).1
  have hf := runs_flat (c := c) l
  unfold ordL
  generalize runsL c l = rs at hR hf
  rw [← hf] at ho ⊢
  clear hf
  induction rs with
  | nil => rfl
  | cons r rs ih =>
    rw [List.flatMap_cons, List.flatten_cons] at *
    rw [srt_self K hp r (run_sorted r (hR r (by simp)).2 (ordered_left _ _ ho) fun x _ => hn x) fun x _ => hK x, ih (ordered_right _ _ ho) (fun q hq => hR q (by simp [hq]))]
theorem ord_again (hp : K.Pairwise (· < ·)) (h0 : ∃ K', K = 0 :: K') (hK : ∀ x, c x ∈ K) (hn : ∀ x, 0 ≤ c x) (l : List Int) : ordL c K (ordL c K l) = ordL c K l := ord_self hp hK hn _ (ord_ordered hp h0 l)
theorem ord_iff (hp : K.Pairwise (· < ·)) (h0 : ∃ K', K = 0 :: K') (hK : ∀ x, c x ∈ K) (hn : ∀ x, 0 ≤ c x) (l : List Int) : ordered c l = decide (ordL c K l = l) := by
  by_cases h : ordL c K l = l
  · rw [decide_eq_true h, ← h]; exact ord_ordered hp h0 l
  · rw [decide_eq_false h]
    cases ho : ordered c l
    · rfl
    · exact absurd (ord_self hp hK hn l ho) h
/-- As many as they were. -/
theorem srt_len (hp : K.Pairwise (· < ·)) (r : List Int) (hk : ∀ x, x ∈ r → c x ∈ K) : (srt c K r).length = r.length := by
  have : ∀ (r : List Int), (∀ x, x ∈ r → c x ∈ K) → (srt c K r).length = r.length := by
    intro r
    induction r with
    | nil =>
      intro _
      have : ∀ M : List Int, (M.flatMap fun k => ofK c k []) = [] := by
        intro M
        induction M with
        | nil => rfl
        | cons k M ih => rw [List.flatMap_cons, ih]; rfl
      unfold srt
      rw [this]
    | cons x r ih =>
      intro h
      have ih' := ih fun y hy => h y (by simp [hy])
      have hx := h x (by simp)
      have key : ∀ (M : List Int), M.Pairwise (· < ·) → (M.flatMap fun k => ofK c k (x :: r)).length = (M.flatMap fun k => ofK c k r).length + if c x ∈ M then 1 else 0 := by
        intro M
        induction M with
        | nil => intro _; simp
        | cons k M ihM =>
          intro hM
          rw [List.flatMap_cons, List.flatMap_cons, List.length_append, List.length_append, ihM hM.of_cons]
          by_cases e : c x = k
          · have hn : c x ∉ M := fun h2 => by have := (List.pairwise_cons.1 hM).1 _ h2; omega
            have e1 : ofK c k (x :: r) = x :: ofK c k r := by simp [ofK, e]
            rw [e1, if_neg hn, if_pos (by simp [e])]
            simp; omega
          · have e1 : ofK c k (x :: r) = ofK c k r := by simp [ofK, e]
            rw [e1]
            by_cases h2 : c x ∈ M
            · rw [if_pos h2, if_pos (by simp [h2])]; omega
            · rw [if_neg h2, if_neg (by simp [e, h2])]
              omega
      unfold srt at ih' ⊢
      rw [key K hp, if_pos hx, ih']
      rfl
  exact this r hk
theorem ord_len (hp : K.Pairwise (· < ·)) (hK : ∀ x, c x ∈ K) (l : List Int) : (ordL c K l).length = l.length := by
  have : ∀ rs : List (List Int), (rs.flatMap (srt c K)).length = rs.flatten.length := by
    intro rs
    induction rs with
    | nil => rfl
    | cons r rs ih => rw [List.flatMap_cons, List.flatten_cons, List.length_append, List.length_append, ih, srt_len hp r fun x _ => hK x]
  unfold ordL
  rw [this, runs_flat]
/-- Nothing that has no class is moved. -/
theorem ord_stay (hp : K.Pairwise (· < ·)) (h0 : ∃ K', K = 0 :: K') (hK : ∀ x, c x ∈ K) (l : List Int) (i : Nat) (hi : i < l.length) (hc : c (l.getD i 0) = 0) : (ordL c K l).getD i 0 = l.getD i 0 := by
  have hR := (runs_runny (c := c) l).1
  have hf := runs_flat (c := c) l
  unfold ordL
  generalize runsL c l = rs at hR hf
  rw [← hf] at hi hc ⊢
  clear hf
  induction rs generalizing i with
  | nil => simp at hi
  | cons r rs ih =>
    rw [List.flatMap_cons, List.flatten_cons] at *
    have hl := srt_len hp r fun x _ => hK x
    by_cases hir : i < r.length
    · have e1 : (r ++ rs.flatten).getD i 0 = r.getD i 0 := by simp [List.getD, List.getElem?_append_left hir]
      have e2 : (srt c K r ++ rs.flatMap (srt c K)).getD i 0 = (srt c K r).getD i 0 := by simp [List.getD, List.getElem?_append_left (show i < (srt c K r).length by omega)]
      rw [e1] at hc ⊢
      rw [e2]
      obtain ⟨y, t, rfl⟩ := List.exists_cons_of_ne_nil (hR r (by simp)).1
      cases i with
      | zero =>
        obtain ⟨u, hu⟩ := srt_head (t := t) hp h0 (show c y = 0 by simpa using hc)
        rw [hu]; rfl
      | succ j =>
        have hj : j < t.length := by simpa using hir
        have : c (t.getD j 0) ≠ 0 := (hR (y :: t) (by simp)).2 _ (by simp [List.getD, hj])
        exact absurd (by simpa using hc) this
    · have e1 : (r ++ rs.flatten).getD i 0 = rs.flatten.getD (i - r.length) 0 := by simp [List.getD, List.getElem?_append_right (show r.length ≤ i by omega)]
      have e2 : (srt c K r ++ rs.flatMap (srt c K)).getD i 0 = (rs.flatMap (srt c K)).getD (i - r.length) 0 := by
        have hge : (srt c K r).length ≤ i := by omega
        simp [List.getD, List.getElem?_append_right hge, hl]
      rw [e1] at hc ⊢
      rw [e2]
      exact ih (i - r.length) hc (by simp at hi ⊢; omega) (fun q hq => hR q (by simp [hq]))
end
end Go.Proofs.YtefobkgifigclaaGreatDoor
/- Marks far apart change places till none stands wrongly, plainly: what is left is the run, class by class. -/
namespace Go.Proofs.YtefobkgifigclaaGreatDoor
set_option maxRecDepth 100000

/-- A mark: its number, its class, where it stood. -/
structure Mk where
  r : Int
  c : Int
  p : Int
def mk0 : Mk := ⟨0, 0, 0⟩
/-- Does one belong ahead of the other? -/
def Mk.ahead (a b : Mk) : Bool := if a.c ≠ b.c then decide (a.c < b.c) else decide (a.p < b.p)
def Mk.key (m : Mk) : Int := m.c * 1000 + m.p
def Mk.good (m : Mk) : Prop := 0 ≤ m.p ∧ m.p < 1000 ∧ 0 ≤ m.c ∧ m.c ≤ 230
theorem Mk.ahead_key {a b : Mk} (ha : a.good) (hb : b.good) : a.ahead b = decide (a.key < b.key) := by
  obtain ⟨a1, a2, a3, a4⟩ := ha
  obtain ⟨b1, b2, b3, b4⟩ := hb
  unfold Mk.ahead Mk.key
  split
  · rename_i h
    rw [decide_eq_decide]
    omega
  · rename_i h
    rw [decide_eq_decide]
    omega
theorem Mk.key_le {m : Mk} (h : m.good) : 0 ≤ m.key ∧ m.key ≤ 231000 := by
  obtain ⟨a1, a2, a3, a4⟩ := h
  unfold Mk.key
  omega

/-- Two change places. -/
def exch (d : List Mk) (i j : Nat) : List Mk := (d.set i (d.getD j mk0)).set j (d.getD i mk0)
theorem exch_len (d : List Mk) (i j : Nat) : (exch d i j).length = d.length := by simp [exch]
theorem exch_right (d : List Mk) (i j : Nat) (hj : j < d.length) : (exch d i j).getD j mk0 = d.getD i mk0 := by
  simp [exch, List.getD, hj]
theorem exch_left (d : List Mk) (i j : Nat) (hi : i < d.length) (h : i ≠ j) : (exch d i j).getD i mk0 = d.getD j mk0 := by
  simp only [exch, List.getD]
  rw [List.getElem?_set_ne (by omega), List.getElem?_set_self hi]
  rfl
theorem exch_other (d : List Mk) (i j k : Nat) (hi : k ≠ i) (hj : k ≠ j) : (exch d i j).getD k mk0 = d.getD k mk0 := by
  simp only [exch, List.getD]
  rw [List.getElem?_set_ne (by omega), List.getElem?_set_ne (by omega)]
theorem exch_perm (d : List Mk) (i j : Nat) (hi : i < d.length) (hj : j < d.length) : (exch d i j).Perm d := by
  classical
  rw [List.perm_iff_count]
  intro m
  have gi : d.getD i mk0 = d[i] := by simp [List.getD, hi]
  have gj : d.getD j mk0 = d[j] := by simp [List.getD, hj]
  unfold exch
  rw [gi, gj, List.count_set (by simpa using hj), List.count_set hi]
  have ci : d[i] = m → 0 < d.count m := fun h => List.count_pos_iff.2 (h ▸ List.getElem_mem hi)
  have cj : d[j] = m → 0 < d.count m := fun h => List.count_pos_iff.2 (h ▸ List.getElem_mem hj)
  rw [List.getElem_set]
  by_cases hij : i = j
  · subst hij
    rw [if_pos rfl]
    by_cases h : d[i] = m
    · have := ci h
      simp [h]
      omega
    · simp [h]
  · rw [if_neg hij]
    by_cases h1 : d[i] = m
    · have := ci h1
      by_cases h2 : d[j] = m
      · simp [h1, h2]
        omega
      · simp [h1, h2]
        omega
    · by_cases h2 : d[j] = m
      · have := cj h2
        simp [h1, h2]
      · simp [h1, h2]

/-- How far what has a great key stands behind. -/
def pot : Int → List Mk → Int
  | _, [] => 0
  | s, m :: t => s * m.key + pot (s + 1) t
theorem pot_set : ∀ (d : List Mk) (s : Int) (i : Nat) (x : Mk), i < d.length → pot s (d.set i x) = pot s d + (s + i) * (x.key - (d.getD i mk0).key)
  | [], _, _, _, h => by simp at h
  | m :: t, s, 0, x, _ => by
    simp only [List.set_cons_zero, pot]
    have : (m :: t).getD 0 mk0 = m := rfl
    rw [this, Int.mul_sub]
    simp
    omega
  | m :: t, s, i + 1, x, h => by
    have ih := pot_set t (s + 1) i x (by simpa using h)
    simp only [List.set_cons_succ, pot]
    have e : (m :: t).getD (i + 1) mk0 = t.getD i mk0 := rfl
    have e2 : s + 1 + (i : Int) = s + ((i + 1 : Nat) : Int) := by omega
    rw [ih, e, e2]
    omega
theorem pot_exch (d : List Mk) (i j : Nat) (hi : i < d.length) (h : j < i) (hk : (d.getD i mk0).key < (d.getD j mk0).key) : pot 0 d < pot 0 (exch d i j) := by
  unfold exch
  rw [pot_set _ _ _ _ (by simp; omega), pot_set _ _ _ _ hi]
  have e : (d.set i (d.getD j mk0)).getD j mk0 = d.getD j mk0 := by simp [List.getD, List.getElem?_set_ne (by omega : i ≠ j)]
  rw [e]
  generalize (d.getD i mk0).key = x at *
  generalize (d.getD j mk0).key = y at *
  have : 0 < ((i : Int) - j) * (y - x) := Int.mul_pos (by omega) (by omega)
  have e1 : ((i : Int) - j) * (y - x) = i * (y - x) + j * (x - y) := by
    rw [Int.sub_mul, Int.mul_sub, Int.mul_sub, Int.mul_sub]; omega
  rw [e1] at this
  simp only [Int.zero_add]
  omega
theorem pot_le (Kb : Int) (hK : 0 ≤ Kb) : ∀ (d : List Mk) (s : Int), 0 ≤ s → (∀ m, m ∈ d → m.key ≤ Kb) → pot s d ≤ d.length * ((s + d.length) * Kb)
  | [], _, _, _ => by simp [pot]
  | m :: t, s, hs, h => by
    have ih := pot_le Kb hK t (s + 1) (by omega) fun x hx => h x (by simp [hx])
    have h1 : s * m.key ≤ s * Kb := Int.mul_le_mul_of_nonneg_left (h m (by simp)) hs
    have e2 : s + 1 + (t.length : Int) = s + ((m :: t).length : Int) := by simp; omega
    rw [e2] at ih
    have h3 : s * Kb ≤ (s + ((m :: t).length : Int)) * Kb := Int.mul_le_mul_of_nonneg_right (by omega) hK
    simp only [pot]
    generalize (s + ((m :: t).length : Int)) * Kb = X at *
    have e4 : ((m :: t).length : Int) * X = t.length * X + X := by
      simp only [List.length_cons]
      rw [Int.natCast_add, Int.add_mul]; simp
    rw [e4]
    omega
def potMax : Int := 1000 * (1000 * 231000)
theorem pot_max (d : List Mk) (hl : d.length ≤ 1000) (hg : ∀ m, m ∈ d → m.good) : pot 0 d ≤ potMax := by
  have h := pot_le 231000 (by decide) d 0 (by omega) fun m hm => (Mk.key_le (hg m hm)).2
  rw [Int.zero_add] at h
  have h1 : (d.length : Int) * 231000 ≤ 1000 * 231000 := by omega
  have h2 : (d.length : Int) * ((d.length : Int) * 231000) ≤ d.length * (1000 * 231000) := Int.mul_le_mul_of_nonneg_left h1 (by omega)
  unfold potMax
  omega

/-- The marks of a run, as they stand. -/
def mks (c : Int → Int) : Nat → List Int → List Mk
  | _, [] => []
  | s, x :: t => ⟨x, c x, s⟩ :: mks c (s + 1) t
section
variable {c : Int → Int} {K : List Int}
theorem mks_len : ∀ (l : List Int) (s : Nat), (mks c s l).length = l.length
  | [], _ => rfl
  | x :: t, s => by simp [mks, mks_len t (s + 1)]
theorem mks_getD : ∀ (l : List Int) (s i : Nat), i < l.length → (mks c s l).getD i mk0 = ⟨l.getD i 0, c (l.getD i 0), ((s + i : Nat) : Int)⟩
  | [], _, _, h => by simp at h
  | x :: t, s, 0, _ => rfl
  | x :: t, s, i + 1, h => by
    have ih := mks_getD t (s + 1) i (by simpa using h)
    have e : (mks c s (x :: t)).getD (i + 1) mk0 = (mks c (s + 1) t).getD i mk0 := rfl
    have e2 : (x :: t).getD (i + 1) 0 = t.getD i 0 := rfl
    rw [e, ih, e2]
    congr 1
    omega
theorem mks_mem : ∀ (l : List Int) (s : Nat) (m : Mk), m ∈ mks c s l → m.c = c m.r ∧ (s : Int) ≤ m.p ∧ m.p < ((s + l.length : Nat) : Int)
  | [], _, _, h => by simp [mks] at h
  | x :: t, s, m, h => by
    simp only [mks, List.mem_cons] at h
    rcases h with rfl | h
    · simp; omega
    · have := mks_mem t (s + 1) m h
      simp only [List.length_cons]
      omega
theorem mks_inj : ∀ (l : List Int) (s : Nat) (a b : Mk), a ∈ mks c s l → b ∈ mks c s l → a.p = b.p → a = b
  | [], _, _, _, h, _, _ => by simp [mks] at h
  | x :: t, s, a, b, ha, hb, hp => by
    simp only [mks, List.mem_cons] at ha hb
    rcases ha with rfl | ha
    · rcases hb with rfl | hb
      · rfl
      · have := mks_mem t (s + 1) b hb
        simp at hp
        omega
    · rcases hb with rfl | hb
      · have := mks_mem t (s + 1) a ha
        simp at hp
        omega
      · exact mks_inj t (s + 1) a b ha hb hp
theorem mks_rise : ∀ (l : List Int) (s : Nat), (mks c s l).Pairwise fun a b => a.p < b.p
  | [], _ => List.Pairwise.nil
  | x :: t, s => List.pairwise_cons.2 ⟨fun b hb => by
      have := mks_mem t (s + 1) b hb
      simp only
      omega, mks_rise t (s + 1)⟩
theorem mks_of (k : Int) : ∀ (l : List Int) (s : Nat), ((mks c s l).filter fun m => decide (m.c = k)).map Mk.r = ofK c k l
  | [], _ => rfl
  | x :: t, s => by
    have ih := mks_of k t (s + 1)
    simp only [mks, ofK, List.filter_cons] at ih ⊢
    by_cases h : c x = k
    · simp [h, ih]
    · simp [h, ih]
/-- The marks, class by class. -/
def byK (K : List Int) (M : List Mk) : List Mk := K.flatMap fun k => M.filter fun m => decide (m.c = k)
theorem byK_map (l : List Int) (s : Nat) : ∀ K : List Int, (byK K (mks c s l)).map Mk.r = srt c K l
  | [] => rfl
  | k :: K => by
    have ih := byK_map l s K
    unfold byK srt at ih ⊢
    rw [List.flatMap_cons, List.flatMap_cons, List.map_append, ih, mks_of]
theorem byK_perm : ∀ (K : List Int), K.Pairwise (· < ·) → ∀ (M : List Mk), (∀ m, m ∈ M → m.c ∈ K) → (byK K M).Perm M
  | [], _, M, h => by
    cases M with
    | nil => exact List.Perm.refl _
    | cons m M => have := h m (by simp); simp at this
  | k :: K, hp, M, h => by
    have ih := byK_perm K hp.of_cons (M.filter fun m => !decide (m.c = k)) fun m hm => by
      simp only [List.mem_filter, Bool.not_eq_true', decide_eq_false_iff_not] at hm
      rcases List.mem_cons.1 (h m hm.1) with e | e
      · exact absurd e hm.2
      · exact e
    have e : ∀ (L : List Int), (∀ j, j ∈ L → j ∈ K) → byK L (M.filter fun m => !decide (m.c = k)) = byK L M := by
      intro L
      induction L with
      | nil => intro _; rfl
      | cons j L ihL =>
        intro hL
        have hj := (List.pairwise_cons.1 hp).1 j (hL j (by simp))
        have i2 := ihL fun i hi => hL i (by simp [hi])
        unfold byK at i2 ⊢
        rw [List.flatMap_cons, List.flatMap_cons, i2, List.filter_filter]
        congr 1
        congr 1
        funext m
        by_cases hx : m.c = j
        · simp [hx]; omega
        · simp [hx]
    rw [e K fun _ h => h] at ih
    have h2 : (byK (k :: K) M) = (M.filter fun m => decide (m.c = k)) ++ byK K M := by unfold byK; rw [List.flatMap_cons]
    rw [h2]
    exact (List.Perm.append_left _ ih).trans (List.filter_append_perm (fun m : Mk => decide (m.c = k)) M)
theorem byK_mem {K : List Int} {M : List Mk} {m : Mk} (h : m ∈ byK K M) : m ∈ M ∧ m.c ∈ K := by
  unfold byK at h
  rw [List.mem_flatMap] at h
  obtain ⟨k, hk, hm⟩ := h
  simp only [List.mem_filter, decide_eq_true_eq] at hm
  exact ⟨hm.1, by rw [hm.2]; exact hk⟩
theorem byK_sorted : ∀ (K : List Int), K.Pairwise (· < ·) → ∀ (M : List Mk), (∀ m, m ∈ M → m.good) → (M.Pairwise fun a b => a.p < b.p) → (byK K M).Pairwise fun a b => a.key ≤ b.key
  | [], _, _, _, _ => List.Pairwise.nil
  | k :: K, hp, M, hg, hr => by
    have ih := byK_sorted K hp.of_cons M hg hr
    have h2 : (byK (k :: K) M) = (M.filter fun m => decide (m.c = k)) ++ byK K M := by unfold byK; rw [List.flatMap_cons]
    rw [h2, List.pairwise_append]
    refine ⟨?_, ih, fun a ha b hb => ?_⟩
    · refine List.Pairwise.imp_of_mem (fun {a b} ha hb h => ?_) (hr.filter _)
      simp only [List.mem_filter, decide_eq_true_eq] at ha hb
      unfold Mk.key
      rw [ha.2, hb.2]
      omega
    · simp only [List.mem_filter, decide_eq_true_eq] at ha
      obtain ⟨b1, b2⟩ := byK_mem hb
      have := (List.pairwise_cons.1 hp).1 _ b2
      obtain ⟨p1, p2, p3, p4⟩ := hg a ha.1
      obtain ⟨q1, q2, q3, q4⟩ := hg b b1
      unfold Mk.key
      rw [ha.2] at *
      omega
theorem mks_good (hn : ∀ x, 0 ≤ c x) (hm : ∀ x, c x ≤ 230) (l : List Int) (hl : l.length ≤ 1000) : ∀ m, m ∈ mks c 0 l → m.good := fun m h => by
  obtain ⟨h1, h2, h3⟩ := mks_mem l 0 m h
  have := hn m.r
  have := hm m.r
  refine ⟨by omega, by omega, by omega, by omega⟩
/-- What is sorted, and holds the marks of a run, is the run, class by class. -/
theorem comb_end (hp : K.Pairwise (· < ·)) (hK : ∀ x, c x ∈ K) (hn : ∀ x, 0 ≤ c x) (hm : ∀ x, c x ≤ 230) (l : List Int) (hl : l.length ≤ 1000) (d : List Mk) (hd : d.Perm (mks c 0 l)) (hs : d.Pairwise fun a b => a.key ≤ b.key) :
    d.map Mk.r = srt c K l := by
  have hg := mks_good hn hm l hl
  have hk : ∀ m, m ∈ mks c 0 l → m.c ∈ K := fun m h => by rw [(mks_mem l 0 m h).1]; exact hK _
  have hP := byK_perm K hp (mks c 0 l) hk
  have e : d = byK K (mks c 0 l) := by
    refine List.Perm.eq_of_pairwise (le := fun a b => a.key ≤ b.key) (fun a b ha hb h1 h2 => ?_) hs (byK_sorted K hp _ hg (mks_rise l 0)) (hd.trans hP.symm)
    have ha' := hd.mem_iff.1 ha
    have hb' := hP.mem_iff.1 hb
    refine mks_inj l 0 a b ha' hb' ?_
    obtain ⟨p1, p2, p3, p4⟩ := hg a ha'
    obtain ⟨q1, q2, q3, q4⟩ := hg b hb'
    unfold Mk.key at h1 h2
    omega
  rw [e, byK_map]
/-- Where none stands wrongly behind the one ahead, all is sorted. -/
theorem side_sorted (d : List Mk) (h : ∀ j, 1 ≤ j → j < d.length → (d.getD (j - 1) mk0).key ≤ (d.getD j mk0).key) : d.Pairwise fun a b => a.key ≤ b.key := by
  rw [List.pairwise_iff_getElem]
  intro i j hi hj hij
  have key : ∀ n, i + n < d.length → (d.getD i mk0).key ≤ (d.getD (i + n) mk0).key := by
    intro n
    induction n with
    | zero => intro _; exact Int.le_refl _
    | succ n ih =>
      intro hn
      have h1 := ih (by omega)
      have h2 := h (i + n + 1) (by omega) hn
      have e : i + n + 1 - 1 = i + n := by omega
      rw [e] at h2
      exact Int.le_trans h1 h2
  have := key (j - i) (by omega)
  have e : i + (j - i) = j := by omega
  rw [e] at this
  simpa [List.getD, hi, hj] using this
end
end Go.Proofs.YtefobkgifigclaaGreatDoor
/- Marks in memory; how near the marks are that are looked at next, and which belongs ahead. -/
namespace Go.Proofs.YtefobkgifigclaaGreatDoor
set_option maxRecDepth 100000
open Go.RowKit

def Mk.vals (m : Mk) : List Value := [.int .i32 m.r, .int .i64 m.c, .int .i64 m.p]
def Mk.val (m : Mk) : Value := .agg #[.int .i32 m.r, .int .i64 m.c, .int .i64 m.p]
def mflat (d : List Mk) : List Value := d.flatMap Mk.vals
theorem mflat_len : ∀ d : List Mk, (mflat d).length = d.length * 3
  | [] => rfl
  | m :: t => by
    have := mflat_len t
    unfold mflat at this ⊢
    rw [List.flatMap_cons, List.length_append, this]
    simp [Mk.vals]
    omega
theorem mflat_cons (m : Mk) (t : List Mk) : mflat (m :: t) = .int .i32 m.r :: .int .i64 m.c :: .int .i64 m.p :: mflat t := by
  unfold mflat
  rw [List.flatMap_cons]; rfl
theorem mflat_get : ∀ (d : List Mk) (i : Nat), i < d.length → (mflat d)[i * 3]? = some (.int .i32 (d.getD i mk0).r) ∧ (mflat d)[i * 3 + 1]? = some (.int .i64 (d.getD i mk0).c) ∧ (mflat d)[i * 3 + 2]? = some (.int .i64 (d.getD i mk0).p)
  | [], _, h => by simp at h
  | m :: t, 0, _ => by rw [mflat_cons]; exact ⟨rfl, rfl, rfl⟩
  | m :: t, i + 1, h => by
    have ih := mflat_get t i (by simpa using h)
    rw [mflat_cons]
    have e1 : (i + 1) * 3 = i * 3 + 3 := by omega
    rw [e1]
    exact ih
theorem mflat_set : ∀ (d : List Mk) (i : Nat) (x : Mk), i < d.length → (((mflat d).set (i * 3) (.int .i32 x.r)).set (i * 3 + 1) (.int .i64 x.c)).set (i * 3 + 2) (.int .i64 x.p) = mflat (d.set i x)
  | [], _, _, h => by simp at h
  | m :: t, 0, x, _ => by
    show _ = mflat (x :: t)
    rw [mflat_cons, mflat_cons]; rfl
  | m :: t, i + 1, x, h => by
    have ih := mflat_set t i x (by simpa using h)
    rw [mflat_cons, List.set_cons_succ, mflat_cons, ← ih]
    have e1 : (i + 1) * 3 = i * 3 + 3 := by omega
    rw [e1]
    rfl
/-- A row of marks of the call's own. -/
def Mr (B : Nat) (v : Value) (d : List Mk) (w : World) : Prop := w.ownsRow B 264 3 v d.length (mflat d)
theorem Mr.cell {B g n cap : Nat} {d : List Mk} {w : World} (h : Mr B (.slice (some ⟨g, 0, none⟩) n cap) d w) (hn : n = d.length) (i : Nat) (hi : i < n) :
    w.cell? ⟨g, i * 3, none⟩ = some (.int .i32 (d.getD i mk0).r) ∧ w.cell? ⟨g, i * 3 + 1, none⟩ = some (.int .i64 (d.getD i mk0).c) ∧ w.cell? ⟨g, i * 3 + 2, none⟩ = some (.int .i64 (d.getD i mk0).p) := by
  subst hn
  obtain ⟨h1, h2, h3⟩ := mflat_get d i hi
  exact ⟨(World.ownsRow.cellAt h _ (by omega)).trans h1, (World.ownsRow.cellAt h _ (by omega)).trans h2, (World.ownsRow.cellAt h _ (by omega)).trans h3⟩
theorem Mr.free {B g n cap : Nat} {d : List Mk} {w : World} (h : Mr B (.slice (some ⟨g, 0, none⟩) n cap) d w) (hn : n = d.length) (o : Nat) : w.frozen? ⟨g, o, none⟩ = false := by
  subst hn
  exact World.ownsRow.frozenAt h o
theorem Mr.below {B : Nat} {v : Value} {d : List Mk} {w w2 : World} (h : Mr B v d w) (hb : Below w.heap.size w w2) : Mr B v d w2 := own_below h hb
theorem Mr.lt {B g n cap : Nat} {d : List Mk} {w : World} (h : Mr B (.slice (some ⟨g, 0, none⟩) n cap) d w) : B ≤ g ∧ g < w.heap.size := World.ownsRow.lt h g rfl
theorem Mr.base {B C : Nat} {v : Value} {d : List Mk} {w : World} (h : Mr B v d w) (hc : C ≤ B) : Mr C v d w := by
  refine ⟨h.1, ?_⟩
  rcases h.2 with h' | ⟨g, cap, cur, hv, hB, rest⟩
  · exact .inl h'
  · exact .inr ⟨g, cap, cur, hv, Nat.le_trans hc hB, rest⟩
theorem grownBy_trans {a b c : World} {row : Option Nat} (h : a.grownBy b row) (k : b.grownBy c row) : a.grownBy c row := by
  obtain ⟨h1, h2, h3, h4, h5⟩ := h
  obtain ⟨k1, k2, k3, k4, k5⟩ := k
  exact ⟨k1.trans h1, k2.trans h2, k3.trans h3, by omega, fun i hi hne => (k5 i (by omega) hne).trans (h5 i hi hne)⟩
/-- A mark is written. -/
theorem Mr.put {B g n cap : Nat} {d : List Mk} {w : World} (h : Mr B (.slice (some ⟨g, 0, none⟩) n cap) d w) (hn : n = d.length) (i : Nat) (hi : i < n) (x : Mk) :
    Mr B (.slice (some ⟨g, 0, none⟩) n cap) (d.set i x) (((w.setCell ⟨g, i * 3, none⟩ (.int .i32 x.r)).setCell ⟨g, i * 3 + 1, none⟩ (.int .i64 x.c)).setCell ⟨g, i * 3 + 2, none⟩ (.int .i64 x.p)) ∧
      w.grownBy (((w.setCell ⟨g, i * 3, none⟩ (.int .i32 x.r)).setCell ⟨g, i * 3 + 1, none⟩ (.int .i64 x.c)).setCell ⟨g, i * 3 + 2, none⟩ (.int .i64 x.p)) (some g) := by
  subst hn
  obtain ⟨a1, a2⟩ := World.ownsRow.stored h (i * 3) (.int .i32 x.r)
  obtain ⟨b1, b2⟩ := World.ownsRow.stored a1 (i * 3 + 1) (.int .i64 x.c)
  obtain ⟨c1, c2⟩ := World.ownsRow.stored b1 (i * 3 + 2) (.int .i64 x.p)
  refine ⟨?_, grownBy_trans (grownBy_trans a2 b2) c2⟩
  unfold Mr
  rw [← mflat_set d i x hi, List.length_set]
  exact c1

set_option maxHeartbeats 400000 in
theorem nearer_any (n : Nat) (h : 1 ≤ n) (hn : n ≤ 1000) (w : World) : Calls Tryz.prog 224 #[.int .i64 n] w fun e w' => (∃ m : Nat, e = .returned (.int .i64 m) ∧ 1 ≤ m ∧ m ≤ n ∧ (m < n ∨ m = 1)) ∧ w' = w := by
  go_enter Tryz.func224, Tryz.ntmps224
  go_wp2
  · go_ret
    exact ⟨⟨n - n / 4 - 1, ret_int (by omega), by omega, by omega, by omega⟩, rfl⟩
  · go_ret
    exact ⟨⟨1, ret_int (by omega), by omega, by omega, by omega⟩, rfl⟩
set_option maxHeartbeats 800000 in
theorem ahead_any (a b : Mk) (w : World) : Calls Tryz.prog 225 #[a.val, b.val] w fun e w' => e = .returned (.bool (a.ahead b)) ∧ Gr w w' := by
  obtain ⟨r1, c1, p1⟩ := a
  obtain ⟨r2, c2, p2⟩ := b
  unfold Mk.val
  dsimp only
  generalize hm : Mk.ahead ⟨r1, c1, p1⟩ ⟨r2, c2, p2⟩ = m
  have HM := hide hm
  clear hm
  by_cases h : c1 = c2
  · subst h
    go_enter Tryz.func225, Tryz.ntmps225
    go_wp2
    go_ret
    exact ⟨ret_bool (by rw [← unhide HM]; simp [Mk.ahead]), ((Gr.refl _).alloc _).alloc _⟩
  · have hz : (c1 == c2) = false := by simpa using h
    go_enter Tryz.func225, Tryz.ntmps225
    go_wp2
    go_ret
    exact ⟨ret_bool (by rw [← unhide HM]; simp [Mk.ahead, h]), ((Gr.refl _).alloc _).alloc _⟩
end Go.Proofs.YtefobkgifigclaaGreatDoor
/- How a run stands while its marks are put in order; a scope whose label is jumped back to. -/
namespace Go.Proofs.YtefobkgifigclaaGreatDoor
set_option maxRecDepth 100000
open Go.RowKit

/-- A scope in which the run jumps back to one label: what is shown of each pass from the label serves for the first as well. -/
theorem scope_jumps {P : Program} {a : Act} {w : World} {Q : Exit → Act → World → Prop} {c rest : Code} (l : Nat) (J : Act → World → Prop) (μ : Act → World → Nat) (hf : findLabel c l = some (Code.skip.seq rest))
    (pass : ∀ a w, J a w → rest.wp P (Exit.jump l (fun a' w' => J a' w' ∧ μ a' w' < μ a w) Q) a w)
    (first : (∀ a w, J a w → rest.wp P (Exit.jump l J Q) a w) → c.wp P (Exit.jump l J Q) a w) : (Code.scope c).wp P Q a w := by
  refine wp_scope_jumps l J μ hf (first fun a w h => wp_mono (pass a w h) ?_) fun a w h => wp_seq (wp_skip (pass a w h))
  intro e a' w' h
  cases e with
  | goto l' => exact ⟨h.1, h.2.1⟩
  | normal => exact h
  | exit id => exact h
  | ret => exact h
  | panic ch => exact h
  | outgrown => exact h

theorem below_grown {w w' : World} (h : Below w.heap.size w w') (row : Option Nat) : w.grownBy w' row := ⟨h.os, h.tape, h.output, h.size, fun i hi _ => h.block i hi⟩
/-- What was grown by a new row, or by the row itself, was grown by the row. -/
theorem grownBy_new {a b c : World} {g g2 : Nat} (h : a.grownBy b (some g)) (k : b.grownBy c (some g2)) (hg : a.heap.size ≤ g2) : a.grownBy c (some g) := by
  obtain ⟨h1, h2, h3, h4, h5⟩ := h
  obtain ⟨k1, k2, k3, k4, k5⟩ := k
  exact ⟨k1.trans h1, k2.trans h2, k3.trans h3, by omega, fun i hi hne => (k5 i (by omega) (by simp; omega)).trans (h5 i hi hne)⟩
theorem Rn.set {B g N cap : Nat} {L : List Int} {w : World} (h : Rn B (.slice (some ⟨g, 0, none⟩) N cap) L w) (hN : N = L.length) (j : Nat) (z : Int) :
    Rn B (.slice (some ⟨g, 0, none⟩) N cap) (L.set j z) (w.setCell ⟨g, j, none⟩ (.int .i32 z)) ∧ w.grownBy (w.setCell ⟨g, j, none⟩ (.int .i32 z)) (some g) := by
  subst hN
  obtain ⟨h3, h4⟩ := World.ownsRow.stored h j (.int .i32 z)
  refine ⟨?_, h4⟩
  unfold Rn
  rw [List.length_set, List.map_set]
  exact h3

/-- The row that is put in order, and the marks of a run of it. -/
structure St (w : World) (B C g g2 N cap n cap2 : Nat) (L : List Int) (d : List Mk) (wr : World) : Prop where
  rn : Rn B (.slice (some ⟨g, 0, none⟩) N cap) L wr
  mr : Mr C (.slice (some ⟨g2, 0, none⟩) n cap2) d wr
  gb : w.grownBy wr (some g)
  ln : N = L.length
  dn : n = d.length
  gw : g < w.heap.size
  wg : w.heap.size ≤ g2
section
variable {w wr : World} {B C g g2 N cap n cap2 : Nat} {L : List Int} {d : List Mk}
theorem St.gr {wr' : World} (h : St w B C g g2 N cap n cap2 L d wr) (k : Gr wr wr') : St w B C g g2 N cap n cap2 L d wr' :=
  ⟨h.rn.below k.below, h.mr.below k.below, grownBy_trans h.gb (k.grown _), h.ln, h.dn, h.gw, h.wg⟩
theorem St.cell (h : St w B C g g2 N cap n cap2 L d wr) (i : Nat) (hi : i < n) :
    wr.cell? ⟨g2, i * 3, none⟩ = some (.int .i32 (d.getD i mk0).r) ∧ wr.cell? ⟨g2, i * 3 + 1, none⟩ = some (.int .i64 (d.getD i mk0).c) ∧ wr.cell? ⟨g2, i * 3 + 2, none⟩ = some (.int .i64 (d.getD i mk0).p) := h.mr.cell h.dn i hi
theorem St.free (h : St w B C g g2 N cap n cap2 L d wr) (o : Nat) : wr.frozen? ⟨g2, o, none⟩ = false := h.mr.free h.dn o
theorem St.freeL (h : St w B C g g2 N cap n cap2 L d wr) (o : Nat) : wr.frozen? ⟨g, o, none⟩ = false := h.rn.free h.ln o
theorem St.lt2 (h : St w B C g g2 N cap n cap2 L d wr) : g2 < wr.heap.size := h.mr.lt.2
theorem St.lt (h : St w B C g g2 N cap n cap2 L d wr) : g < wr.heap.size := Nat.lt_of_lt_of_le h.gw h.gb.size
theorem St.cellL (h : St w B C g g2 N cap n cap2 L d wr) (j : Nat) (hj : j < N) : wr.cell? ⟨g, j, none⟩ = some (.int .i32 (L.getD j 0)) := by
  have hl := h.ln
  have h1 := h.rn
  subst hl
  rw [World.ownsRow.cellAt h1 j (by omega)]
  simp [List.getD, hj]
theorem St.put (h : St w B C g g2 N cap n cap2 L d wr) (i : Nat) (hi : i < n) (x : Mk) :
    St w B C g g2 N cap n cap2 L (d.set i x) (((wr.setCell ⟨g2, i * 3, none⟩ (.int .i32 x.r)).setCell ⟨g2, i * 3 + 1, none⟩ (.int .i64 x.c)).setCell ⟨g2, i * 3 + 2, none⟩ (.int .i64 x.p)) := by
  obtain ⟨h1, h2⟩ := h.mr.put h.dn i hi x
  refine ⟨h.rn.kept h2 ?_, h1, grownBy_new h.gb h2 h.wg, h.ln, by rw [List.length_set]; exact h.dn, h.gw, h.wg⟩
  have a := h.gw
  have b := h.wg
  simp [Value.ownBlock]
  omega
theorem St.exch (h : St w B C g g2 N cap n cap2 L d wr) (i j : Nat) (hi : i < n) (hj : j < n) (x y : Mk) (hx : x = d.getD i mk0) (hy : y = d.getD j mk0) :
    St w B C g g2 N cap n cap2 L (exch d i j) ((((((wr.setCell ⟨g2, i * 3, none⟩ (.int .i32 y.r)).setCell ⟨g2, i * 3 + 1, none⟩ (.int .i64 y.c)).setCell ⟨g2, i * 3 + 2, none⟩ (.int .i64 y.p)).setCell ⟨g2, j * 3, none⟩ (.int .i32 x.r)).setCell ⟨g2, j * 3 + 1, none⟩ (.int .i64 x.c)).setCell ⟨g2, j * 3 + 2, none⟩ (.int .i64 x.p)) := by
  subst hx hy
  exact (h.put i hi (d.getD j mk0)).put j hj (d.getD i mk0)
theorem St.write (h : St w B C g g2 N cap n cap2 L d wr) (j : Nat) (z : Int) : St w B C g g2 N cap n cap2 (L.set j z) d (wr.setCell ⟨g, j, none⟩ (.int .i32 z)) := by
  obtain ⟨h1, h2⟩ := h.rn.set h.ln j z
  refine ⟨h1, World.ownsRow.kept h.mr h2 (.inr ?_), grownBy_trans h.gb h2, by rw [List.length_set]; exact h.ln, h.dn, h.gw, h.wg⟩
  have a := h.gw
  have b := h.wg
  simp [Value.ownBlock]
  omega
end
/-- The row while k of a run's marks are written back. -/
def wb (A S r Z : List Int) (k : Nat) : List Int := A ++ (S.take k ++ (r.drop k ++ Z))
theorem wb_zero (A S r Z : List Int) : wb A S r Z 0 = A ++ (r ++ Z) := by simp [wb]
theorem wb_set (A S r Z : List Int) (k : Nat) (hk : k < r.length) (hs : S.length = r.length) : (wb A S r Z k).set (A.length + k) (S.getD k 0) = wb A S r Z (k + 1) := by
  unfold wb
  rw [List.set_append_right _ _ (by omega)]
  congr 1
  have e1 : A.length + k - A.length = k := by omega
  rw [e1, List.set_append_right _ _ (by rw [List.length_take]; omega), List.length_take, Nat.min_eq_left (by omega), Nat.sub_self, List.drop_eq_getElem_cons hk, take_snoc S k (by omega), List.cons_append, List.set_cons_zero, List.append_assoc]
  rfl
theorem wb_all (A S r Z : List Int) (hs : S.length = r.length) : wb A S r Z r.length = A ++ (S ++ Z) := by
  unfold wb
  rw [List.drop_length, ← hs, List.take_length]; rfl
/-- What a word of memory holds. -/
def intAt (w : World) (b o : Nat) : Int := match w.cell? ⟨b, o, none⟩ with | some (.int _ q) => q | _ => 0
/-- The marks that lie there. -/
def marksAt (w : World) (b n : Nat) : List Mk := (List.range n).map fun i => ⟨intAt w b (i * 3), intAt w b (i * 3 + 1), intAt w b (i * 3 + 2)⟩
theorem St.read {w wr : World} {B C g g2 N cap n cap2 : Nat} {L : List Int} {d : List Mk} (h : St w B C g g2 N cap n cap2 L d wr) : marksAt wr g2 n = d := by
  have hd := h.dn
  refine List.ext_getElem (by simp [marksAt, hd]) fun i h1 h2 => ?_
  have hi : i < n := by omega
  obtain ⟨c1, c2, c3⟩ := h.cell i hi
  have e : d.getD i mk0 = d[i] := by simp [List.getD, h2]
  rw [e] at c1 c2 c3
  simp only [marksAt, List.getElem_map, List.getElem_range, intAt, c1, c2, c3]
/-- How a pass stands: some changed places, and more stands well; or none did, and none stands wrongly so far. -/
def Pas (d dk : List Mk) (m k : Nat) (ch : Bool) : Prop := (ch = true → pot 0 d < pot 0 dk) ∧ (ch = false → dk = d ∧ ∀ j, m ≤ j → j < k → (d.getD (j - m) mk0).key ≤ (d.getD j mk0).key)
theorem Pas.start (d : List Mk) (m : Nat) : Pas d d m m false := ⟨(fun h => by cases h), fun _ => ⟨rfl, fun j h1 h2 => by omega⟩⟩
theorem Pas.swap {d dk : List Mk} {m k : Nat} {ch : Bool} (h : Pas d dk m k ch) (h1 : 1 ≤ m) (hm : m ≤ k) (hk : k < dk.length) (hlt : (dk.getD k mk0).key < (dk.getD (k - m) mk0).key) : Pas d (exch dk k (k - m)) m (k + 1) true := by
  refine ⟨fun _ => ?_, (fun h => by cases h)⟩
  have := pot_exch dk k (k - m) hk (by omega) hlt
  cases ch
  · rw [← (h.2 rfl).1]
    exact this
  · exact Int.lt_trans (h.1 rfl) this
theorem Pas.skip {d dk : List Mk} {m k : Nat} {ch : Bool} (h : Pas d dk m k ch) (hle : (dk.getD (k - m) mk0).key ≤ (dk.getD k mk0).key) : Pas d dk m (k + 1) ch := by
  refine ⟨h.1, fun hc => ⟨(h.2 hc).1, fun j h1 h2 => ?_⟩⟩
  by_cases hj : j < k
  · exact (h.2 hc).2 j h1 hj
  · have : j = k := by omega
    subst this
    rw [← (h.2 hc).1]
    exact hle
theorem Pas.end_ {d dk : List Mk} {n : Nat} (h : Pas d dk 1 n false) (hn : n = d.length) : dk.Pairwise fun a b => a.key ≤ b.key := by
  obtain ⟨rfl, h2⟩ := h.2 rfl
  exact side_sorted dk fun j h1 h2' => h2 j h1 (by omega)
end Go.Proofs.YtefobkgifigclaaGreatDoor
