/- Words that all texts of this stage share: hidden facts, a span, and plain facts on worlds. -/
import Derived.WalkKit
import Derived.Below
import Derived.BigQuiet
import Derived.Deep.QuietTactic
import Derived.Shelf.SlSortCmp.QuietGrown
import Derived.Deep.AppendLies
import Derived.Laws.OwnMore
import Derived.Test.YtpaenieafkmmeaaGreatDoorProg
import Derived.WalkSpells
import Derived.WalkLawsBesides
namespace Go.Proofs.YtpaenieafkmmeaaGreatDoor.S17
set_option maxRecDepth 100000
open Go.RowKit
open Go.Sort (grow)

theorem hide {p : Prop} (h : p) : Hid p := h
theorem unhide {p : Prop} (h : Hid p) : p := h
theorem ret_bool {a b : Bool} (h : a = b) : Ending.returned (.bool a) = .returned (.bool b) := by rw [h]
theorem ret_int {k : IntKind} {a b : Int} (h : a = b) : Ending.returned (.int k a) = .returned (.int k b) := by rw [h]
theorem cell_lt {w : World} {a : Addr} {v : Value} (h : w.cell? a = some v) : a.block < w.heap.size := by
  rcases Nat.lt_or_ge a.block w.heap.size with h' | h'
  · exact h'
  · simp [World.cell?, Array.getElem?_eq_none h'] at h
theorem below_new {w w1 : World} {o : Obj} (hb : Below (w.alloc o).heap.size (w.alloc o) w1) : Below w.heap.size w w1 :=
  ((Below.refl _ _).alloc (Nat.le_refl _) _).trans (hb.mono (by simp))

/-- A span: from, to, what it has. -/
structure Sp where
  f : Int
  t : Int
  h : Int
/-- The span that is none. -/
def sp0 : Sp := ⟨0, 0, 0⟩
/-- Are two spans, two lists of spans the same? -/
def eqS (a b : Sp) : Bool := decide (a.f = b.f ∧ a.t = b.t ∧ a.h = b.h)
def eqL : List Sp → List Sp → Bool
  | [], [] => true
  | [], _ :: _ => false
  | _ :: _, [] => false
  | a :: l, b :: m => eqS a b && eqL l m
theorem eqS_iff (a b : Sp) : eqS a b = true ↔ a = b := by
  obtain ⟨f, t, h⟩ := a
  obtain ⟨f2, t2, h2⟩ := b
  simp [eqS]
theorem eqL_iff (a b : List Sp) : eqL a b = true ↔ a = b := by
  induction a generalizing b with
  | nil => cases b <;> simp [eqL]
  | cons x a ih =>
    cases b with
    | nil => simp [eqL]
    | cons y b => simp [eqL, eqS_iff, ih]
theorem eqL_true {a b : List Sp} (h : a = b) : eqL a b = true := (eqL_iff a b).2 h
theorem eqL_false {a b : List Sp} (h : ¬ a = b) : eqL a b = false := by
  cases h2 : eqL a b
  · rfl
  · exact absurd ((eqL_iff a b).1 h2) h

/-- May a span be? -/
def mayS (s : Sp) : Bool := decide (0 ≤ s.f ∧ s.f ≤ s.t ∧ s.t ≤ 1114111)
theorem mayS_iff (s : Sp) : mayS s = true ↔ 0 ≤ s.f ∧ s.f ≤ s.t ∧ s.t ≤ 1114111 := by unfold mayS; simp
theorem mayS_not (s : Sp) : mayS s = false ↔ ¬ (0 ≤ s.f ∧ s.f ≤ s.t ∧ s.t ≤ 1114111) := by unfold mayS; rw [decide_eq_false_iff_not]

/-- Is a number in a span? -/
def inS (s : Sp) (r : Int) : Bool := decide (s.f ≤ r ∧ r ≤ s.t)
theorem inS_iff (s : Sp) (r : Int) : inS s r = true ↔ s.f ≤ r ∧ r ≤ s.t := by unfold inS; simp
theorem inS_not (s : Sp) (r : Int) : inS s r = false ↔ ¬ (s.f ≤ r ∧ r ≤ s.t) := by unfold inS; rw [decide_eq_false_iff_not]

/-- Does a span touch the one ahead, with the same? -/
def joinS (p s : Sp) : Bool := decide (s.f = p.t + 1 ∧ s.h = p.h)
theorem joinS_iff (p s : Sp) : joinS p s = true ↔ s.f = p.t + 1 ∧ s.h = p.h := by unfold joinS; simp
theorem joinS_not (p s : Sp) : joinS p s = false ↔ ¬ (s.f = p.t + 1 ∧ s.h = p.h) := by unfold joinS; rw [decide_eq_false_iff_not]

/-- May a span follow the one ahead? -/
def folS (p s : Sp) : Bool := decide (p.t < s.f) && !joinS p s

/-- A slice that holds the spans l. -/
def Tab (w : World) (v : Value) (l : List Sp) : Prop :=
  ∃ a cap, v = .slice a l.length cap ∧ (0 < l.length → ∃ b off, a = some ⟨b, off, none⟩ ∧ ∀ j, j < l.length →
    w.cell? ⟨b, off + j * 3, none⟩ = some (.int .i32 (l.getD j sp0).f) ∧ w.cell? ⟨b, off + j * 3 + 1, none⟩ = some (.int .i32 (l.getD j sp0).t) ∧ w.cell? ⟨b, off + j * 3 + 2, none⟩ = some (.int .i64 (l.getD j sp0).h))

theorem Tab.below {w w2 : World} {v : Value} {l : List Sp} (h : Tab w v l) (hb : Below w.heap.size w w2) : Tab w2 v l := by
  obtain ⟨a, cap, rfl, hc⟩ := h
  refine ⟨a, cap, rfl, fun i => ?_⟩
  obtain ⟨b, off, rfl, hcc⟩ := hc i
  refine ⟨b, off, rfl, fun j hj => ?_⟩
  obtain ⟨h1, h2, h3⟩ := hcc j hj
  exact ⟨(hb.cell (p := ⟨b, off + j * 3, none⟩) (cell_lt h1)).trans h1, (hb.cell (p := ⟨b, off + j * 3 + 1, none⟩) (cell_lt h2)).trans h2, (hb.cell (p := ⟨b, off + j * 3 + 2, none⟩) (cell_lt h3)).trans h3⟩

theorem Tab.nil (w : World) (a : Option Addr) (c : Nat) : Tab w (.slice a 0 c) [] := ⟨a, c, rfl, fun h => absurd h (Nat.lt_irrefl _)⟩
theorem below_drewN {B : Nat} {w w1 : World} (h : Below B w w1) (n : Nat) : Below B w (w1.drewN n) := ⟨h.os, h.tape, h.output, h.size, h.block⟩

/-- The world has drawn, and blocks were laid behind; all that lay lies as it lay. -/
def Gr (w w' : World) : Prop := ∃ q os, w' = grow (w.drewN q) os
theorem Gr.refl (w : World) : Gr w w := ⟨0, #[], by rw [Go.Sort.grow_empty]; rfl⟩
theorem Gr.trans {a b c : World} (h : Gr a b) (k : Gr b c) : Gr a c := by
  obtain ⟨q, os, rfl⟩ := h
  obtain ⟨q2, os2, rfl⟩ := k
  exact ⟨q + q2, os ++ os2, by show grow (grow ((a.drewN q).drewN q2) os) os2 = _; rw [Go.Sort.grow_grow, World.drewN_drewN]⟩
theorem Gr.one (w : World) (o : Obj) : Gr w (w.alloc o) := ⟨0, #[o], by rw [Go.Sort.alloc_eq_grow]; rfl⟩
theorem Gr.alloc {a b : World} (h : Gr a b) (o : Obj) : Gr a (b.alloc o) := h.trans (Gr.one b o)
theorem Gr.drewN {a b : World} (h : Gr a b) (n : Nat) : Gr a (b.drewN n) := h.trans ⟨n, #[], by rw [Go.Sort.grow_empty]⟩
theorem Gr.drew {a b : World} (h : Gr a b) : Gr a b.drew := h.drewN 1
theorem Gr.grow {a b : World} (h : Gr a b) (n : Nat) (os : Array Obj) : Gr a (Go.Sort.grow (b.drewN n) os) := h.trans ⟨n, os, rfl⟩
theorem Gr.below {a b : World} (h : Gr a b) : Below a.heap.size a b := by
  obtain ⟨q, os, rfl⟩ := h
  exact ⟨rfl, rfl, rfl, by simp [Go.Sort.grow, World.drewN], fun i hi => by
    show ((a.drewN q).heap ++ os)[i]? = _
    rw [Array.getElem?_append_left (by show i < a.heap.size; omega)]
    rfl⟩
theorem Gr.cell {a b : World} (h : Gr a b) {p : Addr} {v : Value} (hc : a.cell? p = some v) : b.cell? p = some v := (h.below.cell (p := p) (cell_lt hc)).trans hc
theorem Gr.tab {a b : World} (h : Gr a b) {v : Value} {l : List Sp} (hc : Tab a v l) : Tab b v l := hc.below h.below
theorem Gr.size {a b : World} (h : Gr a b) : a.heap.size ≤ b.heap.size := h.below.size
/-- A cell in every world that has grown. -/
theorem cell_gr {w : World} {a : Addr} {v : Value} (h : w.cell? a = some v) (n : Nat) (os : Array Obj) : (grow (w.drewN n) os).cell? a = some v := cell_grown (cell_lt h) h n os
theorem callsGr {f : FuncId} {args : Array Value} {w : World} {n : Nat} {os : Array Obj} {v : Value} {P : Program}
    (h : Calls P f args (grow (w.drewN n) os) fun e w' => e = .returned v ∧ Gr (grow (w.drewN n) os) w') : Calls P f args (grow (w.drewN n) os) fun e w'' => e = .returned v ∧ ∃ p : GrownBy, w'' = grow (w.drewN p.n) p.os :=
  Calls.grown_of h

/-- The three cells of a new box. -/
theorem box3 (w : World) (a b c : Value) (T : TypeId) : (w.alloc (.cells #[a, b, c] T)).cell? ⟨w.heap.size, 0, none⟩ = some a ∧ (w.alloc (.cells #[a, b, c] T)).cell? ⟨w.heap.size, 1, none⟩ = some b ∧ (w.alloc (.cells #[a, b, c] T)).cell? ⟨w.heap.size, 2, none⟩ = some c := by
  refine ⟨?_, ?_, ?_⟩ <;> rw [World.cell?_alloc_mark] <;> rfl
theorem box1 (w : World) (a : Value) (T : TypeId) : (w.alloc (.cells #[a] T)).cell? ⟨w.heap.size, 0, none⟩ = some a := by
  rw [World.cell?_alloc_mark]; rfl
end Go.Proofs.YtpaenieafkmmeaaGreatDoor.S17
/- What is the call's own, and what only grows: plain facts on worlds. -/
namespace Go.Proofs.YtpaenieafkmmeaaGreatDoor.S17
set_option maxRecDepth 100000
open Go.RowKit

theorem Gr.grown {a b : World} (h : Gr a b) (row : Option Nat) : a.grownBy b row := ⟨h.below.os, h.below.tape, h.below.output, h.size, fun i hi _ => h.below.block i hi⟩
theorem below_own {w w' : World} {B : Nat} {row : Option Nat} (h : w.grownBy w' row) (hB : B ≤ w.heap.size) (hr : ∀ g, row = some g → B ≤ g) : Below B w w' :=
  (Below.refl _ _).grown h hB hr
theorem own_block {w : World} {B e size n : Nat} {v : Value} {xs : List Value} (h : w.ownsRow B e size v n xs) : ∀ g, v.ownBlock = some g → B ≤ g := fun g hg => (h.lt g hg).1
theorem own_below {B e size n : Nat} {v : Value} {xs : List Value} {w w2 : World} (h : w.ownsRow B e size v n xs) (hb : Below w.heap.size w w2) : w2.ownsRow B e size v n xs :=
  h.kept (row := none) ⟨hb.os, hb.tape, hb.output, hb.size, fun k hk _ => hb.block k hk⟩ (by cases hv : v.ownBlock <;> simp)
theorem heap_new (w : World) (o : Obj) : (w.alloc o).heap[w.heap.size]? = some o := by
  show (w.heap.push o)[w.heap.size]? = some o
  simp
theorem add_zero3 (g j : Nat) : (⟨g, 0, none⟩ : Addr).add j = ⟨g, j, none⟩ := by unfold Addr.add; split <;> simp_all
end Go.Proofs.YtpaenieafkmmeaaGreatDoor.S17
/- Rows of whole numbers: handed in, or of the call's own; plain facts on worlds. -/
namespace Go.Proofs.YtpaenieafkmmeaaGreatDoor.S17
set_option maxRecDepth 100000
open Go.RowKit
open Go.Sort (grow)


/-- A slice that holds the numbers l. -/
def Row (w : World) (v : Value) (l : List Int) : Prop :=
  ∃ a cap, v = .slice a l.length cap ∧ (0 < l.length → ∃ b off, a = some ⟨b, off, none⟩ ∧ ∀ j, j < l.length → w.cell? ⟨b, off + j, none⟩ = some (.int .i64 (l.getD j 0)))
theorem Row.below {w w2 : World} {v : Value} {l : List Int} (h : Row w v l) (hb : Below w.heap.size w w2) : Row w2 v l := by
  obtain ⟨a, cap, rfl, hc⟩ := h
  refine ⟨a, cap, rfl, fun hi => ?_⟩
  obtain ⟨b, off, rfl, hcc⟩ := hc hi
  exact ⟨b, off, rfl, fun j hj => (hb.cell (p := ⟨b, off + j, none⟩) (cell_lt (hcc j hj))).trans (hcc j hj)⟩
theorem Row.nil (w : World) (a : Option Addr) (c : Nat) : Row w (.slice a 0 c) [] := ⟨a, c, rfl, fun h => absurd h (Nat.lt_irrefl _)⟩
/-- A row of numbers of the call's own. -/
def Rn (B : Nat) (v : Value) (l : List Int) (w : World) : Prop := w.ownsRow B 3 1 v l.length (l.map (Value.int .i64))
theorem Rn.nil (B : Nat) (w : World) : Rn B (.slice none 0 0) [] w := ⟨rfl, .inl ⟨rfl, rfl⟩⟩
theorem Rn.row {w : World} {B : Nat} {v : Value} {l : List Int} (h : Rn B v l w) : Row w v l := by
  rcases h.2 with ⟨hv, h0⟩ | ⟨g, cap, cur, hv, _⟩
  · exact ⟨none, 0, by rw [hv, h0], fun hi => by omega⟩
  · refine ⟨some ⟨g, 0, none⟩, cap, hv, fun hi => ⟨g, 0, rfl, fun j hj => ?_⟩⟩
    have := World.ownsRow.cells h (g := g) (by rw [hv]; rfl) j (.int .i64 (l.getD j 0)) (by simp [List.getD, hj])
    rw [add_zero3 g j] at this
    rw [Nat.zero_add]
    exact this
theorem Rn.shape {w : World} {B : Nat} {v : Value} {l : List Int} (h : Rn B v l w) : ∃ a c, v = .slice a l.length c := by
  rcases h.2 with ⟨hv, h0⟩ | ⟨g, cap, cur, hv, _⟩
  · exact ⟨none, 0, by rw [hv, h0]⟩
  · exact ⟨_, cap, hv⟩
theorem Rn.held {w : World} {B : Nat} {v : Value} {l : List Int} (h : Rn B v l w) (hl : 0 < l.length) : ∃ g c, v = .slice (some ⟨g, 0, none⟩) l.length c ∧ B ≤ g ∧ g < w.heap.size := by
  rcases h.2 with ⟨hv, h0⟩ | ⟨g, cap, cur, hv, hB, hg, _⟩
  · omega
  · exact ⟨g, cap, hv, hB, (Array.getElem?_eq_some_iff.1 hg).1⟩
theorem Rn.below {w w2 : World} {B : Nat} {v : Value} {l : List Int} (h : Rn B v l w) (hb : Below w.heap.size w w2) : Rn B v l w2 := own_below h hb
theorem Rn.base {w : World} {B C : Nat} {v : Value} {l : List Int} (h : Rn B v l w) (hc : C ≤ B) : Rn C v l w := by
  refine ⟨h.1, ?_⟩
  rcases h.2 with h' | ⟨g, cap, cur, hv, hB, rest⟩
  · exact .inl h'
  · exact .inr ⟨g, cap, cur, hv, Nat.le_trans hc hB, rest⟩
theorem elem_info : (Tryz.prog.info? 3).map (fun i => (i.zero, i.size, i.bytes)) = some (some (.int .i64 0), 1, 8) := by kernel_rfl
/-- A new block of numbers. -/
theorem Rn.new (w : World) (B : Nat) (zs : List Int) (cs : Array Value) (hcs : cs.toList = zs.map (Value.int .i64)) (hB : B ≤ w.heap.size) (hm : zs.length ≤ 1000) : Rn B (.slice (.some ⟨w.heap.size, 0, none⟩) zs.length zs.length) zs (w.alloc (.cells cs 3)) := by
  refine ⟨by simp, .inr ⟨w.heap.size, zs.length, cs, rfl, hB, heap_new _ _, Nat.le_refl _, by unfold maxLen; omega, ?_, ?_⟩⟩
  · rw [← Array.length_toList, hcs]; simp
  · rw [hcs]; exact List.take_of_length_le (by simp)
theorem row_new (w : World) (zs : List Int) (cs : Array Value) (T : TypeId) (hcs : cs.toList = zs.map (Value.int .i64)) : Row (w.alloc (.cells cs T)) (.slice (some ⟨w.heap.size, 0, none⟩) zs.length zs.length) zs := by
  refine ⟨_, _, rfl, fun _ => ⟨w.heap.size, 0, rfl, fun j hj => ?_⟩⟩
  rw [World.cell?_alloc_mark, Nat.zero_add]
  have : cs.toList[j]? = some (.int .i64 (zs.getD j 0)) := by rw [hcs]; simp [List.getD, hj]
  simpa using this
theorem Rn.new1 (w : World) (x : Int) : Rn w.heap.size (.slice (.some ⟨w.heap.size, 0, none⟩) 1 1) [x] (w.alloc (.cells #[.int .i64 x] 3)) := Rn.new w _ [x] _ rfl (Nat.le_refl _) (by simp)
theorem Rn.new2 (w : World) (x y : Int) : Rn w.heap.size (.slice (.some ⟨w.heap.size, 0, none⟩) 2 2) [x, y] (w.alloc (.cells #[.int .i64 x, .int .i64 y] 3)) := Rn.new w _ [x, y] _ rfl (Nat.le_refl _) (by simp)
theorem Rn.new3 (w : World) (x y z : Int) : Rn w.heap.size (.slice (.some ⟨w.heap.size, 0, none⟩) 3 3) [x, y, z] (w.alloc (.cells #[.int .i64 x, .int .i64 y, .int .i64 z] 3)) := Rn.new w _ [x, y, z] _ rfl (Nat.le_refl _) (by simp)
theorem Below.one (w : World) (o : Obj) : Below w.heap.size w (w.alloc o) := (Gr.one w o).below
theorem take_snoc (l : List Int) (k : Nat) (h : k < l.length) : l.take (k + 1) = l.take k ++ [l.getD k 0] := by
  rw [List.take_succ_eq_append_getElem h]; simp [List.getD, h]
theorem Rn.push {w1 : World} {B g1 cap1 N : Nat} {es : List Int} {z : Int} (hN : N = es.length) (h : w1.ownsRow B 3 1 (.slice (.some ⟨g1, 0, none⟩) (N + 1) cap1) (N + 1) (es.map (Value.int .i64) ++ [.int .i64 z])) : Rn B (.slice (.some ⟨g1, 0, none⟩) (N + 1) cap1) (es ++ [z]) w1 := by
  unfold Rn
  subst hN
  simpa using h
theorem Rn.last {w : World} {B g N cap : Nat} {t : List Int} {y : Int} (h : Rn B (.slice (.some ⟨g, 0, none⟩) N cap) (t ++ [y]) w) : w.cell? ⟨g, t.length, none⟩ = some (.int .i64 y) := by
  have := World.ownsRow.cells h (g := g) rfl t.length (.int .i64 y) (by simp)
  rwa [add_zero3] at this
theorem Rn.free {w : World} {B g N cap : Nat} {l : List Int} (h : Rn B (.slice (.some ⟨g, 0, none⟩) N cap) l w) (hN : N = l.length) (m : Nat) : w.frozen? ⟨g, m, none⟩ = false := by
  subst hN
  exact World.ownsRow.frozenAt h m
theorem Rn.own {w : World} {B N : Nat} {v : Value} {l : List Int} (hN : N = l.length) (h : Rn B v l w) : w.ownsRow B 3 1 v N (l.map (Value.int .i64)) := by
  subst hN
  exact h
theorem Rn.put {w : World} {B g N cap m : Nat} {t : List Int} {y z : Int} (hN : N = t.length + 1) (hm : m = t.length) (h : Rn B (.slice (.some ⟨g, 0, none⟩) N cap) (t ++ [y]) w) :
    Rn B (.slice (.some ⟨g, 0, none⟩) N cap) (t ++ [z]) (w.setCell ⟨g, m, none⟩ (.int .i64 z)) ∧ w.grownBy (w.setCell ⟨g, m, none⟩ (.int .i64 z)) (.some g) := by
  subst hN hm
  have h2 : w.ownsRow B 3 1 (.slice (.some ⟨g, 0, none⟩) (t.length + 1) cap) (t.length + 1) ((t ++ [y]).map (Value.int .i64)) := by simpa [Rn] using h
  obtain ⟨h3, h4⟩ := h2.stored t.length (.int .i64 z)
  refine ⟨?_, h4⟩
  have e : ((t ++ [y]).map (Value.int .i64)).set t.length (.int .i64 z) = (t ++ [z]).map (Value.int .i64) := by
    rw [List.map_append, List.set_append_right _ _ (by simp)]
    simp
  rw [e] at h3
  unfold Rn
  simpa using h3
theorem own_nil (w : World) (B : Nat) (hB : B ≤ w.heap.size) : (w.alloc (.cells #[] 3)).ownsRow B 3 1 (.slice (some ⟨w.heap.size, 0, none⟩) 0 0) 0 [] :=
  ⟨rfl, .inr ⟨w.heap.size, 0, #[], rfl, hB, heap_new w _, Nat.le_refl _, Nat.zero_le _, rfl, rfl⟩⟩
theorem Rn.news {w : World} {B g N cap : Nat} {t u : List Int} (h : Rn B (.slice (.some ⟨g, 0, none⟩) N cap) (t ++ u) w) : ∀ j v, (t.map (Value.int .i64))[j]? = .some v → w.cell? ((⟨g, 0, none⟩ : Addr).add j) = .some v := fun j v hv => by
  refine World.ownsRow.cells h (g := g) rfl j v ?_
  rw [List.map_append, List.getElem?_append_left (List.getElem?_eq_some_iff.1 hv).1]
  exact hv
theorem ints_one (t : List Int) : ∀ u ∈ t.map (Value.int .i64), u.oneCell' = true := by
  intro u hu
  obtain ⟨x, _, rfl⟩ := List.mem_map.1 hu
  rfl
theorem Rn.all {w : World} {B g N cap : Nat} {t : List Int} (h : Rn B (.slice (.some ⟨g, 0, none⟩) N cap) t w) : ∀ j v, (t.map (Value.int .i64))[j]? = .some v → w.cell? ((⟨g, 0, none⟩ : Addr).add j) = .some v := fun j v hv => World.ownsRow.cells h (g := g) rfl j v hv
theorem Rn.kept {w w' : World} {B : Nat} {row : Option Nat} {v : Value} {l : List Int} (h : Rn B v l w) (hg : w.grownBy w' row) (hne : v.ownBlock ≠ row) : Rn B v l w' := World.ownsRow.kept h hg (.inr hne)
/-- What a later call made lies apart from what lay. -/
theorem apart_blocks {w : World} {B g n c : Nat} {v : Value} {l : List Int} (h : Rn B v l w) (hg : g < B) : v.ownBlock ≠ (Value.slice (some ⟨g, 0, none⟩) n c).ownBlock := by
  rcases h.2 with ⟨hv, _⟩ | ⟨g', cap, cur, hv, hB, _⟩
  · rw [hv]; simp [Value.ownBlock]
  · rw [hv]; simp [Value.ownBlock]; omega
theorem wrap_in {x : Int} (h1 : -9223372036854775808 ≤ x) (h2 : x ≤ 9223372036854775807) : IntKind.i64.wrap x = x := by
  simp [IntKind.wrap, IntKind.bits, IntKind.signed]; omega
end Go.Proofs.YtpaenieafkmmeaaGreatDoor.S17
/- The decimal digits of a number, plainly. -/
namespace Go.Proofs.YtpaenieafkmmeaaGreatDoor.S17
set_option maxRecDepth 100000
/-- A number's decimal digits. -/
def digN (n : Nat) : List Int := if _h : n < 10 then [48 + (n : Int)] else digN (n / 10) ++ [48 + ((n % 10 : Nat) : Int)]
theorem digN_small {n : Nat} (h : n < 10) : digN n = [48 + (n : Int)] := by rw [digN, dif_pos h]
theorem digN_big {n : Nat} (h : ¬ n < 10) : digN n = digN (n / 10) ++ [48 + ((n % 10 : Nat) : Int)] := by rw [digN, dif_neg h]
theorem digN_bound (n : Nat) : ∀ x ∈ digN n, 48 ≤ x ∧ x ≤ 57 := by
  induction n using Nat.strongRecOn with
  | _ n ih =>
    intro x hx
    by_cases h : n < 10
    · rw [digN_small h] at hx; simp at hx; omega
    · rw [digN_big h] at hx
      rcases List.mem_append.1 hx with h1 | h1
      · exact ih (n / 10) (by omega) x h1
      · simp at h1; omega
theorem digN_len (k : Nat) : ∀ n, n < 10 ^ (k + 1) → (digN n).length ≤ k + 1 := by
  induction k with
  | zero => intro n h; rw [digN_small (by simpa using h)]; simp
  | succ k ih =>
    intro n h
    by_cases h1 : n < 10
    · rw [digN_small h1]; simp
    · rw [digN_big h1]
      have := ih (n / 10) (by rw [Nat.pow_succ] at h; omega)
      simp; omega
end Go.Proofs.YtpaenieafkmmeaaGreatDoor.S17
/- Object identifiers, plainly: which lists are some, their order, their texts. -/
namespace Go.Proofs.YtpaenieafkmmeaaGreatDoor.S17
set_option maxRecDepth 100000
/-- The greatest number at a place. -/
def mostO (l : List Int) (i : Nat) : Int := if i = 0 then 2 else if i = 1 ∧ l.getD 0 0 ≠ 2 then 39 else 99999
def okAt (l : List Int) (i : Nat) : Bool := decide (0 ≤ l.getD i 0 ∧ l.getD i 0 ≤ mostO l i)
def okTo (l : List Int) : Nat → Bool
  | 0 => true
  | k + 1 => okTo l k && okAt l k
def okO (l : List Int) : Bool := decide (2 ≤ l.length ∧ l.length ≤ 12) && okTo l l.length
def chkO (l : List Int) : Int := if okO l then 0 else 170
theorem okTo_le (l : List Int) (n k : Nat) (h : okTo l n = true) (hk : k ≤ n) : okTo l k = true := by
  induction n with
  | zero => rw [Nat.le_zero.1 hk]; rfl
  | succ n ih =>
    simp only [okTo, Bool.and_eq_true] at h
    rcases Nat.lt_or_ge n k with h1 | h1
    · have : k = n + 1 := by omega
      rw [this]; simp only [okTo, Bool.and_eq_true]; exact h
    · exact ih h.1 h1
theorem okTo_at (l : List Int) (n k : Nat) (h : okTo l n = true) (hk : k < n) : okAt l k = true := by
  have := okTo_le l n (k + 1) h hk
  simp only [okTo, Bool.and_eq_true] at this
  exact this.2
theorem okTo_bad (l : List Int) (n k : Nat) (hk : k < n) (h : okAt l k = false) : okTo l n = false := by
  cases h2 : okTo l n
  · rfl
  · rw [okTo_at l n k h2 hk] at h; cases h
theorem okO_len {l : List Int} (h : okO l = true) : 2 ≤ l.length ∧ l.length ≤ 12 := by
  unfold okO at h
  simp only [Bool.and_eq_true, decide_eq_true_eq] at h
  exact h.1
theorem okO_at {l : List Int} (h : okO l = true) (k : Nat) (hk : k < l.length) : 0 ≤ l.getD k 0 ∧ l.getD k 0 ≤ 99999 := by
  have h1 : okTo l l.length = true := by unfold okO at h; simp only [Bool.and_eq_true] at h; exact h.2
  have h2 := okTo_at l _ k h1 hk
  unfold okAt mostO at h2
  simp only [decide_eq_true_eq] at h2
  refine ⟨h2.1, ?_⟩
  have h3 := h2.2
  split at h3
  · omega
  · split at h3 <;> omega
theorem okO_mem {l : List Int} (h : okO l = true) : ∀ x, x ∈ l → 0 ≤ x ∧ x ≤ 99999 := fun x hx => by
  obtain ⟨k, hk, rfl⟩ := List.mem_iff_getElem.1 hx
  have := okO_at h k hk
  simpa [List.getD, hk] using this

/-- The order of lists. -/
def cmpL : List Int → List Int → Int
  | [], [] => 0
  | [], _ :: _ => -1
  | _ :: _, [] => 1
  | x :: a, y :: b => if x < y then -1 else if y < x then 1 else cmpL a b
theorem cmp_vals : ∀ a b, cmpL a b = -1 ∨ cmpL a b = 0 ∨ cmpL a b = 1
  | [], [] => .inr (.inl rfl)
  | [], _ :: _ => .inl rfl
  | _ :: _, [] => .inr (.inr rfl)
  | x :: a, y :: b => by
    simp only [cmpL]
    split
    · exact .inl rfl
    · split
      · exact .inr (.inr rfl)
      · exact cmp_vals a b
theorem cmp_self : ∀ a, cmpL a a = 0
  | [] => rfl
  | x :: a => by simp only [cmpL]; rw [if_neg (by omega), if_neg (by omega)]; exact cmp_self a
theorem cmp_zero : ∀ a b, cmpL a b = 0 → a = b
  | [], [], _ => rfl
  | [], _ :: _, h => by simp [cmpL] at h
  | _ :: _, [], h => by simp [cmpL] at h
  | x :: a, y :: b, h => by
    simp only [cmpL] at h
    split at h
    · omega
    · split at h
      · omega
      · have := cmp_zero a b h
        have : x = y := by omega
        simp [*]
theorem cmp_neg : ∀ a b, cmpL b a = - cmpL a b
  | [], [] => rfl
  | [], _ :: _ => rfl
  | _ :: _, [] => rfl
  | x :: a, y :: b => by
    simp only [cmpL]
    have := cmp_neg a b
    split
    · rw [if_neg (by omega)]
    · split
      · rfl
      · exact this
theorem cmp_trans : ∀ a b c, cmpL a b ≤ 0 → cmpL b c ≤ 0 → cmpL a c ≤ 0
  | [], _, [], _, _ => by simp [cmpL]
  | [], _, _ :: _, _, _ => by simp [cmpL]
  | _ :: _, [], _, h, _ => by simp [cmpL] at h
  | _ :: _, _ :: _, [], _, h => by simp [cmpL] at h
  | x :: a, y :: b, z :: c, h1, h2 => by
    simp only [cmpL] at h1 h2 ⊢
    have := cmp_trans a b c
    split at h1 <;> split at h2 <;> (try split at h1) <;> (try split at h2) <;> (try omega) <;> split <;> (try split) <;> omega
theorem cmp_front : ∀ (t u : List Int), cmpL t (t ++ u) ≤ 0
  | [], [] => by simp [cmpL]
  | [], _ :: _ => by simp [cmpL]
  | x :: t, u => by
    simp only [List.cons_append, cmpL]
    rw [if_neg (by omega), if_neg (by omega)]
    exact cmp_front t u
theorem cmp_between : ∀ (t u b : List Int), cmpL t b ≤ 0 → cmpL b (t ++ u) ≤ 0 → ∃ v, b = t ++ v
  | [], _, b, _, _ => ⟨b, rfl⟩
  | x :: t, u, [], h, _ => by simp [cmpL] at h
  | x :: t, u, y :: b, h1, h2 => by
    simp only [List.cons_append, cmpL] at h1 h2
    have hxy : x = y := by
      split at h1
      · split at h2
        · omega
        · omega
      · split at h1
        · omega
        · omega
    subst hxy
    rw [if_neg (by omega), if_neg (by omega)] at h1 h2
    obtain ⟨v, hv⟩ := cmp_between t u b h1 h2
    exact ⟨v, by rw [hv]; rfl⟩
theorem cmp_step (a b : List Int) (k : Nat) (ha : k < a.length) (hb : k < b.length) : cmpL (a.drop k) (b.drop k) = if a.getD k 0 < b.getD k 0 then -1 else if b.getD k 0 < a.getD k 0 then 1 else cmpL (a.drop (k + 1)) (b.drop (k + 1)) := by
  rw [List.drop_eq_getElem_cons ha, List.drop_eq_getElem_cons hb]
  simp [cmpL, List.getD, ha, hb]
theorem cmp_end (a b : List Int) (k : Nat) (ha : k ≤ a.length) (hb : k ≤ b.length) (h : ¬ (k < a.length ∧ k < b.length)) : cmpL (a.drop k) (b.drop k) = if a.length < b.length then -1 else if b.length < a.length then 1 else 0 := by
  rcases Nat.lt_or_ge k a.length with h1 | h1
  · have h2 : b.drop k = [] := List.drop_eq_nil_of_le (by omega)
    rw [h2, List.drop_eq_getElem_cons h1]
    simp only [cmpL]
    rw [if_neg (by omega), if_pos (by omega)]
  · have h2 : a.drop k = [] := List.drop_eq_nil_of_le h1
    rw [h2]
    rcases Nat.lt_or_ge k b.length with h3 | h3
    · rw [List.drop_eq_getElem_cons h3]
      simp only [cmpL]
      rw [if_pos (by omega)]
    · rw [List.drop_eq_nil_of_le h3]
      simp only [cmpL]
      rw [if_neg (by omega), if_neg (by omega)]

/-- Under, and above. -/
def underO (a b : List Int) : Bool := okO a && okO b && decide (b.length ≤ a.length) && decide (cmpL (a.take b.length) b = 0)
theorem under_iff (a b : List Int) : underO a b = true ↔ okO a = true ∧ okO b = true ∧ ∃ u, a = b ++ u := by
  unfold underO
  simp only [Bool.and_eq_true, decide_eq_true_eq]
  constructor
  · rintro ⟨⟨⟨h1, h2⟩, h3⟩, h4⟩
    refine ⟨h1, h2, a.drop b.length, ?_⟩
    have := cmp_zero _ _ h4
    conv => lhs; rw [← List.take_append_drop b.length a, this]
  · rintro ⟨h1, h2, u, rfl⟩
    refine ⟨⟨⟨h1, h2⟩, by simp⟩, ?_⟩
    rw [List.take_left]
    exact cmp_self b
def aboveO (l : List Int) : List Int := if okO l = true ∧ l.length ≠ 2 then l.take (l.length - 1) else []
theorem okTo_take (l : List Int) (m : Nat) (hm : 1 ≤ m) : ∀ k, k ≤ m → m ≤ l.length → okTo (l.take m) k = okTo l k
  | 0, _, _ => rfl
  | k + 1, hk, hl => by
    have h1 : ∀ j, j < m → (l.take m).getD j 0 = l.getD j 0 := fun j hj => by simp [List.getD, hj]
    simp only [okTo]
    rw [okTo_take l m hm k (by omega) hl]
    unfold okAt mostO
    rw [h1 k (by omega), h1 0 (by omega)]
theorem above_ok (l : List Int) (h : okO l = true) (h2 : l.length ≠ 2) : okO (l.take (l.length - 1)) = true := by
  have hl := okO_len h
  have h3 : okTo l l.length = true := by unfold okO at h; simp only [Bool.and_eq_true] at h; exact h.2
  have e : (l.take (l.length - 1)).length = l.length - 1 := by simp
  unfold okO
  rw [e, okTo_take l (l.length - 1) (by omega) _ (Nat.le_refl _) (by omega), okTo_le l _ _ h3 (by omega)]
  simp
  omega
theorem above_len (l : List Int) (h : okO l = true) (h2 : l.length ≠ 2) : (aboveO l).length = l.length - 1 := by unfold aboveO; rw [if_pos ⟨h, h2⟩]; simp
theorem above_under (l : List Int) (h : okO l = true) (h2 : l.length ≠ 2) : underO l (aboveO l) = true := by
  rw [under_iff]
  unfold aboveO
  rw [if_pos ⟨h, h2⟩]
  exact ⟨h, above_ok l h h2, l.drop (l.length - 1), (List.take_append_drop _ _).symm⟩

/-- The text of an identifier. -/
def joinO : List Int → List Int
  | [] => []
  | x :: t => 46 :: (digN x.toNat ++ joinO t)
def showO : List Int → List Int
  | [] => []
  | x :: t => digN x.toNat ++ joinO t
theorem joinO_snoc : ∀ (l : List Int) (x : Int), joinO (l ++ [x]) = joinO l ++ 46 :: digN x.toNat
  | [], x => by simp [joinO]
  | y :: l, x => by simp [joinO, joinO_snoc l x]
theorem showO_snoc (l : List Int) (x : Int) (h : l ≠ []) : showO (l ++ [x]) = showO l ++ 46 :: digN x.toNat := by
  cases l with
  | nil => exact absurd rfl h
  | cons y l => simp [showO, joinO_snoc]
theorem joinO_bound : ∀ l, ∀ x ∈ joinO l, 0 ≤ x ∧ x < 256
  | [], x, h => by simp [joinO] at h
  | y :: l, x, h => by
    simp only [joinO, List.mem_cons, List.mem_append] at h
    rcases h with h | h | h
    · omega
    · have := digN_bound _ x h; omega
    · exact joinO_bound l x h
theorem showO_bound (l : List Int) : ∀ x ∈ showO l, 0 ≤ x ∧ x < 256 := fun x h => by
  cases l with
  | nil => simp [showO] at h
  | cons y l =>
    simp only [showO, List.mem_append] at h
    rcases h with h | h
    · have := digN_bound _ x h; omega
    · exact joinO_bound l x h
theorem joinO_len : ∀ (l : List Int), (∀ x, x ∈ l → 0 ≤ x ∧ x ≤ 99999) → (joinO l).length ≤ 6 * l.length
  | [], _ => by simp [joinO]
  | y :: l, h => by
    have h1 := joinO_len l fun x hx => h x (by simp [hx])
    have h2 := h y (by simp)
    have h3 := digN_len 4 y.toNat (by omega)
    simp only [joinO, List.length_cons, List.length_append]
    omega
theorem showO_len (l : List Int) (h : okO l = true) : (showO l).length ≤ 100 := by
  have h1 := okO_len h
  have h2 := okO_mem h
  cases l with
  | nil => simp [showO]
  | cons y l =>
    have h3 := joinO_len l fun x hx => h2 x (by simp [hx])
    have h4 := digN_len 4 y.toNat (by have := h2 y (by simp); omega)
    simp only [showO, List.length_append, List.length_cons] at h1 ⊢
    omega

/-- Reading on: the numbers so far, and the one at hand. -/
def goO : List Int → List Int → Int → Option (List Int × Int)
  | [], l, n => some (l, n)
  | c :: s, l, n => if c = 46 then goO s (l ++ [n]) 0 else if 48 ≤ c ∧ c ≤ 57 ∧ n ≤ 99999 then goO s l (10 * n + c - 48) else none
def finO (p : List Int × Int) : List Int := p.1 ++ [p.2]
/-- The identifier that a text is; none: the empty list. -/
def parO (s : List Int) : List Int :=
  if 100 < s.length then [] else match goO s [] 0 with
  | none => []
  | some p => if okO (finO p) = true ∧ showO (finO p) = s then finO p else []
def parE (s : List Int) : Int := if parO s = [] then 170 else 0
theorem goO_step (s q : List Int) (x : Int) (k : Nat) (h : k < s.length) : goO (s.drop k) q x = if s.getD k 0 = 46 then goO (s.drop (k + 1)) (q ++ [x]) 0 else if 48 ≤ s.getD k 0 ∧ s.getD k 0 ≤ 57 ∧ x ≤ 99999 then goO (s.drop (k + 1)) q (10 * x + s.getD k 0 - 48) else none := by
  rw [List.drop_eq_getElem_cons h]
  simp [goO, List.getD, h]
theorem parO_long {s : List Int} (h : 100 < s.length) : parO s = [] := by unfold parO; rw [if_pos h]
theorem parO_none {s : List Int} (h : goO s [] 0 = none) : parO s = [] := by unfold parO; rw [h]; simp
theorem parO_some {s q : List Int} {x : Int} (hl : ¬ 100 < s.length) (h : goO s [] 0 = some (q, x)) : parO s = if okO (q ++ [x]) = true ∧ showO (q ++ [x]) = s then q ++ [x] else [] := by unfold parO; rw [if_neg hl, h]; rfl
theorem parE_none {s : List Int} (h : parO s = []) : parE s = 170 := by unfold parE; rw [if_pos h]
theorem parE_some {s : List Int} (h : parO s ≠ []) : parE s = 0 := by unfold parE; rw [if_neg h]
theorem goO_dig (n : Nat) : ∀ (r l : List Int), n ≤ 99999 → goO (digN n ++ r) l 0 = goO r l n := by
  induction n using Nat.strongRecOn with
  | _ n ih =>
    intro r l h
    by_cases h1 : n < 10
    · rw [digN_small h1]
      simp only [List.singleton_append, goO]
      rw [if_neg (by omega), if_pos (by omega)]
      congr 1; omega
    · rw [digN_big h1, List.append_assoc, ih (n / 10) (by omega) _ _ (by omega)]
      simp only [List.singleton_append, goO]
      rw [if_neg (by omega), if_pos (by omega)]
      congr 1; omega
theorem goO_join : ∀ (t l : List Int) (n : Int), (∀ x, x ∈ t → 0 ≤ x ∧ x ≤ 99999) → (goO (joinO t) l n).map finO = some (l ++ n :: t)
  | [], l, n, _ => by simp [joinO, goO, finO]
  | x :: t, l, n, h => by
    simp only [joinO, goO, if_true]
    have hx := h x (by simp)
    rw [goO_dig x.toNat _ _ (by omega), goO_join t _ _ fun y hy => h y (by simp [hy])]
    have : ((x.toNat : Nat) : Int) = x := by omega
    simp [this]
theorem par_show (l : List Int) (h : okO l = true) : parO (showO l) = l := by
  unfold parO
  rw [if_neg (by have := showO_len l h; omega)]
  have hm := okO_mem h
  have hl := okO_len h
  cases l with
  | nil => simp at hl
  | cons y t =>
    have hy := hm y (by simp)
    have e : (goO (showO (y :: t)) [] 0).map finO = some (y :: t) := by
      simp only [showO]
      rw [goO_dig y.toNat _ _ (by omega), goO_join t _ _ fun x hx => hm x (by simp [hx])]
      have : ((y.toNat : Nat) : Int) = y := by omega
      simp [this]
    cases hg : goO (showO (y :: t)) [] 0 with
    | none => rw [hg] at e; simp at e
    | some p =>
      rw [hg] at e
      simp only [Option.map_some, Option.some.injEq] at e
      simp only [e, h, if_true, and_self]
theorem par_ok (s : List Int) (h : parO s ≠ []) : okO (parO s) = true ∧ showO (parO s) = s := by
  revert h
  unfold parO
  split
  · intro h; exact absurd rfl h
  · split
    · intro h; exact absurd rfl h
    · split
      · rename_i h; intro _; exact h
      · intro h; exact absurd rfl h
end Go.Proofs.YtpaenieafkmmeaaGreatDoor.S17
