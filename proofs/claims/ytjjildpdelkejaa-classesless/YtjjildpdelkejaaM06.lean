/- Words that all texts of this stage share: hidden facts, a span, and plain facts on worlds. -/
import Derived.WalkKit
import Derived.Below
import Derived.BigQuiet
import Derived.Deep.QuietTactic
import Derived.Shelf.SlSortCmp.QuietGrown
import Derived.Deep.AppendLies
import Derived.Laws.OwnMore
import Derived.Test.YtjjildpdelkejaaProg
import Derived.WalkSpells
import Derived.WalkLawsBesides
namespace Go.Proofs.Ytjjildpdelkejaa.S17
open Go.RowKit
open Go.Sort (grow)

theorem hide {p : Prop} (h : p) : Hid p := h
theorem unhide {p : Prop} (h : Hid p) : p := h
theorem ret_bool {a b : Bool} (h : a = b) : Ending.returned (.bool a) = .returned (.bool b) := by rw [h]
theorem ret_int {k : IntKind} {a b : Int} (h : a = b) : Ending.returned (.int k a) = .returned (.int k b) := by rw [h]
theorem cell_lt {w : World} {a : Addr} {v : Value} (h : w.cell? a = some v) : a.block < w.heap.size := by
  rcases Nat.lt_or_ge a.block w.heap.size with h' | h'
  · exact h'
  · simp [World.cell?, Array.getElem?_eq_none h'] at h
theorem below_new {w w1 : World} {o : Obj} (hb : Below (w.alloc o).heap.size (w.alloc o) w1) : Below w.heap.size w w1 :=
  ((Below.refl _ _).alloc (Nat.le_refl _) _).trans (hb.mono (by simp))

/-- A span: from, to, what it has. -/
structure Sp where
  f : Int
  t : Int
  h : Int
/-- The span that is none. -/
def sp0 : Sp := ⟨0, 0, 0⟩
/-- Are two spans, two lists of spans the same? -/
def eqS (a b : Sp) : Bool := decide (a.f = b.f ∧ a.t = b.t ∧ a.h = b.h)
def eqL : List Sp → List Sp → Bool
  | [], [] => true
  | [], _ :: _ => false
  | _ :: _, [] => false
  | a :: l, b :: m => eqS a b && eqL l m
theorem eqS_iff (a b : Sp) : eqS a b = true ↔ a = b := by
  obtain ⟨f, t, h⟩ := a
  obtain ⟨f2, t2, h2⟩ := b
  simp [eqS]
theorem eqL_iff (a b : List Sp) : eqL a b = true ↔ a = b := by
  induction a generalizing b with
  | nil => cases b <;> simp [eqL]
  | cons x a ih =>
    cases b with
    | nil => simp [eqL]
    | cons y b => simp [eqL, eqS_iff, ih]
theorem eqL_true {a b : List Sp} (h : a = b) : eqL a b = true := (eqL_iff a b).2 h
theorem eqL_false {a b : List Sp} (h : ¬ a = b) : eqL a b = false := by
  cases h2 : eqL a b
  · rfl
  · exact absurd ((eqL_iff a b).1 h2) h

/-- May a span be? -/
def mayS (s : Sp) : Bool := decide (0 ≤ s.f ∧ s.f ≤ s.t ∧ s.t ≤ 1114111)
theorem mayS_iff (s : Sp) : mayS s = true ↔ 0 ≤ s.f ∧ s.f ≤ s.t ∧ s.t ≤ 1114111 := by unfold mayS; simp
theorem mayS_not (s : Sp) : mayS s = false ↔ ¬ (0 ≤ s.f ∧ s.f ≤ s.t ∧ s.t ≤ 1114111) := by unfold mayS; rw [decide_eq_false_iff_not]

/-- Is a number in a span? -/
def inS (s : Sp) (r : Int) : Bool := decide (s.f ≤ r ∧ r ≤ s.t)
theorem inS_iff (s : Sp) (r : Int) : inS s r = true ↔ s.f ≤ r ∧ r ≤ s.t := by unfold inS; simp
theorem inS_not (s : Sp) (r : Int) : inS s r = false ↔ ¬ (s.f ≤ r ∧ r ≤ s.t) := by unfold inS; rw [decide_eq_false_iff_not]

/-- Does a span touch the one ahead, with the same? -/
def joinS (p s : Sp) : Bool := decide (s.f = p.t + 1 ∧ s.h = p.h)
theorem joinS_iff (p s : Sp) : joinS p s = true ↔ s.f = p.t + 1 ∧ s.h = p.h := by unfold joinS; simp
theorem joinS_not (p s : Sp) : joinS p s = false ↔ ¬ (s.f = p.t + 1 ∧ s.h = p.h) := by unfold joinS; rw [decide_eq_false_iff_not]

/-- May a span follow the one ahead? -/
def folS (p s : Sp) : Bool := decide (p.t < s.f) && !joinS p s

/-- A slice that holds the spans l. -/
def Tab (w : World) (v : Value) (l : List Sp) : Prop :=
  ∃ a cap, v = .slice a l.length cap ∧ (0 < l.length → ∃ b off, a = some ⟨b, off, none⟩ ∧ ∀ j, j < l.length →
    w.cell? ⟨b, off + j * 3, none⟩ = some (.int .i32 (l.getD j sp0).f) ∧ w.cell? ⟨b, off + j * 3 + 1, none⟩ = some (.int .i32 (l.getD j sp0).t) ∧ w.cell? ⟨b, off + j * 3 + 2, none⟩ = some (.int .i64 (l.getD j sp0).h))

theorem Tab.below {w w2 : World} {v : Value} {l : List Sp} (h : Tab w v l) (hb : Below w.heap.size w w2) : Tab w2 v l := by
  obtain ⟨a, cap, rfl, hc⟩ := h
  refine ⟨a, cap, rfl, fun i => ?_⟩
  obtain ⟨b, off, rfl, hcc⟩ := hc i
  refine ⟨b, off, rfl, fun j hj => ?_⟩
  obtain ⟨h1, h2, h3⟩ := hcc j hj
  exact ⟨(hb.cell (p := ⟨b, off + j * 3, none⟩) (cell_lt h1)).trans h1, (hb.cell (p := ⟨b, off + j * 3 + 1, none⟩) (cell_lt h2)).trans h2, (hb.cell (p := ⟨b, off + j * 3 + 2, none⟩) (cell_lt h3)).trans h3⟩

theorem Tab.nil (w : World) (a : Option Addr) (c : Nat) : Tab w (.slice a 0 c) [] := ⟨a, c, rfl, fun h => absurd h (Nat.lt_irrefl _)⟩
theorem below_drewN {B : Nat} {w w1 : World} (h : Below B w w1) (n : Nat) : Below B w (w1.drewN n) := ⟨h.os, h.tape, h.output, h.size, h.block⟩

/-- The world has drawn, and blocks were laid behind; all that lay lies as it lay. -/
def Gr (w w' : World) : Prop := ∃ q os, w' = grow (w.drewN q) os
theorem Gr.refl (w : World) : Gr w w := ⟨0, #[], by rw [Go.Sort.grow_empty]; rfl⟩
theorem Gr.trans {a b c : World} (h : Gr a b) (k : Gr b c) : Gr a c := by
  obtain ⟨q, os, rfl⟩ := h
  obtain ⟨q2, os2, rfl⟩ := k
  exact ⟨q + q2, os ++ os2, by show grow (grow ((a.drewN q).drewN q2) os) os2 = _; rw [Go.Sort.grow_grow, World.drewN_drewN]⟩
theorem Gr.one (w : World) (o : Obj) : Gr w (w.alloc o) := ⟨0, #[o], by rw [Go.Sort.alloc_eq_grow]; rfl⟩
theorem Gr.alloc {a b : World} (h : Gr a b) (o : Obj) : Gr a (b.alloc o) := h.trans (Gr.one b o)
theorem Gr.drewN {a b : World} (h : Gr a b) (n : Nat) : Gr a (b.drewN n) := h.trans ⟨n, #[], by rw [Go.Sort.grow_empty]⟩
theorem Gr.drew {a b : World} (h : Gr a b) : Gr a b.drew := h.drewN 1
theorem Gr.grow {a b : World} (h : Gr a b) (n : Nat) (os : Array Obj) : Gr a (Go.Sort.grow (b.drewN n) os) := h.trans ⟨n, os, rfl⟩
theorem Gr.below {a b : World} (h : Gr a b) : Below a.heap.size a b := by
  obtain ⟨q, os, rfl⟩ := h
  exact ⟨rfl, rfl, rfl, by simp [Go.Sort.grow, World.drewN], fun i hi => by
    show ((a.drewN q).heap ++ os)[i]? = _
    rw [Array.getElem?_append_left (by show i < a.heap.size; omega)]
    rfl⟩
theorem Gr.cell {a b : World} (h : Gr a b) {p : Addr} {v : Value} (hc : a.cell? p = some v) : b.cell? p = some v := (h.below.cell (p := p) (cell_lt hc)).trans hc
theorem Gr.tab {a b : World} (h : Gr a b) {v : Value} {l : List Sp} (hc : Tab a v l) : Tab b v l := hc.below h.below
theorem Gr.size {a b : World} (h : Gr a b) : a.heap.size ≤ b.heap.size := h.below.size
/-- A cell in every world that has grown. -/
theorem cell_gr {w : World} {a : Addr} {v : Value} (h : w.cell? a = some v) (n : Nat) (os : Array Obj) : (grow (w.drewN n) os).cell? a = some v := cell_grown (cell_lt h) h n os
theorem callsGr {f : FuncId} {args : Array Value} {w : World} {n : Nat} {os : Array Obj} {v : Value} {P : Program}
    (h : Calls P f args (grow (w.drewN n) os) fun e w' => e = .returned v ∧ Gr (grow (w.drewN n) os) w') : Calls P f args (grow (w.drewN n) os) fun e w'' => e = .returned v ∧ ∃ p : GrownBy, w'' = grow (w.drewN p.n) p.os :=
  Calls.grown_of h

/-- The three cells of a new box. -/
theorem box3 (w : World) (a b c : Value) (T : TypeId) : (w.alloc (.cells #[a, b, c] T)).cell? ⟨w.heap.size, 0, none⟩ = some a ∧ (w.alloc (.cells #[a, b, c] T)).cell? ⟨w.heap.size, 1, none⟩ = some b ∧ (w.alloc (.cells #[a, b, c] T)).cell? ⟨w.heap.size, 2, none⟩ = some c := by
  refine ⟨?_, ?_, ?_⟩ <;> rw [World.cell?_alloc_mark] <;> rfl
theorem box1 (w : World) (a : Value) (T : TypeId) : (w.alloc (.cells #[a] T)).cell? ⟨w.heap.size, 0, none⟩ = some a := by
  rw [World.cell?_alloc_mark]; rfl
end Go.Proofs.Ytjjildpdelkejaa.S17
/- What is the call's own, and what only grows: plain facts on worlds. -/
namespace Go.Proofs.Ytjjildpdelkejaa.S17
open Go.RowKit

theorem Gr.grown {a b : World} (h : Gr a b) (row : Option Nat) : a.grownBy b row := ⟨h.below.os, h.below.tape, h.below.output, h.size, fun i hi _ => h.below.block i hi⟩
theorem below_own {w w' : World} {B : Nat} {row : Option Nat} (h : w.grownBy w' row) (hB : B ≤ w.heap.size) (hr : ∀ g, row = some g → B ≤ g) : Below B w w' :=
  (Below.refl _ _).grown h hB hr
theorem own_block {w : World} {B e size n : Nat} {v : Value} {xs : List Value} (h : w.ownsRow B e size v n xs) : ∀ g, v.ownBlock = some g → B ≤ g := fun g hg => (h.lt g hg).1
theorem own_below {B e size n : Nat} {v : Value} {xs : List Value} {w w2 : World} (h : w.ownsRow B e size v n xs) (hb : Below w.heap.size w w2) : w2.ownsRow B e size v n xs :=
  h.kept (row := none) ⟨hb.os, hb.tape, hb.output, hb.size, fun k hk _ => hb.block k hk⟩ (by cases hv : v.ownBlock <;> simp)
theorem heap_new (w : World) (o : Obj) : (w.alloc o).heap[w.heap.size]? = some o := by
  show (w.heap.push o)[w.heap.size]? = some o
  simp
theorem add_zero3 (g j : Nat) : (⟨g, 0, none⟩ : Addr).add j = ⟨g, j, none⟩ := by unfold Addr.add; split <;> simp_all
end Go.Proofs.Ytjjildpdelkejaa.S17
/- Rows of whole numbers: handed in, or of the call's own; plain facts on worlds. -/
namespace Go.Proofs.Ytjjildpdelkejaa.S17
open Go.RowKit
open Go.Sort (grow)


/-- A slice that holds the numbers l. -/
def Row (w : World) (v : Value) (l : List Int) : Prop :=
  ∃ a cap, v = .slice a l.length cap ∧ (0 < l.length → ∃ b off, a = some ⟨b, off, none⟩ ∧ ∀ j, j < l.length → w.cell? ⟨b, off + j, none⟩ = some (.int .i64 (l.getD j 0)))
theorem Row.below {w w2 : World} {v : Value} {l : List Int} (h : Row w v l) (hb : Below w.heap.size w w2) : Row w2 v l := by
  obtain ⟨a, cap, rfl, hc⟩ := h
  refine ⟨a, cap, rfl, fun hi => ?_⟩
  obtain ⟨b, off, rfl, hcc⟩ := hc hi
  exact ⟨b, off, rfl, fun j hj => (hb.cell (p := ⟨b, off + j, none⟩) (cell_lt (hcc j hj))).trans (hcc j hj)⟩
theorem Row.nil (w : World) (a : Option Addr) (c : Nat) : Row w (.slice a 0 c) [] := ⟨a, c, rfl, fun h => absurd h (Nat.lt_irrefl _)⟩
/-- A row of numbers of the call's own. -/
def Rn (B : Nat) (v : Value) (l : List Int) (w : World) : Prop := w.ownsRow B 3 1 v l.length (l.map (Value.int .i64))
theorem Rn.nil (B : Nat) (w : World) : Rn B (.slice none 0 0) [] w := ⟨rfl, .inl ⟨rfl, rfl⟩⟩
theorem Rn.row {w : World} {B : Nat} {v : Value} {l : List Int} (h : Rn B v l w) : Row w v l := by
  rcases h.2 with ⟨hv, h0⟩ | ⟨g, cap, cur, hv, _⟩
  · exact ⟨none, 0, by rw [hv, h0], fun hi => by omega⟩
  · refine ⟨some ⟨g, 0, none⟩, cap, hv, fun hi => ⟨g, 0, rfl, fun j hj => ?_⟩⟩
    have := World.ownsRow.cells h (g := g) (by rw [hv]; rfl) j (.int .i64 (l.getD j 0)) (by simp [List.getD, hj])
    rw [add_zero3 g j] at this
    rw [Nat.zero_add]
    exact this
theorem Rn.shape {w : World} {B : Nat} {v : Value} {l : List Int} (h : Rn B v l w) : ∃ a c, v = .slice a l.length c := by
  rcases h.2 with ⟨hv, h0⟩ | ⟨g, cap, cur, hv, _⟩
  · exact ⟨none, 0, by rw [hv, h0]⟩
  · exact ⟨_, cap, hv⟩
theorem Rn.held {w : World} {B : Nat} {v : Value} {l : List Int} (h : Rn B v l w) (hl : 0 < l.length) : ∃ g c, v = .slice (some ⟨g, 0, none⟩) l.length c ∧ B ≤ g ∧ g < w.heap.size := by
  rcases h.2 with ⟨hv, h0⟩ | ⟨g, cap, cur, hv, hB, hg, _⟩
  · omega
  · exact ⟨g, cap, hv, hB, (Array.getElem?_eq_some_iff.1 hg).1⟩
theorem Rn.below {w w2 : World} {B : Nat} {v : Value} {l : List Int} (h : Rn B v l w) (hb : Below w.heap.size w w2) : Rn B v l w2 := own_below h hb
theorem Rn.base {w : World} {B C : Nat} {v : Value} {l : List Int} (h : Rn B v l w) (hc : C ≤ B) : Rn C v l w := by
  refine ⟨h.1, ?_⟩
  rcases h.2 with h' | ⟨g, cap, cur, hv, hB, rest⟩
  · exact .inl h'
  · exact .inr ⟨g, cap, cur, hv, Nat.le_trans hc hB, rest⟩
theorem elem_info : (Try.prog.info? 3).map (fun i => (i.zero, i.size, i.bytes)) = some (some (.int .i64 0), 1, 8) := by kernel_rfl
/-- A new block of numbers. -/
theorem Rn.new (w : World) (B : Nat) (zs : List Int) (cs : Array Value) (hcs : cs.toList = zs.map (Value.int .i64)) (hB : B ≤ w.heap.size) (hm : zs.length ≤ 1000) : Rn B (.slice (.some ⟨w.heap.size, 0, none⟩) zs.length zs.length) zs (w.alloc (.cells cs 3)) := by
  refine ⟨by simp, .inr ⟨w.heap.size, zs.length, cs, rfl, hB, heap_new _ _, Nat.le_refl _, by unfold maxLen; omega, ?_, ?_⟩⟩
  · rw [← Array.length_toList, hcs]; simp
  · rw [hcs]; exact List.take_of_length_le (by simp)
theorem row_new (w : World) (zs : List Int) (cs : Array Value) (T : TypeId) (hcs : cs.toList = zs.map (Value.int .i64)) : Row (w.alloc (.cells cs T)) (.slice (some ⟨w.heap.size, 0, none⟩) zs.length zs.length) zs := by
  refine ⟨_, _, rfl, fun _ => ⟨w.heap.size, 0, rfl, fun j hj => ?_⟩⟩
  rw [World.cell?_alloc_mark, Nat.zero_add]
  have : cs.toList[j]? = some (.int .i64 (zs.getD j 0)) := by rw [hcs]; simp [List.getD, hj]
  simpa using this
theorem Rn.new1 (w : World) (x : Int) : Rn w.heap.size (.slice (.some ⟨w.heap.size, 0, none⟩) 1 1) [x] (w.alloc (.cells #[.int .i64 x] 3)) := Rn.new w _ [x] _ rfl (Nat.le_refl _) (by simp)
theorem Rn.new2 (w : World) (x y : Int) : Rn w.heap.size (.slice (.some ⟨w.heap.size, 0, none⟩) 2 2) [x, y] (w.alloc (.cells #[.int .i64 x, .int .i64 y] 3)) := Rn.new w _ [x, y] _ rfl (Nat.le_refl _) (by simp)
theorem Rn.new3 (w : World) (x y z : Int) : Rn w.heap.size (.slice (.some ⟨w.heap.size, 0, none⟩) 3 3) [x, y, z] (w.alloc (.cells #[.int .i64 x, .int .i64 y, .int .i64 z] 3)) := Rn.new w _ [x, y, z] _ rfl (Nat.le_refl _) (by simp)
theorem Below.one (w : World) (o : Obj) : Below w.heap.size w (w.alloc o) := (Gr.one w o).below
theorem take_snoc (l : List Int) (k : Nat) (h : k < l.length) : l.take (k + 1) = l.take k ++ [l.getD k 0] := by
  rw [List.take_succ_eq_append_getElem h]; simp [List.getD, h]
theorem Rn.push {w1 : World} {B g1 cap1 N : Nat} {es : List Int} {z : Int} (hN : N = es.length) (h : w1.ownsRow B 3 1 (.slice (.some ⟨g1, 0, none⟩) (N + 1) cap1) (N + 1) (es.map (Value.int .i64) ++ [.int .i64 z])) : Rn B (.slice (.some ⟨g1, 0, none⟩) (N + 1) cap1) (es ++ [z]) w1 := by
  unfold Rn
  subst hN
  simpa using h
theorem Rn.last {w : World} {B g N cap : Nat} {t : List Int} {y : Int} (h : Rn B (.slice (.some ⟨g, 0, none⟩) N cap) (t ++ [y]) w) : w.cell? ⟨g, t.length, none⟩ = some (.int .i64 y) := by
  have := World.ownsRow.cells h (g := g) rfl t.length (.int .i64 y) (by simp)
  rwa [add_zero3] at this
theorem Rn.free {w : World} {B g N cap : Nat} {l : List Int} (h : Rn B (.slice (.some ⟨g, 0, none⟩) N cap) l w) (hN : N = l.length) (m : Nat) : w.frozen? ⟨g, m, none⟩ = false := by
  subst hN
  exact World.ownsRow.frozenAt h m
theorem Rn.own {w : World} {B N : Nat} {v : Value} {l : List Int} (hN : N = l.length) (h : Rn B v l w) : w.ownsRow B 3 1 v N (l.map (Value.int .i64)) := by
  subst hN
  exact h
theorem Rn.put {w : World} {B g N cap m : Nat} {t : List Int} {y z : Int} (hN : N = t.length + 1) (hm : m = t.length) (h : Rn B (.slice (.some ⟨g, 0, none⟩) N cap) (t ++ [y]) w) :
    Rn B (.slice (.some ⟨g, 0, none⟩) N cap) (t ++ [z]) (w.setCell ⟨g, m, none⟩ (.int .i64 z)) ∧ w.grownBy (w.setCell ⟨g, m, none⟩ (.int .i64 z)) (.some g) := by
  subst hN hm
  have h2 : w.ownsRow B 3 1 (.slice (.some ⟨g, 0, none⟩) (t.length + 1) cap) (t.length + 1) ((t ++ [y]).map (Value.int .i64)) := by simpa [Rn] using h
  obtain ⟨h3, h4⟩ := h2.stored t.length (.int .i64 z)
  refine ⟨?_, h4⟩
  have e : ((t ++ [y]).map (Value.int .i64)).set t.length (.int .i64 z) = (t ++ [z]).map (Value.int .i64) := by
    rw [List.map_append, List.set_append_right _ _ (by simp)]
    simp
  rw [e] at h3
  unfold Rn
  simpa using h3
theorem own_nil (w : World) (B : Nat) (hB : B ≤ w.heap.size) : (w.alloc (.cells #[] 3)).ownsRow B 3 1 (.slice (some ⟨w.heap.size, 0, none⟩) 0 0) 0 [] :=
  ⟨rfl, .inr ⟨w.heap.size, 0, #[], rfl, hB, heap_new w _, Nat.le_refl _, Nat.zero_le _, rfl, rfl⟩⟩
theorem Rn.news {w : World} {B g N cap : Nat} {t u : List Int} (h : Rn B (.slice (.some ⟨g, 0, none⟩) N cap) (t ++ u) w) : ∀ j v, (t.map (Value.int .i64))[j]? = .some v → w.cell? ((⟨g, 0, none⟩ : Addr).add j) = .some v := fun j v hv => by
  refine World.ownsRow.cells h (g := g) rfl j v ?_
  rw [List.map_append, List.getElem?_append_left (List.getElem?_eq_some_iff.1 hv).1]
  exact hv
theorem ints_one (t : List Int) : ∀ u ∈ t.map (Value.int .i64), u.oneCell' = true := by
  intro u hu
  obtain ⟨x, _, rfl⟩ := List.mem_map.1 hu
  rfl
theorem Rn.all {w : World} {B g N cap : Nat} {t : List Int} (h : Rn B (.slice (.some ⟨g, 0, none⟩) N cap) t w) : ∀ j v, (t.map (Value.int .i64))[j]? = .some v → w.cell? ((⟨g, 0, none⟩ : Addr).add j) = .some v := fun j v hv => World.ownsRow.cells h (g := g) rfl j v hv
theorem Rn.kept {w w' : World} {B : Nat} {row : Option Nat} {v : Value} {l : List Int} (h : Rn B v l w) (hg : w.grownBy w' row) (hne : v.ownBlock ≠ row) : Rn B v l w' := World.ownsRow.kept h hg (.inr hne)
/-- What a later call made lies apart from what lay. -/
theorem apart_blocks {w : World} {B g n c : Nat} {v : Value} {l : List Int} (h : Rn B v l w) (hg : g < B) : v.ownBlock ≠ (Value.slice (some ⟨g, 0, none⟩) n c).ownBlock := by
  rcases h.2 with ⟨hv, _⟩ | ⟨g', cap, cur, hv, hB, _⟩
  · rw [hv]; simp [Value.ownBlock]
  · rw [hv]; simp [Value.ownBlock]; omega
theorem wrap_in {x : Int} (h1 : -9223372036854775808 ≤ x) (h2 : x ≤ 9223372036854775807) : IntKind.i64.wrap x = x := by
  simp [IntKind.wrap, IntKind.bits, IntKind.signed]; omega
end Go.Proofs.Ytjjildpdelkejaa.S17
