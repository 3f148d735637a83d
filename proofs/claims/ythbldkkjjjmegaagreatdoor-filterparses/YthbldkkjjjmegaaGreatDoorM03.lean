/- Rows of whole numbers: handed in, or of the call's own; plain facts on worlds. -/
import Derived.Test.YthbldkkjjjmegaaGreatDoorProg
import Derived.Test.YthbldkkjjjmegaaGreatDoorM02
import Derived.WalkKit
import Derived.WalkSpells
import Derived.WalkLawsBesides
import Derived.Deep.AppendLies
import Derived.Laws.OwnMore
import Derived.Test.YthbldkkjjjmegaaGreatDoorM01
namespace Go.Proofs.YthbldkkjjjmegaaGreatDoor
set_option maxRecDepth 100000
open Go.RowKit
open Go.Sort (grow)


/-- A slice that holds the numbers l. -/
def Row (w : World) (v : Value) (l : List Int) : Prop :=
  ∃ a cap, v = .slice a l.length cap ∧ (0 < l.length → ∃ b off, a = some ⟨b, off, none⟩ ∧ ∀ j, j < l.length → w.cell? ⟨b, off + j, none⟩ = some (.int .i64 (l.getD j 0)))
theorem Row.below {w w2 : World} {v : Value} {l : List Int} (h : Row w v l) (hb : Below w.heap.size w w2) : Row w2 v l := by
  obtain ⟨a, cap, rfl, hc⟩ := h
  refine ⟨a, cap, rfl, fun hi => ?_⟩
  obtain ⟨b, off, rfl, hcc⟩ := hc hi
  exact ⟨b, off, rfl, fun j hj => (hb.cell (p := ⟨b, off + j, none⟩) (cell_lt (hcc j hj))).trans (hcc j hj)⟩
theorem Row.nil (w : World) (a : Option Addr) (c : Nat) : Row w (.slice a 0 c) [] := ⟨a, c, rfl, fun h => absurd h (Nat.lt_irrefl _)⟩
/-- A row of numbers of the call's own. -/
def Rn (B : Nat) (v : Value) (l : List Int) (w : World) : Prop := w.ownsRow B 3 1 v l.length (l.map (Value.int .i64))
theorem Rn.nil (B : Nat) (w : World) : Rn B (.slice none 0 0) [] w := ⟨rfl, .inl ⟨rfl, rfl⟩⟩
theorem Rn.row {w : World} {B : Nat} {v : Value} {l : List Int} (h : Rn B v l w) : Row w v l := by
  rcases h.2 with ⟨hv, h0⟩ | ⟨g, cap, cur, hv, _⟩
  · exact ⟨none, 0, by rw [hv, h0], fun hi => by omega⟩
  · refine ⟨some ⟨g, 0, none⟩, cap, hv, fun hi => ⟨g, 0, rfl, fun j hj => ?_⟩⟩
    have := World.ownsRow.cells h (g := g) (by rw [hv]; rfl) j (.int .i64 (l.getD j 0)) (by simp [List.getD, hj])
    rw [add_zero3 g j] at this
    rw [Nat.zero_add]
    exact this
theorem Rn.shape {w : World} {B : Nat} {v : Value} {l : List Int} (h : Rn B v l w) : ∃ a c, v = .slice a l.length c := by
  rcases h.2 with ⟨hv, h0⟩ | ⟨g, cap, cur, hv, _⟩
  · exact ⟨none, 0, by rw [hv, h0]⟩
  · exact ⟨_, cap, hv⟩
theorem Rn.held {w : World} {B : Nat} {v : Value} {l : List Int} (h : Rn B v l w) (hl : 0 < l.length) : ∃ g c, v = .slice (some ⟨g, 0, none⟩) l.length c ∧ B ≤ g ∧ g < w.heap.size := by
  rcases h.2 with ⟨hv, h0⟩ | ⟨g, cap, cur, hv, hB, hg, _⟩
  · omega
  · exact ⟨g, cap, hv, hB, (Array.getElem?_eq_some_iff.1 hg).1⟩
theorem Rn.below {w w2 : World} {B : Nat} {v : Value} {l : List Int} (h : Rn B v l w) (hb : Below w.heap.size w w2) : Rn B v l w2 := own_below h hb
theorem Rn.base {w : World} {B C : Nat} {v : Value} {l : List Int} (h : Rn B v l w) (hc : C ≤ B) : Rn C v l w := by
  refine ⟨h.1, ?_⟩
  rcases h.2 with h' | ⟨g, cap, cur, hv, hB, rest⟩
  · exact .inl h'
  · exact .inr ⟨g, cap, cur, hv, Nat.le_trans hc hB, rest⟩
theorem elem_info : (Tryz.prog.info? 3).map (fun i => (i.zero, i.size, i.bytes)) = some (some (.int .i64 0), 1, 8) := by kernel_rfl
/-- A new block of numbers. -/
theorem Rn.new (w : World) (B : Nat) (zs : List Int) (cs : Array Value) (hcs : cs.toList = zs.map (Value.int .i64)) (hB : B ≤ w.heap.size) (hm : zs.length ≤ 1000) : Rn B (.slice (.some ⟨w.heap.size, 0, none⟩) zs.length zs.length) zs (w.alloc (.cells cs 3)) := by
  refine ⟨by simp, .inr ⟨w.heap.size, zs.length, cs, rfl, hB, heap_new _ _, Nat.le_refl _, by unfold maxLen; omega, ?_, ?_⟩⟩
  · rw [← Array.length_toList, hcs]; simp
  · rw [hcs]; exact List.take_of_length_le (by simp)
theorem row_new (w : World) (zs : List Int) (cs : Array Value) (T : TypeId) (hcs : cs.toList = zs.map (Value.int .i64)) : Row (w.alloc (.cells cs T)) (.slice (some ⟨w.heap.size, 0, none⟩) zs.length zs.length) zs := by
  refine ⟨_, _, rfl, fun _ => ⟨w.heap.size, 0, rfl, fun j hj => ?_⟩⟩
  rw [World.cell?_alloc_mark, Nat.zero_add]
  have : cs.toList[j]? = some (.int .i64 (zs.getD j 0)) := by rw [hcs]; simp [List.getD, hj]
  simpa using this
theorem Rn.new1 (w : World) (x : Int) : Rn w.heap.size (.slice (.some ⟨w.heap.size, 0, none⟩) 1 1) [x] (w.alloc (.cells #[.int .i64 x] 3)) := Rn.new w _ [x] _ rfl (Nat.le_refl _) (by simp)
theorem Rn.new2 (w : World) (x y : Int) : Rn w.heap.size (.slice (.some ⟨w.heap.size, 0, none⟩) 2 2) [x, y] (w.alloc (.cells #[.int .i64 x, .int .i64 y] 3)) := Rn.new w _ [x, y] _ rfl (Nat.le_refl _) (by simp)
theorem Rn.new3 (w : World) (x y z : Int) : Rn w.heap.size (.slice (.some ⟨w.heap.size, 0, none⟩) 3 3) [x, y, z] (w.alloc (.cells #[.int .i64 x, .int .i64 y, .int .i64 z] 3)) := Rn.new w _ [x, y, z] _ rfl (Nat.le_refl _) (by simp)
theorem Below.one (w : World) (o : Obj) : Below w.heap.size w (w.alloc o) := (Gr.one w o).below
theorem take_snoc (l : List Int) (k : Nat) (h : k < l.length) : l.take (k + 1) = l.take k ++ [l.getD k 0] := by
  rw [List.take_succ_eq_append_getElem h]; simp [List.getD, h]
theorem Rn.push {w1 : World} {B g1 cap1 N : Nat} {es : List Int} {z : Int} (hN : N = es.length) (h : w1.ownsRow B 3 1 (.slice (.some ⟨g1, 0, none⟩) (N + 1) cap1) (N + 1) (es.map (Value.int .i64) ++ [.int .i64 z])) : Rn B (.slice (.some ⟨g1, 0, none⟩) (N + 1) cap1) (es ++ [z]) w1 := by
  unfold Rn
  subst hN
  simpa using h
theorem Rn.last {w : World} {B g N cap : Nat} {t : List Int} {y : Int} (h : Rn B (.slice (.some ⟨g, 0, none⟩) N cap) (t ++ [y]) w) : w.cell? ⟨g, t.length, none⟩ = some (.int .i64 y) := by
  have := World.ownsRow.cells h (g := g) rfl t.length (.int .i64 y) (by simp)
  rwa [add_zero3] at this
theorem Rn.free {w : World} {B g N cap : Nat} {l : List Int} (h : Rn B (.slice (.some ⟨g, 0, none⟩) N cap) l w) (hN : N = l.length) (m : Nat) : w.frozen? ⟨g, m, none⟩ = false := by
  subst hN
  exact World.ownsRow.frozenAt h m
theorem Rn.own {w : World} {B N : Nat} {v : Value} {l : List Int} (hN : N = l.length) (h : Rn B v l w) : w.ownsRow B 3 1 v N (l.map (Value.int .i64)) := by
  subst hN
  exact h
theorem Rn.put {w : World} {B g N cap m : Nat} {t : List Int} {y z : Int} (hN : N = t.length + 1) (hm : m = t.length) (h : Rn B (.slice (.some ⟨g, 0, none⟩) N cap) (t ++ [y]) w) :
    Rn B (.slice (.some ⟨g, 0, none⟩) N cap) (t ++ [z]) (w.setCell ⟨g, m, none⟩ (.int .i64 z)) ∧ w.grownBy (w.setCell ⟨g, m, none⟩ (.int .i64 z)) (.some g) := by
  subst hN hm
  have h2 : w.ownsRow B 3 1 (.slice (.some ⟨g, 0, none⟩) (t.length + 1) cap) (t.length + 1) ((t ++ [y]).map (Value.int .i64)) := by simpa [Rn] using h
  obtain ⟨h3, h4⟩ := h2.stored t.length (.int .i64 z)
  refine ⟨?_, h4⟩
  have e : ((t ++ [y]).map (Value.int .i64)).set t.length (.int .i64 z) = (t ++ [z]).map (Value.int .i64) := by
    rw [List.map_append, List.set_append_right _ _ (by simp)]
    simp
  rw [e] at h3
  unfold Rn
  simpa using h3
theorem own_nil (w : World) (B : Nat) (hB : B ≤ w.heap.size) : (w.alloc (.cells #[] 3)).ownsRow B 3 1 (.slice (some ⟨w.heap.size, 0, none⟩) 0 0) 0 [] :=
  ⟨rfl, .inr ⟨w.heap.size, 0, #[], rfl, hB, heap_new w _, Nat.le_refl _, Nat.zero_le _, rfl, rfl⟩⟩
theorem Rn.news {w : World} {B g N cap : Nat} {t u : List Int} (h : Rn B (.slice (.some ⟨g, 0, none⟩) N cap) (t ++ u) w) : ∀ j v, (t.map (Value.int .i64))[j]? = .some v → w.cell? ((⟨g, 0, none⟩ : Addr).add j) = .some v := fun j v hv => by
  refine World.ownsRow.cells h (g := g) rfl j v ?_
  rw [List.map_append, List.getElem?_append_left (List.getElem?_eq_some_iff.1 hv).1]
  exact hv
theorem ints_one (t : List Int) : ∀ u ∈ t.map (Value.int .i64), u.oneCell' = true := by
  intro u hu
  obtain ⟨x, _, rfl⟩ := List.mem_map.1 hu
  rfl
theorem Rn.all {w : World} {B g N cap : Nat} {t : List Int} (h : Rn B (.slice (.some ⟨g, 0, none⟩) N cap) t w) : ∀ j v, (t.map (Value.int .i64))[j]? = .some v → w.cell? ((⟨g, 0, none⟩ : Addr).add j) = .some v := fun j v hv => World.ownsRow.cells h (g := g) rfl j v hv
theorem Rn.kept {w w' : World} {B : Nat} {row : Option Nat} {v : Value} {l : List Int} (h : Rn B v l w) (hg : w.grownBy w' row) (hne : v.ownBlock ≠ row) : Rn B v l w' := World.ownsRow.kept h hg (.inr hne)
/-- What a later call made lies apart from what lay. -/
theorem apart_blocks {w : World} {B g n c : Nat} {v : Value} {l : List Int} (h : Rn B v l w) (hg : g < B) : v.ownBlock ≠ (Value.slice (some ⟨g, 0, none⟩) n c).ownBlock := by
  rcases h.2 with ⟨hv, _⟩ | ⟨g', cap, cur, hv, hB, _⟩
  · rw [hv]; simp [Value.ownBlock]
  · rw [hv]; simp [Value.ownBlock]; omega
theorem wrap_in {x : Int} (h1 : -9223372036854775808 ≤ x) (h2 : x ≤ 9223372036854775807) : IntKind.i64.wrap x = x := by
  simp [IntKind.wrap, IntKind.bits, IntKind.signed]; omega
end Go.Proofs.YthbldkkjjjmegaaGreatDoor
/- Filters, plainly, and in memory. (By gen_fl.py.) -/
namespace Go.Proofs.YthbldkkjjjmegaaGreatDoor
set_option maxRecDepth 100000
open Go.RowKit

/-- A filter: kind, name, value; pieces (initial, any, final, has initial, has final); rule, dn; kids. -/
structure Fl where
  kin : Int
  nam : ByteArray
  val : ByteArray
  ini : ByteArray
  any : List ByteArray
  fin : ByteArray
  hi : Bool
  hf : Bool
  rul : ByteArray
  dn : Bool
  kids : List Fl
/-- The filter that is none. -/
def fl0 : Fl := .mk 0 ⟨#[]⟩ ⟨#[]⟩ ⟨#[]⟩ [] ⟨#[]⟩ false false ⟨#[]⟩ false []
theorem Fl.ind {P : Fl → Prop} (h : ∀ k n v i a f hi hf r d kids, (∀ e, e ∈ kids → P e) → P (.mk k n v i a f hi hf r d kids)) : ∀ e, P e
  | .mk k n v i a f hi hf r d kids => h k n v i a f hi hf r d kids (L kids)
  where
  L : ∀ (l : List Fl) e, e ∈ l → P e
  | [], _, he => absurd he (by simp)
  | a :: l, e, he => (List.mem_cons.1 he).elim (fun h0 => h0 ▸ Fl.ind h a) (fun h1 => L l e h1)
/-- Texts in memory. -/
def TxC (w : World) (ad : Option Addr) (l : List ByteArray) : Prop := l.length ≤ 9223372036854775807 ∧ (l.length = 0 ∨ ∃ g off, ad = some ⟨g, off, none⟩ ∧ ∀ j, j < l.length → w.cell? ⟨g, off + j, none⟩ = some (.string (l.getD j ⟨#[]⟩)))
theorem TxC.below {w w2 : World} {ad : Option Addr} {l : List ByteArray} (h : TxC w ad l) (hb : Below w.heap.size w w2) : TxC w2 ad l := by
  obtain ⟨hn, hc⟩ := h
  refine ⟨hn, ?_⟩
  rcases hc with h0 | ⟨g, off, ha, hl⟩
  · exact .inl h0
  · exact .inr ⟨g, off, ha, fun j hj => (hb.cell (p := ⟨g, off + j, none⟩) (cell_lt (hl j hj))).trans (hl j hj)⟩
/-- The value of a filter's own words, with what stands for its texts and kids. -/
abbrev vFl (k : Int) (n v i : ByteArray) (a1 : Option Addr) (m1 c1 : Nat) (f : ByteArray) (hi hf : Bool) (r : ByteArray) (d : Bool) (a2 : Option Addr) (m2 c2 : Nat) : Value :=
  .agg #[.int .i64 k, .string n, .string v, .string i, .slice a1 m1 c1, .string f, .bool hi, .bool hf, .string r, .bool d, .slice a2 m2 c2]
abbrev cFl (k : Int) (n v i : ByteArray) (a1 : Option Addr) (m1 c1 : Nat) (f : ByteArray) (hi hf : Bool) (r : ByteArray) (d : Bool) (a2 : Option Addr) (m2 c2 : Nat) : Array Value :=
  #[.int .i64 k, .string n, .string v, .string i, .slice a1 m1 c1, .string f, .bool hi, .bool hf, .string r, .bool d, .slice a2 m2 c2]
/-- A value that is a filter (L: filters in memory, from a place on). -/
def FlV (w : World) : Fl → Value → Prop
  | .mk k n v i a f hi hf r d kids, x => ∃ a1 c1 a2 c2, x = vFl k n v i a1 a.length c1 f hi hf r d a2 kids.length c2 ∧ TxC w a1 a ∧ kids.length ≤ 9223372036854775807 ∧ (kids.length = 0 ∨ ∃ g off, a2 = some ⟨g, off, none⟩ ∧ L kids g off)
  where
  L : List Fl → Nat → Nat → Prop
  | [], _, _ => True
  | e :: t, g, off => (∃ a0 a1 a2 a3 a4 a5 a6 a7 a8 a9 a10, w.cell? ⟨g, off, none⟩ = some a0 ∧ w.cell? ⟨g, off + 1, none⟩ = some a1 ∧ w.cell? ⟨g, off + 2, none⟩ = some a2 ∧ w.cell? ⟨g, off + 3, none⟩ = some a3 ∧ w.cell? ⟨g, off + 4, none⟩ = some a4 ∧ w.cell? ⟨g, off + 5, none⟩ = some a5 ∧ w.cell? ⟨g, off + 6, none⟩ = some a6 ∧ w.cell? ⟨g, off + 7, none⟩ = some a7 ∧ w.cell? ⟨g, off + 8, none⟩ = some a8 ∧ w.cell? ⟨g, off + 9, none⟩ = some a9 ∧ w.cell? ⟨g, off + 10, none⟩ = some a10 ∧ FlV w e (.agg #[a0, a1, a2, a3, a4, a5, a6, a7, a8, a9, a10])) ∧ L t g (off + 11)
/-- A slice of filters. -/
def FlsV (w : World) (v : Value) (l : List Fl) : Prop := ∃ ad cap, v = .slice ad l.length cap ∧ l.length ≤ 9223372036854775807 ∧ (l.length = 0 ∨ ∃ g off, ad = some ⟨g, off, none⟩ ∧ FlV.L w l g off)
theorem FlV.L.get {w : World} : ∀ {l : List Fl} {g off : Nat}, FlV.L w l g off → ∀ i, i < l.length → ∃ a0 a1 a2 a3 a4 a5 a6 a7 a8 a9 a10, w.cell? ⟨g, off + i * 11, none⟩ = some a0 ∧ w.cell? ⟨g, off + i * 11 + 1, none⟩ = some a1 ∧ w.cell? ⟨g, off + i * 11 + 2, none⟩ = some a2 ∧ w.cell? ⟨g, off + i * 11 + 3, none⟩ = some a3 ∧ w.cell? ⟨g, off + i * 11 + 4, none⟩ = some a4 ∧ w.cell? ⟨g, off + i * 11 + 5, none⟩ = some a5 ∧ w.cell? ⟨g, off + i * 11 + 6, none⟩ = some a6 ∧ w.cell? ⟨g, off + i * 11 + 7, none⟩ = some a7 ∧ w.cell? ⟨g, off + i * 11 + 8, none⟩ = some a8 ∧ w.cell? ⟨g, off + i * 11 + 9, none⟩ = some a9 ∧ w.cell? ⟨g, off + i * 11 + 10, none⟩ = some a10 ∧ FlV w (l.getD i fl0) (.agg #[a0, a1, a2, a3, a4, a5, a6, a7, a8, a9, a10])
  | [], _, _, _, i, hi => by simp at hi
  | e :: t, g, off, h, 0, _ => by
    simp only [FlV.L] at h
    simpa using h.1
  | e :: t, g, off, h, i + 1, hi => by
    simp only [FlV.L] at h
    have := FlV.L.get h.2 i (by simpa using hi)
    rw [show off + 11 + i * 11 = off + (i + 1) * 11 by omega] at this
    simpa using this
/-- A filter's value, laid open. -/
theorem FlV.open {w : World} {e : Fl} {x : Value} (h : FlV w e x) : ∃ a1 c1 a2 c2, x = vFl e.kin e.nam e.val e.ini a1 e.any.length c1 e.fin e.hi e.hf e.rul e.dn a2 e.kids.length c2 ∧ TxC w a1 e.any ∧ e.kids.length ≤ 9223372036854775807 ∧ (e.kids.length = 0 ∨ ∃ g off, a2 = some ⟨g, off, none⟩ ∧ FlV.L w e.kids g off) := by
  cases e with
  | mk k n v i a f hi hf r d kids => simp only [FlV] at h; exact h
theorem FlV.below {w w2 : World} (hb : Below w.heap.size w w2) : ∀ (e : Fl) (x : Value), FlV w e x → FlV w2 e x
  | .mk k n v i a f hi hf r d kids, x, h => by
    simp only [FlV] at h ⊢
    obtain ⟨a1, c1, a2, c2, hv, ht, hn, hc⟩ := h
    refine ⟨a1, c1, a2, c2, hv, ht.below hb, hn, ?_⟩
    rcases hc with h0 | ⟨g, off, ha, hl⟩
    · exact .inl h0
    · exact .inr ⟨g, off, ha, L kids g off hl⟩
  where
  L : ∀ (l : List Fl) (g off : Nat), FlV.L w l g off → FlV.L w2 l g off
  | [], _, _, _ => by simp only [FlV.L]
  | e :: t, g, off, h => by
    simp only [FlV.L] at h ⊢
    obtain ⟨⟨a0, a1, a2, a3, a4, a5, a6, a7, a8, a9, a10, h0, h1, h2, h3, h4, h5, h6, h7, h8, h9, h10, hv⟩, ht⟩ := h
    exact ⟨⟨a0, a1, a2, a3, a4, a5, a6, a7, a8, a9, a10, (hb.cell (cell_lt h0)).trans h0, (hb.cell (cell_lt h1)).trans h1, (hb.cell (cell_lt h2)).trans h2, (hb.cell (cell_lt h3)).trans h3, (hb.cell (cell_lt h4)).trans h4, (hb.cell (cell_lt h5)).trans h5, (hb.cell (cell_lt h6)).trans h6, (hb.cell (cell_lt h7)).trans h7, (hb.cell (cell_lt h8)).trans h8, (hb.cell (cell_lt h9)).trans h9, (hb.cell (cell_lt h10)).trans h10, FlV.below hb e _ hv⟩, L t g (off + 11) ht⟩
theorem FlV.L.below {w w2 : World} (hb : Below w.heap.size w w2) (l : List Fl) (g off : Nat) (h : FlV.L w l g off) : FlV.L w2 l g off := FlV.below.L hb l g off h
theorem FlsV.below {w w2 : World} {v : Value} {l : List Fl} (h : FlsV w v l) (hb : Below w.heap.size w w2) : FlsV w2 v l := by
  obtain ⟨ad, cap, hv, hn, hc⟩ := h
  refine ⟨ad, cap, hv, hn, ?_⟩
  rcases hc with h0 | ⟨g, off, ha, hl⟩
  · exact .inl h0
  · exact .inr ⟨g, off, ha, FlV.L.below hb l g off hl⟩
theorem FlV.grow {w w2 : World} {e : Fl} {v : Value} (h : FlV w e v) (hb : Below w.heap.size w w2) : FlV w2 e v := FlV.below hb e v h
/-- The eleven cells of a box, in every world that has grown. -/
theorem box11 {w w2 : World} {a0 a1 a2 a3 a4 a5 a6 a7 a8 a9 a10 : Value} {T : TypeId} (h : Gr (w.alloc (.cells #[a0, a1, a2, a3, a4, a5, a6, a7, a8, a9, a10] T)) w2) : w2.cell? ⟨w.heap.size, 0, none⟩ = some a0 ∧ w2.cell? ⟨w.heap.size, 1, none⟩ = some a1 ∧ w2.cell? ⟨w.heap.size, 2, none⟩ = some a2 ∧ w2.cell? ⟨w.heap.size, 3, none⟩ = some a3 ∧ w2.cell? ⟨w.heap.size, 4, none⟩ = some a4 ∧ w2.cell? ⟨w.heap.size, 5, none⟩ = some a5 ∧ w2.cell? ⟨w.heap.size, 6, none⟩ = some a6 ∧ w2.cell? ⟨w.heap.size, 7, none⟩ = some a7 ∧ w2.cell? ⟨w.heap.size, 8, none⟩ = some a8 ∧ w2.cell? ⟨w.heap.size, 9, none⟩ = some a9 ∧ w2.cell? ⟨w.heap.size, 10, none⟩ = some a10 := by
  refine ⟨h.cell ?_, h.cell ?_, h.cell ?_, h.cell ?_, h.cell ?_, h.cell ?_, h.cell ?_, h.cell ?_, h.cell ?_, h.cell ?_, h.cell ?_⟩ <;> rw [World.cell?_alloc_mark] <;> rfl
theorem getD_memF (l : List Fl) (i : Nat) (h : i < l.length) : l.getD i fl0 ∈ l := by
  rw [List.getD, List.getElem?_eq_getElem h]
  exact List.getElem_mem h
theorem drop_consF (l : List Fl) (i : Nat) (h : i < l.length) : l.drop i = l.getD i fl0 :: l.drop (i + 1) := by
  rw [List.drop_eq_getElem_cons h]
  simp [List.getD, h]
/-- How deep, but at most so deep. -/
def deepF : Fl → Nat → Nat
  | .mk _ _ _ _ _ _ _ _ _ _ kids, k => (if 1 < k then L kids (k - 1) else 0) + 1
  where
  L : List Fl → Nat → Nat
  | [], _ => 0
  | e :: t, k => max (deepF e k) (L t k)
/-- How many parts, at most 61. -/
def cntF : Fl → Nat
  | .mk _ _ _ _ _ _ _ _ _ _ kids => min 61 (L kids 1)
  where
  L : List Fl → Nat → Nat
  | [], n => n
  | e :: t, n => if n < 61 then L t (n + cntF e) else n
/-- How many are left of so many. -/
def fewF : Fl → Int → Int
  | .mk _ n v i a f _ _ r _ kids, k => if 3000 < n.size + v.size + r.size + i.size + f.size ∨ 10 < a.length ∨ (∃ s ∈ a, 1000 < s.size) then -1 else L kids (k - 1)
  where
  L : List Fl → Int → Int
  | [], k => k
  | e :: t, k => if 0 ≤ k then L t (fewF e k) else k
/-- Are two the same? -/
def sameF : Fl → Fl → Bool
  | .mk k n v i a f hi hf r d kids, .mk k' n' v' i' a' f' hi' hf' r' d' kids' => decide (k = k' ∧ n = n' ∧ v = v' ∧ r = r' ∧ d = d' ∧ (i = i' ∧ a = a' ∧ f = f' ∧ hi = hi' ∧ hf = hf')) && L kids kids'
  where
  L : List Fl → List Fl → Bool
  | [], [] => true
  | [], _ :: _ => false
  | _ :: _, [] => false
  | a :: t, b :: u => sameF a b && L t u
theorem sameF_iff : ∀ (a b : Fl), sameF a b = true ↔ a = b
  | .mk k n v i a f hi hf r d kids, .mk k' n' v' i' a' f' hi' hf' r' d' kids' => by
    simp only [sameF, Bool.and_eq_true, decide_eq_true_eq, Fl.mk.injEq, L kids kids']
    constructor
    · rintro ⟨⟨h1, h2, h3, h4, h5, h6, h7, h8, h9, h10⟩, h11⟩
      exact ⟨h1, h2, h3, h6, h7, h8, h9, h10, h4, h5, h11⟩
    · rintro ⟨h1, h2, h3, h6, h7, h8, h9, h10, h4, h5, h11⟩
      exact ⟨⟨h1, h2, h3, h4, h5, h6, h7, h8, h9, h10⟩, h11⟩
  where
  L : ∀ (l m : List Fl), sameF.L l m = true ↔ l = m
  | [], [] => by simp [sameF.L]
  | [], _ :: _ => by simp [sameF.L]
  | _ :: _, [] => by simp [sameF.L]
  | a :: t, b :: u => by simp only [sameF.L, Bool.and_eq_true, List.cons.injEq, sameF_iff a b, L t u]
theorem deepF_le : ∀ (e : Fl) (k : Nat), 1 ≤ k → deepF e k ≤ k := fun e => by
  induction e using Fl.ind with
  | h c n v i a f hi hf r d kids ih =>
    intro k hk
    simp only [deepF]
    split
    · have : ∀ l : List Fl, (∀ e, e ∈ l → e ∈ kids) → deepF.L l (k - 1) ≤ k - 1 := fun l => by
        induction l with
        | nil => intro _; simp [deepF.L]
        | cons a t iht =>
          intro hl
          simp only [deepF.L]
          have h1 := ih a (hl a (by simp)) (k - 1) (by omega)
          have h2 := iht fun e he => hl e (by simp [he])
          omega
      have := this kids fun _ h => h
      omega
    · omega
theorem cntF_le (e : Fl) : cntF e ≤ 61 := by
  cases e with
  | mk => simp only [cntF]; omega
end Go.Proofs.YthbldkkjjjmegaaGreatDoor
/- The document's deep, Deep, count, Count of layer 24. (By gen_dc.py.) -/
namespace Go.Proofs.YthbldkkjjjmegaaGreatDoor
set_option maxRecDepth 100000
open Go.RowKit

set_option maxHeartbeats 1600000 in
theorem rdeep_any (e : Fl) : ∀ (k : Nat) (x : Value) (w : World), FlV w e x → 1 ≤ k → k ≤ 1000 → Calls Tryz.prog 24 #[x, .int .i64 k] w fun r w' => r = .returned (.int .i64 (deepF e k)) ∧ Gr w w' := by
  induction e using Fl.ind with
  | h c n v i a f hi hf r d kids ih =>
    intro k x w hV hk1 hk2
    simp only [FlV] at hV
    obtain ⟨a1, c1, a2, c2, rfl, _, hn, hc⟩ := hV
    have HIH := hide ih
    have HD : Hid (deepF (.mk c n v i a f hi hf r d kids) k = (if 1 < k then deepF.L kids (k - 1) else 0) + 1) := by show _ = _; simp only [deepF]
    clear ih
    by_cases hz : kids.length = 0 ∨ k = 1
    · have HE : Hid (deepF (.mk c n v i a f hi hf r d kids) k = 1) := by
        show _ = _
        rw [unhide HD]
        rcases hz with h0 | h0
        · rw [List.eq_nil_of_length_eq_zero h0]; simp [deepF.L]
        · rw [if_neg (by omega)]
      clear HD hc
      by_cases h0 : kids.length = 0
      · rw [h0]
        go_enter Tryz.func24, Tryz.ntmps24
        go_wp2
        refine wp_loop_rounds 1 ?_
        rw [rounds_succ]
        go_wp2
        go_ret
        exact ⟨ret_int (by rw [unhide HE]; rfl), Gr.one w _⟩
      · have k1 : k = 1 := by omega
        subst k1
        have z1 : (0 : Int) < (kids.length : Int) := by omega
        go_enter Tryz.func24, Tryz.ntmps24
        go_wp2
        refine wp_loop_rounds 1 ?_
        rw [rounds_succ]
        go_wp2
        go_ret
        exact ⟨ret_int (by rw [unhide HE]; rfl), Gr.one w _⟩
    · have h0 : ¬ kids.length = 0 := fun h => hz (.inl h)
      have hk : 1 < k := by omega
      obtain ⟨g, off, rfl, hl⟩ := hc.resolve_left h0
      have HL := hide hl
      have zk : (1 : Int) < (k : Int) := by omega
      have wk : IntKind.i64.wrap ((k : Int) - 1) = ((k - 1 : Nat) : Int) := (wrap_in (by omega) (by omega)).trans (by omega)
      clear hl hz hc
      go_enter Tryz.func24, Tryz.ntmps24
      go_wp2
      go_loopw [5, 6] (fun vb vj wr => ∃ (j b : Nat), j ≤ kids.length ∧ vj = .int .i64 (j : Int) ∧ vb = .int .i64 (b : Int) ∧ b ≤ k - 1 ∧ Hid (deepF.L kids (k - 1) = max b (deepF.L (kids.drop j) (k - 1))) ∧ Gr (w.alloc (.cells (cFl c n v i a1 a.length c1 f hi hf r d (some ⟨g, off, none⟩) kids.length c2) 27)) wr) (fun _ j _ => kids.length - (intOf j).toNat)
      case atStart => exact ⟨0, 0, Nat.zero_le _, rfl, rfl, Nat.zero_le _, (by show _ = _; simp), Gr.refl _⟩
      case round =>
        obtain ⟨j, b, hj, rfl, rfl, hb, HB, hnx⟩ := hrel
        obtain ⟨b0, b1, b2, b3, b4, b5, b6, b7, b8, b9, b10⟩ := box11 hnx
        by_cases hlt : j < kids.length
        · have hzl : (j : Int) < (kids.length : Int) := by omega
          have hz0 : (0 : Int) ≤ (j : Int) := by omega
          have gw := (Gr.one w _).trans hnx
          obtain ⟨x0, x1, x2, x3, x4, x5, x6, x7, x8, x9, x10, q0, q1, q2, q3, q4, q5, q6, q7, q8, q9, q10, hv⟩ := (unhide HL).get j hlt
          have p0 := gw.cell q0
          have p1 := gw.cell q1
          have p2 := gw.cell q2
          have p3 := gw.cell q3
          have p4 := gw.cell q4
          have p5 := gw.cell q5
          have p6 := gw.cell q6
          have p7 := gw.cell q7
          have p8 := gw.cell q8
          have p9 := gw.cell q9
          have p10 := gw.cell q10
          have CI := unhide HIH _ (getD_memF kids j hlt) (k - 1) _ wr (hv.grow gw.below) (by omega) (by omega)
          have hdl := deepF_le (kids.getD j fl0) (k - 1) (by omega)
          have HS : Hid (deepF.L (kids.drop j) (k - 1) = max (deepF (kids.getD j fl0) (k - 1)) (deepF.L (kids.drop (j + 1)) (k - 1))) := by show _ = _; rw [drop_consF kids j hlt]; simp only [deepF.L]
          clear q0 q1 q2 q3 q4 q5 q6 q7 q8 q9 q10 hv
          generalize deepF (kids.getD j fl0) (k - 1) = dd at *
          generalize ((k - 1 : Nat) : Int) = kk at *
          by_cases hd : b < dd
          · have hdz : (b : Int) < (dd : Int) := by omega
            go_wp2_with (go_at_call 24; refine CI.mono ?_; rintro e w2 ⟨rfl, g2⟩)
            go_roundw
            case rel => exact ⟨j + 1, dd, by omega, by go_num, rfl, hdl, (by show _ = _; rw [unhide HB, unhide HS]; omega), hnx.trans g2⟩
            case measure => simp [intOf]; omega
          · have hdz : ¬ (b : Int) < (dd : Int) := by omega
            go_wp2_with (go_at_call 24; refine CI.mono ?_; rintro e w2 ⟨rfl, g2⟩)
            go_roundw
            case rel => exact ⟨j + 1, b, by omega, by go_num, rfl, hb, (by show _ = _; rw [unhide HB, unhide HS]; omega), hnx.trans g2⟩
            case measure => simp [intOf]; omega
        · have hzl : ¬ (j : Int) < (kids.length : Int) := by omega
          have wb : IntKind.i64.wrap ((b : Int) + 1) = (b : Int) + 1 := wrap_in (by omega) (by omega)
          have HE : Hid (deepF.L kids (k - 1) = b) := by
            show _ = _
            rw [unhide HB, List.drop_eq_nil_of_le (by omega)]
            simp [deepF.L]
          go_wp2
          go_ret
          exact ⟨ret_int (by rw [unhide HD, if_pos hk, unhide HE]; rfl), (Gr.one w _).trans hnx⟩
set_option maxHeartbeats 800000 in
theorem rDeep_any (e : Fl) (x : Value) (w : World) (hV : FlV w e x) : Calls Tryz.prog 12 #[x] w fun r w' => r = .returned (.int .i64 (deepF e 9)) ∧ Gr w w' := by
  obtain ⟨a1, c1, a2, c2, hv, _⟩ := hV.open
  have H := fun (w2 : World) (g : Gr w w2) => rdeep_any e 9 x w2 (hV.grow g.below) (by omega) (by omega)
  clear hV
  subst hv
  have H1 := H _ (Gr.one w (.cells (cFl e.kin e.nam e.val e.ini a1 e.any.length c1 e.fin e.hi e.hf e.rul e.dn a2 e.kids.length c2) 27))
  clear H
  generalize ((deepF e 9 : Nat) : Int) = y at *
  go_enter Tryz.func12, Tryz.ntmps12
  go_wp2_with (go_at_call 24; refine H1.mono ?_; rintro e w2 ⟨rfl, g2⟩)
  go_ret
  exact ⟨rfl, (Gr.one w _).trans g2⟩
theorem cntL_drop (l : List Fl) (j y : Nat) (h : j < l.length) : cntF.L (l.drop j) y = if y < 61 then cntF.L (l.drop (j + 1)) (y + cntF (l.getD j fl0)) else y := by rw [drop_consF l j h]; simp only [cntF.L]
theorem cntL_stop (l : List Fl) (y : Nat) (h : 61 ≤ y) : cntF.L l y = y := by
  cases l with
  | nil => simp [cntF.L]
  | cons a t => simp only [cntF.L]; rw [if_neg (by omega)]
set_option maxHeartbeats 1600000 in
theorem rcount_any (e : Fl) : ∀ (x : Value) (w : World), FlV w e x → Calls Tryz.prog 26 #[x] w fun r w' => r = .returned (.int .i64 (cntF e)) ∧ Gr w w' := by
  induction e using Fl.ind with
  | h c n v i a f hi hf r d kids ih =>
    intro x w hV
    simp only [FlV] at hV
    obtain ⟨a1, c1, a2, c2, rfl, _, hn, hc⟩ := hV
    have HIH := hide ih
    have HL := hide hc
    have HD : Hid (cntF (.mk c n v i a f hi hf r d kids) = min 61 (cntF.L kids 1)) := by show _ = _; simp only [cntF]
    clear ih hc
    go_enter Tryz.func26, Tryz.ntmps26
    go_wp2
    go_loopw [3, 4] (fun vy vj wr => ∃ j y : Nat, j ≤ kids.length ∧ vj = .int .i64 (j : Int) ∧ vy = .int .i64 (y : Int) ∧ y ≤ 200 ∧ Hid (cntF.L kids 1 = cntF.L (kids.drop j) y) ∧ Gr (w.alloc (.cells (cFl c n v i a1 a.length c1 f hi hf r d a2 kids.length c2) 27)) wr) (fun _ j _ => kids.length - (intOf j).toNat)
    case atStart => exact ⟨0, 1, Nat.zero_le _, rfl, rfl, by omega, rfl, Gr.refl _⟩
    case round =>
      obtain ⟨j, y, hj, rfl, rfl, hy, HB, hnx⟩ := hrel
      obtain ⟨b0, b1, b2, b3, b4, b5, b6, b7, b8, b9, b10⟩ := box11 hnx
      by_cases hgo : j < kids.length ∧ y < 61
      · obtain ⟨hlt, hy4⟩ := hgo
        have zx : (y : Int) < 61 := by omega
        have hzl : (j : Int) < (kids.length : Int) := by omega
        have hz0 : (0 : Int) ≤ (j : Int) := by omega
        have gw := (Gr.one w _).trans hnx
        obtain ⟨g, off, rfl, hl⟩ := (unhide HL).resolve_left (by omega)
        obtain ⟨x0, x1, x2, x3, x4, x5, x6, x7, x8, x9, x10, q0, q1, q2, q3, q4, q5, q6, q7, q8, q9, q10, hv⟩ := hl.get j hlt
        have p0 := gw.cell q0
        have p1 := gw.cell q1
        have p2 := gw.cell q2
        have p3 := gw.cell q3
        have p4 := gw.cell q4
        have p5 := gw.cell q5
        have p6 := gw.cell q6
        have p7 := gw.cell q7
        have p8 := gw.cell q8
        have p9 := gw.cell q9
        have p10 := gw.cell q10
        have CI := unhide HIH _ (getD_memF kids j hlt) _ wr (hv.grow gw.below)
        have HS := hide (cntL_drop kids j y hlt)
        have hle := cntF_le (kids.getD j fl0)
        clear q0 q1 q2 q3 q4 q5 q6 q7 q8 q9 q10 hv hl
        generalize cntF (kids.getD j fl0) = z at *
        have wy : IntKind.i64.wrap ((y : Int) + (z : Int)) = (y : Int) + (z : Int) := wrap_in (by omega) (by omega)
        go_wp2_with (go_at_call 26; refine CI.mono ?_; rintro e w2 ⟨rfl, g2⟩)
        go_roundw
        case rel => exact ⟨j + 1, y + z, by omega, by go_num, (by rw [Int.natCast_add]), by omega, (by show _ = _; rw [unhide HB, unhide HS, if_pos hy4]), hnx.trans g2⟩
        case measure => simp [intOf]; omega
      · have gw := (Gr.one w _).trans hnx
        have HE : Hid (cntF.L kids 1 = y) := by
          show _ = _
          rw [unhide HB]
          by_cases h1 : j < kids.length
          · exact cntL_stop _ _ (by omega)
          · rw [List.drop_eq_nil_of_le (by omega)]; simp [cntF.L]
        by_cases h1 : j < kids.length
        · have hzl : (j : Int) < (kids.length : Int) := by omega
          have zx : ¬ (y : Int) < 61 := by omega
          by_cases h2 : 61 < y
          · have z2 : (61 : Int) < (y : Int) := by omega
            go_wp2
            go_ret
            exact ⟨ret_int (by rw [unhide HD, unhide HE]; omega), gw⟩
          · have z2 : ¬ (61 : Int) < (y : Int) := by omega
            go_wp2
            go_ret
            exact ⟨ret_int (by rw [unhide HD, unhide HE]; omega), gw⟩
        · have hzl : ¬ (j : Int) < (kids.length : Int) := by omega
          by_cases h2 : 61 < y
          · have z2 : (61 : Int) < (y : Int) := by omega
            go_wp2
            go_ret
            exact ⟨ret_int (by rw [unhide HD, unhide HE]; omega), gw⟩
          · have z2 : ¬ (61 : Int) < (y : Int) := by omega
            go_wp2
            go_ret
            exact ⟨ret_int (by rw [unhide HD, unhide HE]; omega), gw⟩
/-- What Count tells. -/
def countF (e : Fl) : Nat := if 8 < deepF e 9 then 61 else cntF e
set_option maxHeartbeats 800000 in
theorem rCount_any (e : Fl) (x : Value) (w : World) (hV : FlV w e x) : Calls Tryz.prog 14 #[x] w fun r w' => r = .returned (.int .i64 (countF e)) ∧ Gr w w' := by
  obtain ⟨a1, c1, a2, c2, hv, _⟩ := hV.open
  have H1 := hide fun (w2 : World) (g : Gr w w2) => rDeep_any e x w2 (hV.grow g.below)
  have H2 := hide fun (w2 : World) (g : Gr w w2) => rcount_any e x w2 (hV.grow g.below)
  clear hV
  subst hv
  have g0 := Gr.one w (.cells (cFl e.kin e.nam e.val e.ini a1 e.any.length c1 e.fin e.hi e.hf e.rul e.dn a2 e.kids.length c2) 27)
  obtain ⟨m0, m1, m2, m3, m4, m5, m6, m7, m8, m9, m10⟩ := box11 (w := w) (T := 27) (a0 := .int .i64 e.kin) (a1 := .string e.nam) (a2 := .string e.val) (a3 := .string e.ini) (a4 := .slice a1 e.any.length c1) (a5 := .string e.fin) (a6 := .bool e.hi) (a7 := .bool e.hf) (a8 := .string e.rul) (a9 := .bool e.dn) (a10 := .slice a2 e.kids.length c2) (Gr.refl _)
  by_cases hd : 8 < deepF e 9
  · have zd : (8 : Int) < ((deepF e 9 : Nat) : Int) := by omega
    have HE : Hid (countF e = 61) := if_pos hd
    generalize ((deepF e 9 : Nat) : Int) = y at *
    go_enter Tryz.func14, Tryz.ntmps14
    go_wp2_with (go_at_call 12; refine (unhide H1 _ g0).mono ?_; rintro e w2 ⟨rfl, g2⟩)
    go_ret
    exact ⟨ret_int (by rw [unhide HE]; rfl), g0.trans g2⟩
  · have zd : ¬ (8 : Int) < ((deepF e 9 : Nat) : Int) := by omega
    have HE : Hid (countF e = cntF e) := if_neg hd
    generalize ((deepF e 9 : Nat) : Int) = y at *
    go_enter Tryz.func14, Tryz.ntmps14
    go_wp2_with (first
      | (go_at_call 26; refine (unhide H2 _ h2).mono ?_; rintro e w3 ⟨rfl, g3⟩)
      | (go_at_call 12; refine (unhide H1 _ g0).mono ?_; rintro e w2 ⟨rfl, g2⟩; have h2 := g0.trans g2; obtain ⟨n0, n1, n2, n3, n4, n5, n6, n7, n8, n9, n10⟩ := box11 g2))
    go_ret
    exact ⟨ret_int (by rw [unhide HE]), h2.trans g3⟩
end Go.Proofs.YthbldkkjjjmegaaGreatDoor
