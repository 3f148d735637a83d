/- Rows of whole numbers: handed in, or of the call's own; plain facts on worlds. -/
import Derived.Test.YtmemflanfklmpaaProg
import Derived.Test.YtmemflanfklmpaaOwn
import Derived.WalkKit
import Derived.WalkSpells
import Derived.WalkLawsBesides
import Derived.Deep.AppendLies
import Derived.Laws.OwnMore
namespace Go.Proofs.Ytmemflanfklmpaa
open Go.RowKit
open Go.Sort (grow)


/-- A slice that holds the numbers l. -/
def Row (w : World) (v : Value) (l : List Int) : Prop :=
  ∃ a cap, v = .slice a l.length cap ∧ (0 < l.length → ∃ b off, a = some ⟨b, off, none⟩ ∧ ∀ j, j < l.length → w.cell? ⟨b, off + j, none⟩ = some (.int .i64 (l.getD j 0)))
theorem Row.below {w w2 : World} {v : Value} {l : List Int} (h : Row w v l) (hb : Below w.heap.size w w2) : Row w2 v l := by
  obtain ⟨a, cap, rfl, hc⟩ := h
  refine ⟨a, cap, rfl, fun hi => ?_⟩
  obtain ⟨b, off, rfl, hcc⟩ := hc hi
  exact ⟨b, off, rfl, fun j hj => (hb.cell (p := ⟨b, off + j, none⟩) (cell_lt (hcc j hj))).trans (hcc j hj)⟩
theorem Row.nil (w : World) (a : Option Addr) (c : Nat) : Row w (.slice a 0 c) [] := ⟨a, c, rfl, fun h => absurd h (Nat.lt_irrefl _)⟩
/-- A row of numbers of the call's own. -/
def Rn (B : Nat) (v : Value) (l : List Int) (w : World) : Prop := w.ownsRow B 3 1 v l.length (l.map (Value.int .i64))
theorem Rn.nil (B : Nat) (w : World) : Rn B (.slice none 0 0) [] w := ⟨rfl, .inl ⟨rfl, rfl⟩⟩
theorem Rn.row {w : World} {B : Nat} {v : Value} {l : List Int} (h : Rn B v l w) : Row w v l := by
  rcases h.2 with ⟨hv, h0⟩ | ⟨g, cap, cur, hv, _⟩
  · exact ⟨none, 0, by rw [hv, h0], fun hi => by omega⟩
  · refine ⟨some ⟨g, 0, none⟩, cap, hv, fun hi => ⟨g, 0, rfl, fun j hj => ?_⟩⟩
    have := World.ownsRow.cells h (g := g) (by rw [hv]; rfl) j (.int .i64 (l.getD j 0)) (by simp [List.getD, hj])
    rw [add_zero3 g j] at this
    rw [Nat.zero_add]
    exact this
theorem Rn.shape {w : World} {B : Nat} {v : Value} {l : List Int} (h : Rn B v l w) : ∃ a c, v = .slice a l.length c := by
  rcases h.2 with ⟨hv, h0⟩ | ⟨g, cap, cur, hv, _⟩
  · exact ⟨none, 0, by rw [hv, h0]⟩
  · exact ⟨_, cap, hv⟩
theorem Rn.held {w : World} {B : Nat} {v : Value} {l : List Int} (h : Rn B v l w) (hl : 0 < l.length) : ∃ g c, v = .slice (some ⟨g, 0, none⟩) l.length c ∧ B ≤ g ∧ g < w.heap.size := by
  rcases h.2 with ⟨hv, h0⟩ | ⟨g, cap, cur, hv, hB, hg, _⟩
  · omega
  · exact ⟨g, cap, hv, hB, (Array.getElem?_eq_some_iff.1 hg).1⟩
theorem Rn.below {w w2 : World} {B : Nat} {v : Value} {l : List Int} (h : Rn B v l w) (hb : Below w.heap.size w w2) : Rn B v l w2 := own_below h hb
theorem Rn.base {w : World} {B C : Nat} {v : Value} {l : List Int} (h : Rn B v l w) (hc : C ≤ B) : Rn C v l w := by
  refine ⟨h.1, ?_⟩
  rcases h.2 with h' | ⟨g, cap, cur, hv, hB, rest⟩
  · exact .inl h'
  · exact .inr ⟨g, cap, cur, hv, Nat.le_trans hc hB, rest⟩
theorem elem_info : (Try.prog.info? 3).map (fun i => (i.zero, i.size, i.bytes)) = some (some (.int .i64 0), 1, 8) := by kernel_rfl
/-- A new block of numbers. -/
theorem Rn.new (w : World) (B : Nat) (zs : List Int) (cs : Array Value) (hcs : cs.toList = zs.map (Value.int .i64)) (hB : B ≤ w.heap.size) (hm : zs.length ≤ 1000) : Rn B (.slice (.some ⟨w.heap.size, 0, none⟩) zs.length zs.length) zs (w.alloc (.cells cs 3)) := by
  refine ⟨by simp, .inr ⟨w.heap.size, zs.length, cs, rfl, hB, heap_new _ _, Nat.le_refl _, by unfold maxLen; omega, ?_, ?_⟩⟩
  · rw [← Array.length_toList, hcs]; simp
  · rw [hcs]; exact List.take_of_length_le (by simp)
theorem row_new (w : World) (zs : List Int) (cs : Array Value) (T : TypeId) (hcs : cs.toList = zs.map (Value.int .i64)) : Row (w.alloc (.cells cs T)) (.slice (some ⟨w.heap.size, 0, none⟩) zs.length zs.length) zs := by
  refine ⟨_, _, rfl, fun _ => ⟨w.heap.size, 0, rfl, fun j hj => ?_⟩⟩
  rw [World.cell?_alloc_mark, Nat.zero_add]
  have : cs.toList[j]? = some (.int .i64 (zs.getD j 0)) := by rw [hcs]; simp [List.getD, hj]
  simpa using this
theorem Rn.new1 (w : World) (x : Int) : Rn w.heap.size (.slice (.some ⟨w.heap.size, 0, none⟩) 1 1) [x] (w.alloc (.cells #[.int .i64 x] 3)) := Rn.new w _ [x] _ rfl (Nat.le_refl _) (by simp)
theorem Rn.new2 (w : World) (x y : Int) : Rn w.heap.size (.slice (.some ⟨w.heap.size, 0, none⟩) 2 2) [x, y] (w.alloc (.cells #[.int .i64 x, .int .i64 y] 3)) := Rn.new w _ [x, y] _ rfl (Nat.le_refl _) (by simp)
theorem Rn.new3 (w : World) (x y z : Int) : Rn w.heap.size (.slice (.some ⟨w.heap.size, 0, none⟩) 3 3) [x, y, z] (w.alloc (.cells #[.int .i64 x, .int .i64 y, .int .i64 z] 3)) := Rn.new w _ [x, y, z] _ rfl (Nat.le_refl _) (by simp)
theorem Below.one (w : World) (o : Obj) : Below w.heap.size w (w.alloc o) := (Gr.one w o).below
theorem take_snoc (l : List Int) (k : Nat) (h : k < l.length) : l.take (k + 1) = l.take k ++ [l.getD k 0] := by
  rw [List.take_succ_eq_append_getElem h]; simp [List.getD, h]
theorem Rn.push {w1 : World} {B g1 cap1 N : Nat} {es : List Int} {z : Int} (hN : N = es.length) (h : w1.ownsRow B 3 1 (.slice (.some ⟨g1, 0, none⟩) (N + 1) cap1) (N + 1) (es.map (Value.int .i64) ++ [.int .i64 z])) : Rn B (.slice (.some ⟨g1, 0, none⟩) (N + 1) cap1) (es ++ [z]) w1 := by
  unfold Rn
  subst hN
  simpa using h
theorem Rn.last {w : World} {B g N cap : Nat} {t : List Int} {y : Int} (h : Rn B (.slice (.some ⟨g, 0, none⟩) N cap) (t ++ [y]) w) : w.cell? ⟨g, t.length, none⟩ = some (.int .i64 y) := by
  have := World.ownsRow.cells h (g := g) rfl t.length (.int .i64 y) (by simp)
  rwa [add_zero3] at this
theorem Rn.free {w : World} {B g N cap : Nat} {l : List Int} (h : Rn B (.slice (.some ⟨g, 0, none⟩) N cap) l w) (hN : N = l.length) (m : Nat) : w.frozen? ⟨g, m, none⟩ = false := by
  subst hN
  exact World.ownsRow.frozenAt h m
theorem Rn.own {w : World} {B N : Nat} {v : Value} {l : List Int} (hN : N = l.length) (h : Rn B v l w) : w.ownsRow B 3 1 v N (l.map (Value.int .i64)) := by
  subst hN
  exact h
theorem Rn.put {w : World} {B g N cap m : Nat} {t : List Int} {y z : Int} (hN : N = t.length + 1) (hm : m = t.length) (h : Rn B (.slice (.some ⟨g, 0, none⟩) N cap) (t ++ [y]) w) :
    Rn B (.slice (.some ⟨g, 0, none⟩) N cap) (t ++ [z]) (w.setCell ⟨g, m, none⟩ (.int .i64 z)) ∧ w.grownBy (w.setCell ⟨g, m, none⟩ (.int .i64 z)) (.some g) := by
  subst hN hm
  have h2 : w.ownsRow B 3 1 (.slice (.some ⟨g, 0, none⟩) (t.length + 1) cap) (t.length + 1) ((t ++ [y]).map (Value.int .i64)) := by simpa [Rn] using h
  obtain ⟨h3, h4⟩ := h2.stored t.length (.int .i64 z)
  refine ⟨?_, h4⟩
  have e : ((t ++ [y]).map (Value.int .i64)).set t.length (.int .i64 z) = (t ++ [z]).map (Value.int .i64) := by
    rw [List.map_append, List.set_append_right _ _ (by simp)]
    simp
  rw [e] at h3
  unfold Rn
  simpa using h3
theorem own_nil (w : World) (B : Nat) (hB : B ≤ w.heap.size) : (w.alloc (.cells #[] 3)).ownsRow B 3 1 (.slice (some ⟨w.heap.size, 0, none⟩) 0 0) 0 [] :=
  ⟨rfl, .inr ⟨w.heap.size, 0, #[], rfl, hB, heap_new w _, Nat.le_refl _, Nat.zero_le _, rfl, rfl⟩⟩
theorem Rn.news {w : World} {B g N cap : Nat} {t u : List Int} (h : Rn B (.slice (.some ⟨g, 0, none⟩) N cap) (t ++ u) w) : ∀ j v, (t.map (Value.int .i64))[j]? = .some v → w.cell? ((⟨g, 0, none⟩ : Addr).add j) = .some v := fun j v hv => by
  refine World.ownsRow.cells h (g := g) rfl j v ?_
  rw [List.map_append, List.getElem?_append_left (List.getElem?_eq_some_iff.1 hv).1]
  exact hv
theorem ints_one (t : List Int) : ∀ u ∈ t.map (Value.int .i64), u.oneCell' = true := by
  intro u hu
  obtain ⟨x, _, rfl⟩ := List.mem_map.1 hu
  rfl
theorem Rn.all {w : World} {B g N cap : Nat} {t : List Int} (h : Rn B (.slice (.some ⟨g, 0, none⟩) N cap) t w) : ∀ j v, (t.map (Value.int .i64))[j]? = .some v → w.cell? ((⟨g, 0, none⟩ : Addr).add j) = .some v := fun j v hv => World.ownsRow.cells h (g := g) rfl j v hv
theorem Rn.kept {w w' : World} {B : Nat} {row : Option Nat} {v : Value} {l : List Int} (h : Rn B v l w) (hg : w.grownBy w' row) (hne : v.ownBlock ≠ row) : Rn B v l w' := World.ownsRow.kept h hg (.inr hne)
/-- What a later call made lies apart from what lay. -/
theorem apart_blocks {w : World} {B g n c : Nat} {v : Value} {l : List Int} (h : Rn B v l w) (hg : g < B) : v.ownBlock ≠ (Value.slice (some ⟨g, 0, none⟩) n c).ownBlock := by
  rcases h.2 with ⟨hv, _⟩ | ⟨g', cap, cur, hv, hB, _⟩
  · rw [hv]; simp [Value.ownBlock]
  · rw [hv]; simp [Value.ownBlock]; omega
theorem wrap_in {x : Int} (h1 : -9223372036854775808 ≤ x) (h2 : x ≤ 9223372036854775807) : IntKind.i64.wrap x = x := by
  simp [IntKind.wrap, IntKind.bits, IntKind.signed]; omega
end Go.Proofs.Ytmemflanfklmpaa
