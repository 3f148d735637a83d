/- The document's unhex and plain of layer 24. (By gen_rp.py.) -/
import Derived.Test.YthbldkkjjjmegaaDoorM15
import Derived.Test.YthbldkkjjjmegaaDoorM13
import Derived.Test.YthbldkkjjjmegaaDoorM06
namespace Go.Proofs.YthbldkkjjjmegaaDoor
set_option maxRecDepth 100000
open Go.RowKit

/-- What plain tells: the bytes, and whether they are a text's. -/
def plA (s : ByteArray) : ByteArray := match plainV (nums s) with
  | some v => strOfNums v
  | none => ⟨#[]⟩
def plB (s : ByteArray) : Bool := (plainV (nums s)).isSome
theorem pl_none {s : ByteArray} (h : plainV (nums s) = none) : (⟨#[]⟩ : ByteArray) = plA s ∧ false = plB s := by unfold plA plB; rw [h]; exact ⟨rfl, rfl⟩
theorem pl_some {s : ByteArray} {v : List Int} (h : plainV (nums s) = some v) : strOfNums v = plA s ∧ true = plB s := by unfold plA plB; rw [h]; exact ⟨rfl, rfl⟩
theorem ret_pl {a b : ByteArray} {c d : Bool} (h : a = b ∧ c = d) : Ending.returned (.tuple #[.string a, .bool c]) = .returned (.tuple #[.string b, .bool d]) := by rw [h.1, h.2]
theorem unh_nn24 (c : Int) : 0 ≤ unh c := by unfold unh; split; omega; split; omega; split; omega; omega
theorem grown_drew24 {w w2 : World} {row : Option Nat} {o : Obj} (h : ((w.alloc o).drew).grownBy w2 row) : w.grownBy w2 row := ((Gr.one w o).drew.grown row).trans h
end Go.Proofs.YthbldkkjjjmegaaDoor
/- The document's split, lower, boolean of layer 24. -/
namespace Go.Proofs.YthbldkkjjjmegaaDoor
set_option maxRecDepth 100000
open Go.RowKit

theorem u8w24 {x : Int} (h0 : 0 ≤ x) (h1 : x < 256) : IntKind.u8.wrap x = x := by simp [IntKind.wrap, IntKind.bits, IntKind.signed]; omega
/-! lower -/
/-- Bytes in a block that may be written. -/
def Sb (g : Nat) (X : List Int) (w : World) : Prop := ∀ j, j < X.length → w.cell? ⟨g, j, none⟩ = some (.int .u8 (X.getD j 0)) ∧ w.frozen? ⟨g, j, none⟩ = false
theorem bytes_sb (t : ByteArray) (w : World) : ∃ (w1 : World) (cap1 : Nat), (convert 9 42 (.string t)).run Tryd.prog w = .ok (.slice (some ⟨w.heap.size, 0, none⟩) t.size cap1) w1 ∧ Sb w.heap.size (nums t) w1 ∧ Below w.heap.size w w1 := by
  refine ⟨_, _, run_bytes_of_string w 9 42 5 t Tryd.underlying9 Tryd.underlying42 Tryd.underlying5, ?_, ((Below.refl _ _).drew).alloc (Nat.le_refl _) _⟩
  intro j hj
  rw [nums_length] at hj
  refine ⟨?_, ?_⟩
  · have := World.cell?_alloc_mark w.drew (bytesRow t (grownCap w t.size 0 5)) 5 ((bytesRow t (grownCap w t.size 0 5)).size, (bytesRow t (grownCap w t.size 0 5)).size + 1) j
    refine this.trans ?_
    rw [bytesRow_at t _ j (by simpa using hj), nums_at t j hj]
    rfl
  · have hz : t.size ≤ (bytesRow t (grownCap w t.size 0 5)).size := by
      have := bytesRow_at t (grownCap w t.size 0 5) (t.size - 1) (by simp; omega)
      have := (Array.getElem?_eq_some_iff.1 this).1
      omega
    have hh := heap_new w.drew (.cells (bytesRow t (grownCap w t.size 0 5)) 5 ((bytesRow t (grownCap w t.size 0 5)).size, (bytesRow t (grownCap w t.size 0 5)).size + 1))
    have hw : w.drew.heap.size = w.heap.size := rfl
    rw [hw] at hh
    generalize bytesRow t (grownCap w t.size 0 5) = R at *
    unfold World.frozen?
    simp only [hh]
    rw [decide_eq_false (by omega)]
    rfl
theorem Sb.put {g : Nat} {X : List Int} {w : World} {k : Nat} (h : Sb g X w) (hk : k < X.length) (y : Int) : Sb g (X.set k y) (w.setCell ⟨g, k, none⟩ (.int .u8 y)) := by
  intro j hj
  rw [List.length_set] at hj
  obtain ⟨c, f⟩ := h j hj
  refine ⟨?_, by rw [World.frozen?_setCell]; exact f⟩
  by_cases e : j = k
  · subst e
    rw [World.cell?_setCell_same _ _ _ c]
    simp [List.getD, hj]
  · rw [World.cell?_setCell_other _ _ _ _ (by intro h; injection h with _ h2; exact e h2.symm), c]
    simp [List.getD, List.getElem?_set_ne (fun h => e h.symm)]
theorem Sb.conv {g cap : Nat} {X : List Int} {w : World} (h : Sb g X w) : (convert 42 9 (.slice (some ⟨g, 0, none⟩) X.length cap)).run Tryd.prog w = .ok (.string (strOfNums X)) w := by
  refine run_convert_bytes_arg w 42 5 Tryd.underlying42 Tryd.underlying5 g 0 X.length cap X rfl ?_ 9 Tryd.underlying9
  intro i hi
  rw [Nat.zero_add]
  exact (h i hi).1
theorem sml_step (l : List Int) (k : Nat) (h : k < l.length) : ((l.take k).map smlC ++ l.drop k).getD k 0 = l.getD k 0 ∧ ((l.take k).map smlC ++ l.drop k).set k (smlC (l.getD k 0)) = (l.take (k + 1)).map smlC ++ l.drop (k + 1) := by
  have e : ((l.take k).map smlC).length = k := by simp; omega
  refine ⟨?_, ?_⟩
  · rw [List.getD, List.getElem?_append_right (by omega), e, Nat.sub_self]
    simp [List.getD]
  · rw [List.set_append_right _ _ (by omega), e, Nat.sub_self, drop_consI l k h, List.set_cons_zero, List.take_succ_eq_append_getElem h, List.map_append, List.append_assoc]
    simp only [List.getD, List.getElem?_eq_getElem h, Option.getD_some, List.map_cons, List.map_nil, List.singleton_append]
theorem sml_len (l : List Int) (k : Nat) (h : k ≤ l.length) : ((l.take k).map smlC ++ l.drop k).length = l.length := by simp; omega
/-! split -/
/-- What stands from one place to another one. -/
def seg (l : List Int) (f i : Nat) : List Int := (l.drop f).take (i - f)
theorem seg_next {l : List Int} {f i : Nat} (hf : f ≤ i) (hi : i < l.length) : seg l f (i + 1) = seg l f i ++ [l.getD i 0] := by
  unfold seg
  rw [show i + 1 - f = (i - f) + 1 by omega, List.take_succ_eq_append_getElem (by rw [List.length_drop]; omega)]
  simp [List.getD, show f + (i - f) = i by omega, hi]
theorem seg_drop {l : List Int} {f i : Nat} (hf : f ≤ i) : l.drop f = seg l f i ++ l.drop i := by
  unfold seg
  conv => lhs; rw [← List.take_append_drop (i - f) (l.drop f)]
  rw [List.drop_drop, show f + (i - f) = i by omega]
/-- A row of texts of the call's own. -/
def Tx (B : Nat) (v : Value) (ps : List ByteArray) (w : World) : Prop := w.ownsRow B 9 1 v ps.length (ps.map Value.string)
theorem Tx.below {w w2 : World} {B : Nat} {v : Value} {ps : List ByteArray} (h : Tx B v ps w) (hb : Below w.heap.size w w2) : Tx B v ps w2 := own_below h hb
theorem Tx.own {w : World} {B N : Nat} {v : Value} {ps : List ByteArray} (hN : N = ps.length) (h : Tx B v ps w) : w.ownsRow B 9 1 v N (ps.map Value.string) := by subst hN; exact h
theorem Tx.push {w : World} {B N : Nat} {v : Value} {ps : List ByteArray} {p : ByteArray} (hN : N = ps.length) (h : w.ownsRow B 9 1 v (N + 1) (ps.map Value.string ++ [.string p])) : Tx B v (ps ++ [p]) w := by
  subst hN
  unfold Tx
  rw [List.length_append, List.map_append]
  exact h
theorem Tx.at {w : World} {B : Nat} {v : Value} {ps : List ByteArray} (h : Tx B v ps w) (hp : 0 < ps.length) : ∃ g c, v = .slice (some ⟨g, 0, none⟩) ps.length c ∧ ∀ j, j < ps.length → w.cell? ⟨g, j, none⟩ = some (.string (ps.getD j ByteArray.empty)) := by
  rcases h.2 with ⟨_, h0⟩ | ⟨g, cap, cur, hv, _⟩
  · omega
  · refine ⟨g, cap, hv, fun j hj => ?_⟩
    have := World.ownsRow.cells h (g := g) (by rw [hv]; rfl) j (.string (ps.getD j ByteArray.empty)) (by simp [List.getD, hj])
    rwa [add_zero3] at this
theorem str_info : (Tryd.prog.info? 9).map (fun i => (i.zero, i.size, i.bytes)) = some (some (.string ⟨#[]⟩), 1, 16) := by kernel_rfl
/-! boolean -/
end Go.Proofs.YthbldkkjjjmegaaDoor
