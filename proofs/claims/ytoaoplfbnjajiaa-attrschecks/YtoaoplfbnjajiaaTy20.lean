/- Attribute types in memory. -/
import Derived.Test.YtoaoplfbnjajiaaMath20
import Derived.Test.YtoaoplfbnjajiaaOwn
import Derived.Lib.Strings
import Derived.Lib.IndexBytes
namespace Go.Proofs.Ytoaoplfbnjajiaa
open Go.RowKit

/-- The six cells of a type. -/
def CellsT (w : World) (b o : Nat) (t : Ty) : Prop :=
  w.cell? ⟨b, o, none⟩ = some (.string t.nam) ∧ w.cell? ⟨b, o + 1, none⟩ = some (.string t.abv) ∧ w.cell? ⟨b, o + 2, none⟩ = some (.int .i64 t.syn) ∧ w.cell? ⟨b, o + 3, none⟩ = some (.int .i64 t.rul) ∧ w.cell? ⟨b, o + 4, none⟩ = some (.bool t.sgl) ∧ w.cell? ⟨b, o + 5, none⟩ = some (.bool t.cls)
theorem CellsT.below {w w2 : World} {b o : Nat} {t : Ty} (h : CellsT w b o t) (hb : Below w.heap.size w w2) : CellsT w2 b o t := by
  obtain ⟨h0, h1, h2, h3, h4, h5⟩ := h
  exact ⟨(hb.cell (cell_lt h0)).trans h0, (hb.cell (cell_lt h1)).trans h1, (hb.cell (cell_lt h2)).trans h2, (hb.cell (cell_lt h3)).trans h3, (hb.cell (cell_lt h4)).trans h4, (hb.cell (cell_lt h5)).trans h5⟩
/-- A slice that holds the types l. -/
def TysV (w : World) (v : Value) (l : List Ty) : Prop :=
  ∃ a cap, v = .slice a l.length cap ∧ (l.length ≤ cap ∧ l.length ≤ 9223372036854775807) ∧ (0 < l.length → ∃ b off, a = some ⟨b, off, none⟩ ∧ ∀ j, j < l.length → CellsT w b (off + j * 6) (l.getD j ty0))
theorem TysV.below {w w2 : World} {v : Value} {l : List Ty} (h : TysV w v l) (hb : Below w.heap.size w w2) : TysV w2 v l := by
  obtain ⟨a, cap, rfl, hn, hc⟩ := h
  refine ⟨a, cap, rfl, hn, fun i => ?_⟩
  obtain ⟨b, off, rfl, hcc⟩ := hc i
  exact ⟨b, off, rfl, fun j hj => (hcc j hj).below hb⟩
theorem TysV.shape {w : World} {v : Value} {l : List Ty} (h : TysV w v l) : ∃ a c, v = .slice a l.length c := by
  obtain ⟨a, c, h, _⟩ := h
  exact ⟨a, c, h⟩
/-- A box of a type. -/
def cellsOfT (a : Ty) : Array Value := #[.string a.nam, .string a.abv, .int .i64 a.syn, .int .i64 a.rul, .bool a.sgl, .bool a.cls]
def aggT (a : Ty) : Value := .agg (cellsOfT a)
def Bt (b : Nat) (a : Ty) (w : World) : Prop := w.heap[b]? = some (.cells #[.string a.nam, .string a.abv, .int .i64 a.syn, .int .i64 a.rul, .bool a.sgl, .bool a.cls] 26)
theorem bt_lt {w : World} {b : Nat} {o : Obj} (h : w.heap[b]? = some o) : b < w.heap.size := (Array.getElem?_eq_some_iff.1 h).1
theorem Bt.keep {b : Nat} {a : Ty} {w w2 : World} (h : Bt b a w) (hb : Below w.heap.size w w2) : Bt b a w2 := (hb.block _ (bt_lt h)).trans h
theorem Bt.free {b : Nat} {a : Ty} {w : World} (h : Bt b a w) (o : Nat) : w.frozen? ⟨b, o, none⟩ = false := by
  unfold World.frozen?
  rw [show w.heap[(⟨b, o, none⟩ : Addr).block]? = w.heap[b]? from rfl, h]
  simp
theorem Bt.cells {b : Nat} {a : Ty} {w : World} (h : Bt b a w) : CellsT w b 0 a := by
  have hc : ∀ o, w.cell? ⟨b, o, none⟩ = (#[Value.string a.nam, .string a.abv, .int .i64 a.syn, .int .i64 a.rul, .bool a.sgl, .bool a.cls] : Array Value)[o]? := fun o => by
    unfold World.cell?
    rw [show w.heap[(⟨b, o, none⟩ : Addr).block]? = w.heap[b]? from rfl, h]
    rfl
  exact ⟨hc 0, hc 1, hc 2, hc 3, hc 4, hc 5⟩
/-- A box that is written over. -/
def putT (w : World) (b : Nat) (a : Ty) : World := (((((w.setCell ⟨b, 0, none⟩ (.string a.nam)).setCell ⟨b, 1, none⟩ (.string a.abv)).setCell ⟨b, 2, none⟩ (.int .i64 a.syn)).setCell ⟨b, 3, none⟩ (.int .i64 a.rul)).setCell ⟨b, 4, none⟩ (.bool a.sgl)).setCell ⟨b, 5, none⟩ (.bool a.cls)
theorem Bt.put {b : Nat} {x : Ty} {w : World} (h : Bt b x w) (a : Ty) : Bt b a (putT w b a) := by
  unfold Bt putT at *
  have h1 := heap_setCell_same w b 0 _ _ (.string a.nam) h
  have h2 := heap_setCell_same _ b 1 _ _ (.string a.abv) h1
  have h3 := heap_setCell_same _ b 2 _ _ (.int .i64 a.syn) h2
  have h4 := heap_setCell_same _ b 3 _ _ (.int .i64 a.rul) h3
  have h5 := heap_setCell_same _ b 4 _ _ (.bool a.sgl) h4
  have h6 := heap_setCell_same _ b 5 _ _ (.bool a.cls) h5
  rw [h6]
  rfl
theorem put_below {B b : Nat} {w w2 : World} (h : Below B w w2) (hb : B ≤ b) (a : Ty) : Below B w (putT w2 b a) :=
  (((((h.setCell hb _).setCell hb _).setCell hb _).setCell hb _).setCell hb _).setCell hb _
/-- The place of a name. -/
def ixF (n : ByteArray) : List Ty → Nat → Int
  | [], _ => -1
  | x :: t, k => if x.nam = n then (k : Int) else ixF n t (k + 1)
def ixT (l : List Ty) (n : ByteArray) : Int := ixF n l 0
theorem drop_consT (l : List Ty) (i : Nat) (h : i < l.length) : l.drop i = l.getD i ty0 :: l.drop (i + 1) := by
  rw [List.drop_eq_getElem_cons h]
  simp [List.getD, h]
theorem ixF_fnd (n : ByteArray) : ∀ (l : List Ty) (k : Nat), (fndT l n = none ∧ ixF n l k = -1) ∨ ∃ j : Nat, j < l.length ∧ ixF n l k = ((k + j : Nat) : Int) ∧ fndT l n = some (l.getD j ty0)
  | [], k => .inl ⟨rfl, rfl⟩
  | x :: t, k => by
    unfold fndT ixF
    by_cases h : x.nam = n
    · right
      refine ⟨0, by simp, by rw [if_pos h]; simp, ?_⟩
      rw [List.find?_cons_of_pos (by simpa using h)]
      rfl
    · rw [List.find?_cons_of_neg (by simpa using h), if_neg h]
      rcases ixF_fnd n t (k + 1) with ⟨h1, h2⟩ | ⟨j, h1, h2, h3⟩
      · exact .inl ⟨h1, h2⟩
      · refine .inr ⟨j + 1, by simp; omega, by rw [h2]; omega, ?_⟩
        have := h3
        unfold fndT at this
        rw [this]
        simp
theorem ixT_fnd (l : List Ty) (n : ByteArray) : (fndT l n = none ∧ ixT l n = -1) ∨ ∃ j : Nat, j < l.length ∧ ixT l n = (j : Int) ∧ fndT l n = some (l.getD j ty0) := by
  rcases ixF_fnd n l 0 with h | ⟨j, h1, h2, h3⟩
  · exact .inl h
  · exact .inr ⟨j, h1, by unfold ixT; rw [h2]; simp, h3⟩
theorem txt_beq (a b : ByteArray) : (a.toList == b.toList) = decide (a = b) := by
  rw [Lib.toList_data, Lib.toList_data]
  by_cases h : a = b
  · rw [decide_eq_true h, h]; simp
  · rw [decide_eq_false h, beq_eq_false_iff_ne]
    intro e
    apply h
    cases a with | mk x => cases b with | mk y =>
    simp only at e
    rw [Array.toList_inj.1 e]
end Go.Proofs.Ytoaoplfbnjajiaa
