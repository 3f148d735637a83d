/- How a run stands while its marks are put in order; a scope whose label is jumped back to. -/
import Derived.Test.YtlbigebaepecpaaMk6
import Derived.ScopeJumps
import Derived.WalkMore
namespace Go.Proofs.Ytlbigebaepecpaa
open Go.RowKit

/-- A scope in which the run jumps back to one label: what is shown of each pass from the label serves for the first as well. -/
theorem scope_jumps {P : Program} {a : Act} {w : World} {Q : Exit → Act → World → Prop} {c rest : Code} (l : Nat) (J : Act → World → Prop) (μ : Act → World → Nat) (hf : findLabel c l = some (Code.skip.seq rest))
    (pass : ∀ a w, J a w → rest.wp P (Exit.jump l (fun a' w' => J a' w' ∧ μ a' w' < μ a w) Q) a w)
    (first : (∀ a w, J a w → rest.wp P (Exit.jump l J Q) a w) → c.wp P (Exit.jump l J Q) a w) : (Code.scope c).wp P Q a w := by
  refine wp_scope_jumps l J μ hf (first fun a w h => wp_mono (pass a w h) ?_) fun a w h => wp_seq (wp_skip (pass a w h))
  intro e a' w' h
  cases e with
  | goto l' => exact ⟨h.1, h.2.1⟩
  | normal => exact h
  | exit id => exact h
  | ret => exact h
  | panic ch => exact h
  | outgrown => exact h

theorem below_grown {w w' : World} (h : Below w.heap.size w w') (row : Option Nat) : w.grownBy w' row := ⟨h.os, h.tape, h.output, h.size, fun i hi _ => h.block i hi⟩
/-- What was grown by a new row, or by the row itself, was grown by the row. -/
theorem grownBy_new {a b c : World} {g g2 : Nat} (h : a.grownBy b (some g)) (k : b.grownBy c (some g2)) (hg : a.heap.size ≤ g2) : a.grownBy c (some g) := by
  obtain ⟨h1, h2, h3, h4, h5⟩ := h
  obtain ⟨k1, k2, k3, k4, k5⟩ := k
  exact ⟨k1.trans h1, k2.trans h2, k3.trans h3, by omega, fun i hi hne => (k5 i (by omega) (by simp; omega)).trans (h5 i hi hne)⟩
theorem Rn.set {B g N cap : Nat} {L : List Int} {w : World} (h : Rn B (.slice (some ⟨g, 0, none⟩) N cap) L w) (hN : N = L.length) (j : Nat) (z : Int) :
    Rn B (.slice (some ⟨g, 0, none⟩) N cap) (L.set j z) (w.setCell ⟨g, j, none⟩ (.int .i32 z)) ∧ w.grownBy (w.setCell ⟨g, j, none⟩ (.int .i32 z)) (some g) := by
  subst hN
  obtain ⟨h3, h4⟩ := World.ownsRow.stored h j (.int .i32 z)
  refine ⟨?_, h4⟩
  unfold Rn
  rw [List.length_set, List.map_set]
  exact h3

/-- The row that is put in order, and the marks of a run of it. -/
structure St (w : World) (B C g g2 N cap n cap2 : Nat) (L : List Int) (d : List Mk) (wr : World) : Prop where
  rn : Rn B (.slice (some ⟨g, 0, none⟩) N cap) L wr
  mr : Mr C (.slice (some ⟨g2, 0, none⟩) n cap2) d wr
  gb : w.grownBy wr (some g)
  ln : N = L.length
  dn : n = d.length
  gw : g < w.heap.size
  wg : w.heap.size ≤ g2
section
variable {w wr : World} {B C g g2 N cap n cap2 : Nat} {L : List Int} {d : List Mk}
theorem St.gr {wr' : World} (h : St w B C g g2 N cap n cap2 L d wr) (k : Gr wr wr') : St w B C g g2 N cap n cap2 L d wr' :=
  ⟨h.rn.below k.below, h.mr.below k.below, grownBy_trans h.gb (k.grown _), h.ln, h.dn, h.gw, h.wg⟩
theorem St.cell (h : St w B C g g2 N cap n cap2 L d wr) (i : Nat) (hi : i < n) :
    wr.cell? ⟨g2, i * 3, none⟩ = some (.int .i32 (d.getD i mk0).r) ∧ wr.cell? ⟨g2, i * 3 + 1, none⟩ = some (.int .i64 (d.getD i mk0).c) ∧ wr.cell? ⟨g2, i * 3 + 2, none⟩ = some (.int .i64 (d.getD i mk0).p) := h.mr.cell h.dn i hi
theorem St.free (h : St w B C g g2 N cap n cap2 L d wr) (o : Nat) : wr.frozen? ⟨g2, o, none⟩ = false := h.mr.free h.dn o
theorem St.freeL (h : St w B C g g2 N cap n cap2 L d wr) (o : Nat) : wr.frozen? ⟨g, o, none⟩ = false := h.rn.free h.ln o
theorem St.lt2 (h : St w B C g g2 N cap n cap2 L d wr) : g2 < wr.heap.size := h.mr.lt.2
theorem St.lt (h : St w B C g g2 N cap n cap2 L d wr) : g < wr.heap.size := Nat.lt_of_lt_of_le h.gw h.gb.size
theorem St.cellL (h : St w B C g g2 N cap n cap2 L d wr) (j : Nat) (hj : j < N) : wr.cell? ⟨g, j, none⟩ = some (.int .i32 (L.getD j 0)) := by
  have hl := h.ln
  have h1 := h.rn
  subst hl
  rw [World.ownsRow.cellAt h1 j (by omega)]
  simp [List.getD, hj]
theorem St.put (h : St w B C g g2 N cap n cap2 L d wr) (i : Nat) (hi : i < n) (x : Mk) :
    St w B C g g2 N cap n cap2 L (d.set i x) (((wr.setCell ⟨g2, i * 3, none⟩ (.int .i32 x.r)).setCell ⟨g2, i * 3 + 1, none⟩ (.int .i64 x.c)).setCell ⟨g2, i * 3 + 2, none⟩ (.int .i64 x.p)) := by
  obtain ⟨h1, h2⟩ := h.mr.put h.dn i hi x
  refine ⟨h.rn.kept h2 ?_, h1, grownBy_new h.gb h2 h.wg, h.ln, by rw [List.length_set]; exact h.dn, h.gw, h.wg⟩
  have a := h.gw
  have b := h.wg
  simp [Value.ownBlock]
  omega
theorem St.exch (h : St w B C g g2 N cap n cap2 L d wr) (i j : Nat) (hi : i < n) (hj : j < n) (x y : Mk) (hx : x = d.getD i mk0) (hy : y = d.getD j mk0) :
    St w B C g g2 N cap n cap2 L (exch d i j) ((((((wr.setCell ⟨g2, i * 3, none⟩ (.int .i32 y.r)).setCell ⟨g2, i * 3 + 1, none⟩ (.int .i64 y.c)).setCell ⟨g2, i * 3 + 2, none⟩ (.int .i64 y.p)).setCell ⟨g2, j * 3, none⟩ (.int .i32 x.r)).setCell ⟨g2, j * 3 + 1, none⟩ (.int .i64 x.c)).setCell ⟨g2, j * 3 + 2, none⟩ (.int .i64 x.p)) := by
  subst hx hy
  exact (h.put i hi (d.getD j mk0)).put j hj (d.getD i mk0)
theorem St.write (h : St w B C g g2 N cap n cap2 L d wr) (j : Nat) (z : Int) : St w B C g g2 N cap n cap2 (L.set j z) d (wr.setCell ⟨g, j, none⟩ (.int .i32 z)) := by
  obtain ⟨h1, h2⟩ := h.rn.set h.ln j z
  refine ⟨h1, World.ownsRow.kept h.mr h2 (.inr ?_), grownBy_trans h.gb h2, by rw [List.length_set]; exact h.ln, h.dn, h.gw, h.wg⟩
  have a := h.gw
  have b := h.wg
  simp [Value.ownBlock]
  omega
end
/-- The row while k of a run's marks are written back. -/
def wb (A S r Z : List Int) (k : Nat) : List Int := A ++ (S.take k ++ (r.drop k ++ Z))
theorem wb_zero (A S r Z : List Int) : wb A S r Z 0 = A ++ (r ++ Z) := by simp [wb]
theorem wb_set (A S r Z : List Int) (k : Nat) (hk : k < r.length) (hs : S.length = r.length) : (wb A S r Z k).set (A.length + k) (S.getD k 0) = wb A S r Z (k + 1) := by
  unfold wb
  rw [List.set_append_right _ _ (by omega)]
  congr 1
  have e1 : A.length + k - A.length = k := by omega
  rw [e1, List.set_append_right _ _ (by rw [List.length_take]; omega), List.length_take, Nat.min_eq_left (by omega), Nat.sub_self, List.drop_eq_getElem_cons hk, take_snoc S k (by omega), List.cons_append, List.set_cons_zero, List.append_assoc]
  rfl
theorem wb_all (A S r Z : List Int) (hs : S.length = r.length) : wb A S r Z r.length = A ++ (S ++ Z) := by
  unfold wb
  rw [List.drop_length, ← hs, List.take_length]; rfl
/-- What a word of memory holds. -/
def intAt (w : World) (b o : Nat) : Int := match w.cell? ⟨b, o, none⟩ with | some (.int _ q) => q | _ => 0
/-- The marks that lie there. -/
def marksAt (w : World) (b n : Nat) : List Mk := (List.range n).map fun i => ⟨intAt w b (i * 3), intAt w b (i * 3 + 1), intAt w b (i * 3 + 2)⟩
theorem St.read {w wr : World} {B C g g2 N cap n cap2 : Nat} {L : List Int} {d : List Mk} (h : St w B C g g2 N cap n cap2 L d wr) : marksAt wr g2 n = d := by
  have hd := h.dn
  refine List.ext_getElem (by simp [marksAt, hd]) fun i h1 h2 => ?_
  have hi : i < n := by omega
  obtain ⟨c1, c2, c3⟩ := h.cell i hi
  have e : d.getD i mk0 = d[i] := by simp [List.getD, h2]
  rw [e] at c1 c2 c3
  simp only [marksAt, List.getElem_map, List.getElem_range, intAt, c1, c2, c3]
/-- How a pass stands: some changed places, and more stands well; or none did, and none stands wrongly so far. -/
def Pas (d dk : List Mk) (m k : Nat) (ch : Bool) : Prop := (ch = true → pot 0 d < pot 0 dk) ∧ (ch = false → dk = d ∧ ∀ j, m ≤ j → j < k → (d.getD (j - m) mk0).key ≤ (d.getD j mk0).key)
theorem Pas.start (d : List Mk) (m : Nat) : Pas d d m m false := ⟨(fun h => by cases h), fun _ => ⟨rfl, fun j h1 h2 => by omega⟩⟩
theorem Pas.swap {d dk : List Mk} {m k : Nat} {ch : Bool} (h : Pas d dk m k ch) (h1 : 1 ≤ m) (hm : m ≤ k) (hk : k < dk.length) (hlt : (dk.getD k mk0).key < (dk.getD (k - m) mk0).key) : Pas d (exch dk k (k - m)) m (k + 1) true := by
  refine ⟨fun _ => ?_, (fun h => by cases h)⟩
  have := pot_exch dk k (k - m) hk (by omega) hlt
  cases ch
  · rw [← (h.2 rfl).1]
    exact this
  · exact Int.lt_trans (h.1 rfl) this
theorem Pas.skip {d dk : List Mk} {m k : Nat} {ch : Bool} (h : Pas d dk m k ch) (hle : (dk.getD (k - m) mk0).key ≤ (dk.getD k mk0).key) : Pas d dk m (k + 1) ch := by
  refine ⟨h.1, fun hc => ⟨(h.2 hc).1, fun j h1 h2 => ?_⟩⟩
  by_cases hj : j < k
  · exact (h.2 hc).2 j h1 hj
  · have : j = k := by omega
    subst this
    rw [← (h.2 hc).1]
    exact hle
theorem Pas.end_ {d dk : List Mk} {n : Nat} (h : Pas d dk 1 n false) (hn : n = d.length) : dk.Pairwise fun a b => a.key ≤ b.key := by
  obtain ⟨rfl, h2⟩ := h.2 rfl
  exact side_sorted dk fun j h1 h2' => h2 j h1 (by omega)
end Go.Proofs.Ytlbigebaepecpaa
