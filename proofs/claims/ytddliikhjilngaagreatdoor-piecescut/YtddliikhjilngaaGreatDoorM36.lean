/- What PiecesCut has laid: the cuts, their places, the pieces. -/
import Derived.Test.YtddliikhjilngaaGreatDoorM34
import Derived.Test.YtddliikhjilngaaGreatDoorM35
namespace Go.Proofs.YtddliikhjilngaaGreatDoor
set_option maxRecDepth 100000
open Go.RowKit

structure Cu (w W : World) (gk gp k0 k1 k2 k3 : Nat) (f0 f1 f2 : Bool) (A : ByteArray) (v : Value) (B : ByteArray) (hi hf : Bool) (ts : List ByteArray) : Prop where
  b : Below w.heap.size w W
  e0 : W.cell? ⟨w.heap.size, 4, none⟩ = some (.bool f0)
  e1 : W.cell? ⟨w.heap.size, 5, none⟩ = some (.bool f1)
  e2 : W.cell? ⟨w.heap.size, 6, none⟩ = some (.bool f2)
  q0 : W.cell? ⟨gk, 0, none⟩ = some (.int .i64 k0)
  q1 : W.cell? ⟨gk, 1, none⟩ = some (.int .i64 k1)
  q2 : W.cell? ⟨gk, 2, none⟩ = some (.int .i64 k2)
  q3 : W.cell? ⟨gk, 3, none⟩ = some (.int .i64 k3)
  p : B5 W gp (.string A) v (.string B) (.bool hi) (.bool hf)
  o : W.ownsRow (gp + 1) 9 1 v ts.length (ts.map Value.string)
  l1 : w.heap.size < gk
  l2 : gk < gp
/-- The world as it is first. -/
theorem Cu.new (w w1 : World) (k0 k1 k2 k3 : Nat) (f0 f1 f2 : Bool) (hb : Below w.heap.size w w1) (e0 : w1.cell? ⟨w.heap.size, 4, none⟩ = some (.bool f0)) (e1 : w1.cell? ⟨w.heap.size, 5, none⟩ = some (.bool f1)) (e2 : w1.cell? ⟨w.heap.size, 6, none⟩ = some (.bool f2)) (T T2 : TypeId) :
    Cu w ((w1.alloc (.cells #[.int .i64 k0, .int .i64 k1, .int .i64 k2, .int .i64 k3] T)).alloc (.cells #[.string ⟨#[]⟩, .slice none 0 0, .string ⟨#[]⟩, .bool false, .bool false] T2)) w1.heap.size (w1.heap.size + 1) k0 k1 k2 k3 f0 f1 f2 ⟨#[]⟩ (.slice none 0 0) ⟨#[]⟩ false false [] := by
  have c1 := Below.one w1 (.cells #[.int .i64 k0, .int .i64 k1, .int .i64 k2, .int .i64 k3] T)
  have c2 := c1.alloc c1.size (.cells #[.string ⟨#[]⟩, .slice none 0 0, .string ⟨#[]⟩, .bool false, .bool false] T2)
  have c3 := Below.one (w1.alloc (.cells #[.int .i64 k0, .int .i64 k1, .int .i64 k2, .int .i64 k3] T)) (.cells #[.string ⟨#[]⟩, .slice none 0 0, .string ⟨#[]⟩, .bool false, .bool false] T2)
  have q : ∀ i u, (#[Value.int .i64 k0, .int .i64 k1, .int .i64 k2, .int .i64 k3] : Array Value)[i]? = some u → (w1.alloc (.cells #[.int .i64 k0, .int .i64 k1, .int .i64 k2, .int .i64 k3] T)).cell? ⟨w1.heap.size, i, none⟩ = some u := fun i u h => by rw [World.cell?_alloc_mark]; exact h
  have q0 := q 0 _ rfl
  have q1 := q 1 _ rfl
  have q2 := q 2 _ rfl
  have q3 := q 3 _ rfl
  have hp := B5.new (w1.alloc (.cells #[.int .i64 k0, .int .i64 k1, .int .i64 k2, .int .i64 k3] T)) (.string ⟨#[]⟩) (.slice none 0 0) (.string ⟨#[]⟩) (.bool false) (.bool false) T2
  have e : (w1.alloc (.cells #[.int .i64 k0, .int .i64 k1, .int .i64 k2, .int .i64 k3] T)).heap.size = w1.heap.size + 1 := by simp
  rw [e] at hp
  refine ⟨hb.trans (c2.mono hb.size), (c2.cell (cell_lt e0)).trans e0, (c2.cell (cell_lt e1)).trans e1, (c2.cell (cell_lt e2)).trans e2, (c3.cell (cell_lt q0)).trans q0, (c3.cell (cell_lt q1)).trans q1, (c3.cell (cell_lt q2)).trans q2, (c3.cell (cell_lt q3)).trans q3, hp, ⟨rfl, .inl ⟨rfl, rfl⟩⟩, cell_lt e0, by omega⟩
theorem set_other (W : World) (g i p j : Nat) (u : Value) (n : g ≠ p) : (W.setCell ⟨g, i, none⟩ u).cell? ⟨p, j, none⟩ = W.cell? ⟨p, j, none⟩ := World.cell?_setCell_other _ _ _ _ (addr_ne n)
theorem heap_set (W : World) (g i k : Nat) (u : Value) (n : k ≠ g) : (W.setCell ⟨g, i, none⟩ u).heap[k]? = W.heap[k]? := by
  unfold World.setCell
  dsimp only
  rw [Array.getElem?_modify, if_neg (fun e => n e.symm)]
theorem own_set {W : World} {B e s n g i : Nat} {v u : Value} {xs : List Value} (h : W.ownsRow B e s v n xs) (hg : g < B) : (W.setCell ⟨g, i, none⟩ u).ownsRow B e s v n xs := by
  refine ⟨h.1, ?_⟩
  rcases h.2 with h' | ⟨g2, cap, cur, hv, hB, hh, r⟩
  · exact .inl h'
  · exact .inr ⟨g2, cap, cur, hv, hB, (heap_set W g i g2 u (by omega)).trans hh, r⟩
section
variable {w W : World} {gk gp k0 k1 k2 k3 : Nat} {f0 f1 f2 : Bool} {A : ByteArray} {v : Value} {B : ByteArray} {hi hf : Bool} {ts : List ByteArray}
/-- Behind a store into the pieces' box. -/
theorem Cu.set (h : Cu w W gk gp k0 k1 k2 k3 f0 f1 f2 A v B hi hf ts) (i : Nat) (u : Value) {A' : ByteArray} {v' : Value} {B' : ByteArray} {hi' hf' : Bool} {ts' : List ByteArray}
    (hp : B5 (W.setCell ⟨gp, i, none⟩ u) gp (.string A') v' (.string B') (.bool hi') (.bool hf')) (ho : (W.setCell ⟨gp, i, none⟩ u).ownsRow (gp + 1) 9 1 v' ts'.length (ts'.map Value.string)) : Cu w (W.setCell ⟨gp, i, none⟩ u) gk gp k0 k1 k2 k3 f0 f1 f2 A' v' B' hi' hf' ts' := by
  have n1 : gp ≠ w.heap.size := by have := h.l1; have := h.l2; omega
  have n2 : gp ≠ gk := by have := h.l2; omega
  exact ⟨h.b.setCell (p := ⟨gp, i, none⟩) (by have := h.l1; have := h.l2; show w.heap.size ≤ gp; omega) _, (set_other _ _ _ _ _ _ n1).trans h.e0, (set_other _ _ _ _ _ _ n1).trans h.e1, (set_other _ _ _ _ _ _ n1).trans h.e2, (set_other _ _ _ _ _ _ n2).trans h.q0, (set_other _ _ _ _ _ _ n2).trans h.q1, (set_other _ _ _ _ _ _ n2).trans h.q2, (set_other _ _ _ _ _ _ n2).trans h.q3, hp, ho, h.l1, h.l2⟩
theorem B5.put0 {W : World} {g : Nat} {a0 a1 a2 a3 a4 : Value} (h : B5 W g a0 a1 a2 a3 a4) (u : Value) : B5 (W.setCell ⟨g, 0, none⟩ u) g u a1 a2 a3 a4 := by
  have o : ∀ (j : Nat), 0 ≠ j → (W.setCell ⟨g, 0, none⟩ u).cell? ⟨g, j, none⟩ = W.cell? ⟨g, j, none⟩ := fun j n => World.cell?_setCell_other _ _ _ _ (fun e => n (congrArg Addr.off e))
  have f : ∀ a, (W.setCell ⟨g, 0, none⟩ u).frozen? a = W.frozen? a := fun a => World.frozen?_setCell _ _ _ _
  exact ⟨World.cell?_setCell_same _ _ _ h.c0, (o 1 (by decide)).trans h.c1, (o 2 (by decide)).trans h.c2, (o 3 (by decide)).trans h.c3, (o 4 (by decide)).trans h.c4, (f _).trans h.f0, (f _).trans h.f1, (f _).trans h.f2, (f _).trans h.f3, (f _).trans h.f4⟩
theorem B5.put2 {W : World} {g : Nat} {a0 a1 a2 a3 a4 : Value} (h : B5 W g a0 a1 a2 a3 a4) (u : Value) : B5 (W.setCell ⟨g, 2, none⟩ u) g a0 a1 u a3 a4 := by
  have o : ∀ (j : Nat), 2 ≠ j → (W.setCell ⟨g, 2, none⟩ u).cell? ⟨g, j, none⟩ = W.cell? ⟨g, j, none⟩ := fun j n => World.cell?_setCell_other _ _ _ _ (fun e => n (congrArg Addr.off e))
  have f : ∀ a, (W.setCell ⟨g, 2, none⟩ u).frozen? a = W.frozen? a := fun a => World.frozen?_setCell _ _ _ _
  exact ⟨(o 0 (by decide)).trans h.c0, (o 1 (by decide)).trans h.c1, World.cell?_setCell_same _ _ _ h.c2, (o 3 (by decide)).trans h.c3, (o 4 (by decide)).trans h.c4, (f _).trans h.f0, (f _).trans h.f1, (f _).trans h.f2, (f _).trans h.f3, (f _).trans h.f4⟩
theorem B5.put3 {W : World} {g : Nat} {a0 a1 a2 a3 a4 : Value} (h : B5 W g a0 a1 a2 a3 a4) (u : Value) : B5 (W.setCell ⟨g, 3, none⟩ u) g a0 a1 a2 u a4 := by
  have o : ∀ (j : Nat), 3 ≠ j → (W.setCell ⟨g, 3, none⟩ u).cell? ⟨g, j, none⟩ = W.cell? ⟨g, j, none⟩ := fun j n => World.cell?_setCell_other _ _ _ _ (fun e => n (congrArg Addr.off e))
  have f : ∀ a, (W.setCell ⟨g, 3, none⟩ u).frozen? a = W.frozen? a := fun a => World.frozen?_setCell _ _ _ _
  exact ⟨(o 0 (by decide)).trans h.c0, (o 1 (by decide)).trans h.c1, (o 2 (by decide)).trans h.c2, World.cell?_setCell_same _ _ _ h.c3, (o 4 (by decide)).trans h.c4, (f _).trans h.f0, (f _).trans h.f1, (f _).trans h.f2, (f _).trans h.f3, (f _).trans h.f4⟩
theorem B5.put4 {W : World} {g : Nat} {a0 a1 a2 a3 a4 : Value} (h : B5 W g a0 a1 a2 a3 a4) (u : Value) : B5 (W.setCell ⟨g, 4, none⟩ u) g a0 a1 a2 a3 u := by
  have o : ∀ (j : Nat), 4 ≠ j → (W.setCell ⟨g, 4, none⟩ u).cell? ⟨g, j, none⟩ = W.cell? ⟨g, j, none⟩ := fun j n => World.cell?_setCell_other _ _ _ _ (fun e => n (congrArg Addr.off e))
  have f : ∀ a, (W.setCell ⟨g, 4, none⟩ u).frozen? a = W.frozen? a := fun a => World.frozen?_setCell _ _ _ _
  exact ⟨(o 0 (by decide)).trans h.c0, (o 1 (by decide)).trans h.c1, (o 2 (by decide)).trans h.c2, (o 3 (by decide)).trans h.c3, World.cell?_setCell_same _ _ _ h.c4, (f _).trans h.f0, (f _).trans h.f1, (f _).trans h.f2, (f _).trans h.f3, (f _).trans h.f4⟩
theorem Cu.setA (h : Cu w W gk gp k0 k1 k2 k3 f0 f1 f2 A v B hi hf ts) (A' : ByteArray) (hi' : Bool) : Cu w ((W.setCell ⟨gp, 0, none⟩ (.string A')).setCell ⟨gp, 3, none⟩ (.bool hi')) gk gp k0 k1 k2 k3 f0 f1 f2 A' v B hi' hf ts := by
  have h1 := h.set 0 (.string A') (h.p.put0 (.string A')) (own_set h.o (by omega))
  exact h1.set 3 (.bool hi') (h1.p.put3 (.bool hi')) (own_set h1.o (by omega))
theorem Cu.setB (h : Cu w W gk gp k0 k1 k2 k3 f0 f1 f2 A v B hi hf ts) (B' : ByteArray) (hf' : Bool) : Cu w ((W.setCell ⟨gp, 2, none⟩ (.string B')).setCell ⟨gp, 4, none⟩ (.bool hf')) gk gp k0 k1 k2 k3 f0 f1 f2 A v B' hi hf' ts := by
  have h1 := h.set 2 (.string B') (h.p.put2 (.string B')) (own_set h.o (by omega))
  exact h1.set 4 (.bool hf') (h1.p.put4 (.bool hf')) (own_set h1.o (by omega))
/-- In a world in which nothing but the pieces' own row has changed, and what they are now. -/
theorem Cu.grown {W2 : World} {v2 : Value} {ts2 : List ByteArray} (h : Cu w W gk gp k0 k1 k2 k3 f0 f1 f2 A v B hi hf ts) (hb : Below (gp + 1) W W2) (ho : W2.ownsRow (gp + 1) 9 1 v2 ts2.length (ts2.map Value.string)) : Cu w (W2.setCell ⟨gp, 1, none⟩ v2) gk gp k0 k1 k2 k3 f0 f1 f2 A v2 B hi hf ts2 := by
  have l1 := h.l1
  have l2 := h.l2
  have k : ∀ {g i : Nat} {u : Value}, g < gp + 1 → W.cell? ⟨g, i, none⟩ = some u → W2.cell? ⟨g, i, none⟩ = some u := fun hg hc => (hb.cell (p := ⟨_, _, none⟩) hg).trans hc
  have f : ∀ {g i : Nat}, g < gp + 1 → W2.frozen? ⟨g, i, none⟩ = W.frozen? ⟨g, i, none⟩ := fun hg => hb.frozen (p := ⟨_, _, none⟩) hg
  have hp : B5 W2 gp (.string A) v (.string B) (.bool hi) (.bool hf) := ⟨k (by omega) h.p.c0, k (by omega) h.p.c1, k (by omega) h.p.c2, k (by omega) h.p.c3, k (by omega) h.p.c4, (f (by omega)).trans h.p.f0, (f (by omega)).trans h.p.f1, (f (by omega)).trans h.p.f2, (f (by omega)).trans h.p.f3, (f (by omega)).trans h.p.f4⟩
  have n1 : gp ≠ w.heap.size := by omega
  have n2 : gp ≠ gk := by omega
  have hbw : Below w.heap.size w W2 := h.b.trans (hb.mono (by omega))
  exact ⟨hbw.setCell (p := ⟨gp, 1, none⟩) (show w.heap.size ≤ gp by omega) _, (set_other _ _ _ _ _ _ n1).trans (k (by omega) h.e0), (set_other _ _ _ _ _ _ n1).trans (k (by omega) h.e1), (set_other _ _ _ _ _ _ n1).trans (k (by omega) h.e2), (set_other _ _ _ _ _ _ n2).trans (k (by omega) h.q0), (set_other _ _ _ _ _ _ n2).trans (k (by omega) h.q1), (set_other _ _ _ _ _ _ n2).trans (k (by omega) h.q2), (set_other _ _ _ _ _ _ n2).trans (k (by omega) h.q3), hp.put1 v2, own_set ho (by omega), l1, l2⟩
end
end Go.Proofs.YtddliikhjilngaaGreatDoor
