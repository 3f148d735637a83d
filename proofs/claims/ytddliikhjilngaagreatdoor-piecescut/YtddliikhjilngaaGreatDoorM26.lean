/- pieces.Prepare: of one piece in the midst, folded; of none. -/
import Derived.Test.YtddliikhjilngaaGreatDoorM21
import Derived.Test.YtddliikhjilngaaGreatDoorM25
import Derived.Handy
namespace Go.Proofs.YtddliikhjilngaaGreatDoor
set_option maxRecDepth 100000
open Go.RowKit

/-- The worlds of Prepare's first three boxes. -/
theorem boxes13 (w : World) (A B : Obj) (R : TypeId) (a0 a1 a2 a3 a4 : Value) : B5 (((w.alloc A).alloc B).alloc (.cells #[a0, a1, a2, a3, a4] R)) (w.heap.size + 1 + 1) a0 a1 a2 a3 a4 := by
  have h := B5.new ((w.alloc A).alloc B) a0 a1 a2 a3 a4 R
  have e : ((w.alloc A).alloc B).heap.size = w.heap.size + 1 + 1 := by simp
  rwa [e] at h
theorem three13 (w : World) (A B C : Obj) : Below w.heap.size w (((w.alloc A).alloc B).alloc C) := by
  have b1 := Below.one w A
  have b2 := b1.alloc b1.size B
  exact b2.alloc b2.size C
set_option maxHeartbeats 1000000 in
/-- Of no piece: an error. -/
theorem prepare_none (w : World) : Calls Tryz.prog 12 #[.int .i64 2, .agg #[.string ⟨#[]⟩, .slice none 0 0, .string ⟨#[]⟩, .bool false, .bool false]] w fun e w' => e = .returned (.tuple #[.agg #[.string ⟨#[]⟩, .slice none 0 0, .string ⟨#[]⟩, .bool false, .bool false], .int .i64 2]) ∧ Below w.heap.size w w' := by
  have HC := hide (fun W => check_any ⟨#[]⟩ ⟨#[]⟩ (.slice none 0 0) [] false false W (Txs.nil W none 0))
  rw [show chkI ⟨#[]⟩ ⟨#[]⟩ [] false false = 2 by kernel_rfl] at HC
  have B := hide (boxes13 w (.cells #[.int .i64 2] 3) (.cells #[.string ⟨#[]⟩, .slice none 0 0, .string ⟨#[]⟩, .bool false, .bool false] 29) 29 (.string ⟨#[]⟩) (.slice none 0 0) (.string ⟨#[]⟩) (.bool false) (.bool false))
  have hb3 := three13 w (.cells #[.int .i64 2] 3) (.cells #[.string ⟨#[]⟩, .slice none 0 0, .string ⟨#[]⟩, .bool false, .bool false] 29) (.cells #[.string ⟨#[]⟩, .slice none 0 0, .string ⟨#[]⟩, .bool false, .bool false] 29)
  go_enter Tryz.func12, Tryz.ntmps12
  go_wp2_with (go_at_call 8; refine (unhide HC _).mono ?_; rintro e w1 ⟨rfl, b1⟩; have B1 := (unhide B).keep b1; obtain ⟨c0, c1, c2, c3, c4, f0, f1, f2, f3, f4⟩ := B1)
  rw [setCell_again c0, setCell_again c1, setCell_again c2, setCell_again c3, setCell_again c4]
  refine bodyPost_ret (by simp [results, Tryz.results12, go_sem, c0, c1, c2, c3, c4]; try rfl) rfl ?_
  exact ⟨rfl, hb3.trans (b1.mono hb3.size)⟩
/-- Prepare's first three boxes: the way, the pieces, the answer. -/
structure P3 (W : World) (N : Nat) (v : Value) : Prop where
  way : W.cell? ⟨N, 0, none⟩ = some (.int .i64 2)
  p : B5 W (N + 1) (.string ⟨#[]⟩) v (.string ⟨#[]⟩) (.bool false) (.bool false)
  r : B5 W (N + 1 + 1) (.string ⟨#[]⟩) (.slice none 0 0) (.string ⟨#[]⟩) (.bool false) (.bool false)
theorem P3.keep {W W2 : World} {N : Nat} {v : Value} (h : P3 W N v) (hb : Below W.heap.size W W2) : P3 W2 N v := ⟨(hb.cell (cell_lt h.way)).trans h.way, h.p.keep hb, h.r.keep hb⟩
theorem P3.new (w : World) (v : Value) : P3 (((w.alloc (.cells #[.int .i64 2] 3)).alloc (.cells #[.string ⟨#[]⟩, v, .string ⟨#[]⟩, .bool false, .bool false] 29)).alloc (.cells #[.string ⟨#[]⟩, .slice none 0 0, .string ⟨#[]⟩, .bool false, .bool false] 29)) w.heap.size v := by
  refine ⟨?_, ?_, boxes13 _ _ _ _ _ _ _ _ _⟩
  · have h := box1 w (.int .i64 2) 3
    have b1 := Below.one (w.alloc (.cells #[.int .i64 2] 3)) (.cells #[.string ⟨#[]⟩, v, .string ⟨#[]⟩, .bool false, .bool false] 29)
    have b2 := b1.alloc b1.size (.cells #[.string ⟨#[]⟩, .slice none 0 0, .string ⟨#[]⟩, .bool false, .bool false] 29)
    exact (b2.cell (cell_lt h)).trans h
  · have h := B5.new (w.alloc (.cells #[.int .i64 2] 3)) (.string ⟨#[]⟩) v (.string ⟨#[]⟩) (.bool false) (.bool false) 29
    have e : (w.alloc (.cells #[.int .i64 2] 3)).heap.size = w.heap.size + 1 := by simp
    rw [e] at h
    exact h.keep (Below.one _ _)
/-- Behind the making: the first error's box, the pieces made, the texts between. -/
structure M13 (w2 W : World) (gf gm ga : Nat) (x : ByteArray) : Prop where
  b : Below w2.heap.size w2 W
  fc : W.cell? ⟨gf, 0, none⟩ = some (.int .i64 0)
  ff : W.frozen? ⟨gf, 0, none⟩ = false
  m : B5 W gm (.string ⟨#[]⟩) (.slice (some ⟨ga, 0, none⟩) 1 1) (.string ⟨#[]⟩) (.bool false) (.bool false)
  a : W.cell? ⟨ga, 0, none⟩ = some (.string x)
  fa : W.frozen? ⟨ga, 0, none⟩ = false
  hm : w2.heap.size ≤ gm
  ha : w2.heap.size ≤ ga
  n1 : ga ≠ gf
  n2 : ga ≠ gm
theorem M13.keep {w2 W W2 : World} {gf gm ga : Nat} {x : ByteArray} (h : M13 w2 W gf gm ga x) (hb : Below W.heap.size W W2) : M13 w2 W2 gf gm ga x :=
  ⟨h.b.trans (hb.mono h.b.size), (hb.cell (cell_lt h.fc)).trans h.fc, (hb.frozen (p := ⟨gf, 0, none⟩) (cell_lt h.fc)).trans h.ff, h.m.keep hb, (hb.cell (cell_lt h.a)).trans h.a, (hb.frozen (p := ⟨ga, 0, none⟩) (cell_lt h.a)).trans h.fa, h.hm, h.ha, h.n1, h.n2⟩
theorem addr_ne {g h : Nat} {i j : Nat} (n : g ≠ h) : (⟨g, i, none⟩ : Addr) ≠ ⟨h, j, none⟩ := fun e => n (congrArg Addr.block e)
theorem M13.put {w2 W : World} {gf gm ga : Nat} {x : ByteArray} (h : M13 w2 W gf gm ga x) (y : ByteArray) : M13 w2 (W.setCell ⟨ga, 0, none⟩ (.string y)) gf gm ga y := by
  have o : ∀ {p : Nat} {i : Nat}, ga ≠ p → (W.setCell ⟨ga, 0, none⟩ (.string y)).cell? ⟨p, i, none⟩ = W.cell? ⟨p, i, none⟩ := fun n => World.cell?_setCell_other _ _ _ _ (addr_ne n)
  have f : ∀ a, (W.setCell ⟨ga, 0, none⟩ (.string y)).frozen? a = W.frozen? a := fun a => World.frozen?_setCell _ _ _ _
  refine ⟨h.b.setCell (p := ⟨ga, 0, none⟩) h.ha _, (o h.n1).trans h.fc, (f _).trans h.ff, ?_, World.cell?_setCell_same _ _ _ h.a, (f _).trans h.fa, h.hm, h.ha, h.n1, h.n2⟩
  exact ⟨(o h.n2).trans h.m.c0, (o h.n2).trans h.m.c1, (o h.n2).trans h.m.c2, (o h.n2).trans h.m.c3, (o h.n2).trans h.m.c4, (f _).trans h.m.f0, (f _).trans h.m.f1, (f _).trans h.m.f2, (f _).trans h.m.f3, (f _).trans h.m.f4⟩
theorem M13.drewN {w2 W : World} {gf gm ga : Nat} {x : ByteArray} (h : M13 w2 W gf gm ga x) (n : Nat) : M13 w2 (W.drewN n) gf gm ga x := h.keep (below_drewN (Below.refl _ _) n)
/-- Both orders in which the two blocks may be laid. -/
theorem M13.newA (w2 : World) (T T2 T3 : TypeId) : M13 w2 (((w2.alloc (.cells #[.int .i64 0] T)).alloc (.cells #[.string ⟨#[]⟩] T2)).alloc (.cells #[.string ⟨#[]⟩, .slice (some ⟨w2.heap.size + 1, 0, none⟩) 1 1, .string ⟨#[]⟩, .bool false, .bool false] T3)) w2.heap.size (w2.heap.size + 1 + 1) (w2.heap.size + 1) ⟨#[]⟩ := by
  have b1 := Below.one (w2.alloc (.cells #[.int .i64 0] T)) (.cells #[.string ⟨#[]⟩] T2)
  have b2 := b1.alloc b1.size (.cells #[.string ⟨#[]⟩, .slice (some ⟨w2.heap.size + 1, 0, none⟩) 1 1, .string ⟨#[]⟩, .bool false, .bool false] T3)
  have b3 := Below.one ((w2.alloc (.cells #[.int .i64 0] T)).alloc (.cells #[.string ⟨#[]⟩] T2)) (.cells #[.string ⟨#[]⟩, .slice (some ⟨w2.heap.size + 1, 0, none⟩) 1 1, .string ⟨#[]⟩, .bool false, .bool false] T3)
  have h1 := box1 w2 (.int .i64 0) T
  have h2 := box1 (w2.alloc (.cells #[.int .i64 0] T)) (.string ⟨#[]⟩) T2
  have f2 := fresh_frozen (w2.alloc (.cells #[.int .i64 0] T)) #[.string ⟨#[]⟩] T2 0
  have e1 : (w2.alloc (.cells #[.int .i64 0] T)).heap.size = w2.heap.size + 1 := by simp
  rw [e1] at h2 f2
  refine ⟨three13 _ _ _ _, (b2.cell (cell_lt h1)).trans h1, (b2.frozen (p := ⟨w2.heap.size, 0, none⟩) (cell_lt h1)).trans (fresh_frozen _ _ _ _), boxes13 _ _ _ _ _ _ _ _ _, (b3.cell (cell_lt h2)).trans h2, (b3.frozen (p := ⟨w2.heap.size + 1, 0, none⟩) (cell_lt h2)).trans f2, by omega, by omega, by omega, by omega⟩
theorem M13.newB (w2 : World) (T T2 T3 : TypeId) : M13 w2 (((w2.alloc (.cells #[.int .i64 0] T)).alloc (.cells #[.string ⟨#[]⟩, .slice (some ⟨w2.heap.size + 1 + 1, 0, none⟩) 1 1, .string ⟨#[]⟩, .bool false, .bool false] T3)).alloc (.cells #[.string ⟨#[]⟩] T2)) w2.heap.size (w2.heap.size + 1) (w2.heap.size + 1 + 1) ⟨#[]⟩ := by
  have b1 := Below.one (w2.alloc (.cells #[.int .i64 0] T)) (.cells #[.string ⟨#[]⟩, .slice (some ⟨w2.heap.size + 1 + 1, 0, none⟩) 1 1, .string ⟨#[]⟩, .bool false, .bool false] T3)
  have b2 := b1.alloc b1.size (.cells #[.string ⟨#[]⟩] T2)
  have b3 := Below.one ((w2.alloc (.cells #[.int .i64 0] T)).alloc (.cells #[.string ⟨#[]⟩, .slice (some ⟨w2.heap.size + 1 + 1, 0, none⟩) 1 1, .string ⟨#[]⟩, .bool false, .bool false] T3)) (.cells #[.string ⟨#[]⟩] T2)
  have h1 := box1 w2 (.int .i64 0) T
  have h2 := B5.new (w2.alloc (.cells #[.int .i64 0] T)) (.string ⟨#[]⟩) (.slice (some ⟨w2.heap.size + 1 + 1, 0, none⟩) 1 1) (.string ⟨#[]⟩) (.bool false) (.bool false) T3
  have h3 := box1 ((w2.alloc (.cells #[.int .i64 0] T)).alloc (.cells #[.string ⟨#[]⟩, .slice (some ⟨w2.heap.size + 1 + 1, 0, none⟩) 1 1, .string ⟨#[]⟩, .bool false, .bool false] T3)) (.string ⟨#[]⟩) T2
  have f3 := fresh_frozen ((w2.alloc (.cells #[.int .i64 0] T)).alloc (.cells #[.string ⟨#[]⟩, .slice (some ⟨w2.heap.size + 1 + 1, 0, none⟩) 1 1, .string ⟨#[]⟩, .bool false, .bool false] T3)) #[.string ⟨#[]⟩] T2 0
  have e1 : (w2.alloc (.cells #[.int .i64 0] T)).heap.size = w2.heap.size + 1 := by simp
  have e2 : ((w2.alloc (.cells #[.int .i64 0] T)).alloc (.cells #[.string ⟨#[]⟩, .slice (some ⟨w2.heap.size + 1 + 1, 0, none⟩) 1 1, .string ⟨#[]⟩, .bool false, .bool false] T3)).heap.size = w2.heap.size + 1 + 1 := by simp
  rw [e1] at h2
  rw [e2] at h3 f3
  refine ⟨three13 _ _ _ _, (b2.cell (cell_lt h1)).trans h1, (b2.frozen (p := ⟨w2.heap.size, 0, none⟩) (cell_lt h1)).trans (fresh_frozen _ _ _ _), h2.keep b3, h3, f3, by omega, by omega, by omega, by omega⟩
/-- Five cells stored. -/
theorem B5.store {W : World} {g : Nat} {a0 a1 a2 a3 a4 : Value} (h : B5 W g a0 a1 a2 a3 a4) (b0 b1 b2 b3 b4 : Value) :
    B5 (((((W.setCell ⟨g, 0, none⟩ b0).setCell ⟨g, 1, none⟩ b1).setCell ⟨g, 2, none⟩ b2).setCell ⟨g, 3, none⟩ b3).setCell ⟨g, 4, none⟩ b4) g b0 b1 b2 b3 b4 ∧
    (∀ p i, p ≠ g → (((((W.setCell ⟨g, 0, none⟩ b0).setCell ⟨g, 1, none⟩ b1).setCell ⟨g, 2, none⟩ b2).setCell ⟨g, 3, none⟩ b3).setCell ⟨g, 4, none⟩ b4).cell? ⟨p, i, none⟩ = W.cell? ⟨p, i, none⟩) ∧
    ∀ B w, B ≤ g → Below B w W → Below B w (((((W.setCell ⟨g, 0, none⟩ b0).setCell ⟨g, 1, none⟩ b1).setCell ⟨g, 2, none⟩ b2).setCell ⟨g, 3, none⟩ b3).setCell ⟨g, 4, none⟩ b4) := by
  have o : ∀ (V : World) (i j p : Nat) (b : Value), i ≠ j → (V.setCell ⟨g, i, none⟩ b).cell? ⟨g, j, none⟩ = V.cell? ⟨g, j, none⟩ := fun V i j p b n => World.cell?_setCell_other _ _ _ _ (fun e => n (congrArg Addr.off e))
  have f : ∀ (V : World) (a b : Addr) (v : Value), (V.setCell a v).frozen? b = V.frozen? b := fun V a b v => World.frozen?_setCell _ _ _ _
  refine ⟨⟨?_, ?_, ?_, ?_, ?_, ?_, ?_, ?_, ?_, ?_⟩, ?_, ?_⟩
  · rw [o _ 4 0 0 _ (by decide), o _ 3 0 0 _ (by decide), o _ 2 0 0 _ (by decide), o _ 1 0 0 _ (by decide)]
    exact World.cell?_setCell_same _ _ _ h.c0
  · rw [o _ 4 1 0 _ (by decide), o _ 3 1 0 _ (by decide), o _ 2 1 0 _ (by decide)]
    exact World.cell?_setCell_same _ _ _ ((o _ 0 1 0 _ (by decide)).trans h.c1)
  · rw [o _ 4 2 0 _ (by decide), o _ 3 2 0 _ (by decide)]
    exact World.cell?_setCell_same _ _ _ ((o _ 1 2 0 _ (by decide)).trans ((o _ 0 2 0 _ (by decide)).trans h.c2))
  · rw [o _ 4 3 0 _ (by decide)]
    exact World.cell?_setCell_same _ _ _ ((o _ 2 3 0 _ (by decide)).trans ((o _ 1 3 0 _ (by decide)).trans ((o _ 0 3 0 _ (by decide)).trans h.c3)))
  · exact World.cell?_setCell_same _ _ _ ((o _ 3 4 0 _ (by decide)).trans ((o _ 2 4 0 _ (by decide)).trans ((o _ 1 4 0 _ (by decide)).trans ((o _ 0 4 0 _ (by decide)).trans h.c4))))
  · rw [f, f, f, f, f]; exact h.f0
  · rw [f, f, f, f, f]; exact h.f1
  · rw [f, f, f, f, f]; exact h.f2
  · rw [f, f, f, f, f]; exact h.f3
  · rw [f, f, f, f, f]; exact h.f4
  · intro p i n
    have q : ∀ (V : World) (j : Nat) (b : Value), (V.setCell ⟨g, j, none⟩ b).cell? ⟨p, i, none⟩ = V.cell? ⟨p, i, none⟩ := fun V j b => World.cell?_setCell_other _ _ _ _ (addr_ne (Ne.symm n))
    rw [q, q, q, q, q]
  · intro B w hB hb
    exact ((((hb.setCell (p := ⟨g, 0, none⟩) hB _).setCell (p := ⟨g, 1, none⟩) hB _).setCell (p := ⟨g, 2, none⟩) hB _).setCell (p := ⟨g, 3, none⟩) hB _).setCell (p := ⟨g, 4, none⟩) hB _
end Go.Proofs.YtddliikhjilngaaGreatDoor
