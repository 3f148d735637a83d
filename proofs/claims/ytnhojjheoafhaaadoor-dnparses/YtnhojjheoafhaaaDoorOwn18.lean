/- Rows of pairs, and of parts, of a call's own. -/
import Derived.Test.YtnhojjheoafhaaaDoorDl18
namespace Go.Proofs.YtnhojjheoafhaaaDoor
set_option maxRecDepth 100000
open Go.RowKit

/-- The cells of pairs. -/
def cellsP : List Pr → List Value
  | [] => []
  | p :: t => .string p.nam :: .string p.val :: cellsP t
theorem cellsP_len : ∀ r : List Pr, (cellsP r).length = r.length * 2
  | [] => rfl
  | p :: t => by simp [cellsP, cellsP_len t]; omega
theorem cellsP_app : ∀ a b : List Pr, cellsP (a ++ b) = cellsP a ++ cellsP b
  | [], _ => rfl
  | p :: t, b => by simp [cellsP, cellsP_app t b]
theorem cellsP_at : ∀ (r : List Pr) (j : Nat), j < r.length → (cellsP r)[j * 2]? = some (.string (r.getD j pr0).nam) ∧ (cellsP r)[j * 2 + 1]? = some (.string (r.getD j pr0).val)
  | [], j, h => by simp at h
  | p :: t, 0, _ => by simp [cellsP]
  | p :: t, j + 1, h => by
    have := cellsP_at t j (by simpa using h)
    rw [show (j + 1) * 2 = j * 2 + 1 + 1 by omega, show j * 2 + 1 + 1 + 1 = (j * 2 + 1) + 1 + 1 by omega]
    simpa [cellsP] using this
/-- A row of pairs of the call's own. -/
def Rp (B : Nat) (v : Value) (r : List Pr) (w : World) : Prop := w.ownsRow B 44 2 v r.length (cellsP r)
theorem Rp.nil (B : Nat) (w : World) : Rp B (.slice none 0 0) [] w := ⟨rfl, .inl ⟨rfl, rfl⟩⟩
theorem Rp.below {w w2 : World} {B : Nat} {v : Value} {r : List Pr} (h : Rp B v r w) (hb : Below w.heap.size w w2) : Rp B v r w2 := own_below h hb
theorem Rp.base {w : World} {B C : Nat} {v : Value} {r : List Pr} (h : Rp B v r w) (hc : C ≤ B) : Rp C v r w := by
  refine ⟨h.1, ?_⟩
  rcases h.2 with h' | ⟨g, cap, cur, hv, hB, rest⟩
  · exact .inl h'
  · exact .inr ⟨g, cap, cur, hv, Nat.le_trans hc hB, rest⟩
theorem Rp.own {w : World} {B N : Nat} {v : Value} {r : List Pr} (hN : N = r.length) (h : Rp B v r w) : w.ownsRow B 44 2 v N (cellsP r) := by subst hN; exact h
theorem Rp.push {w : World} {B N : Nat} {v : Value} {r : List Pr} {p : Pr} (hN : N = r.length) (h : w.ownsRow B 44 2 v (N + 1) (cellsP r ++ [.string p.nam, .string p.val])) : Rp B v (r ++ [p]) w := by
  subst hN
  unfold Rp
  rw [List.length_append, cellsP_app]
  exact h
theorem Rp.ps {w : World} {B : Nat} {v : Value} {r : List Pr} (h : Rp B v r w) (hl : r.length ≤ 9223372036854775807) : PsV w v r := by
  rcases h.2 with ⟨hv, h0⟩ | ⟨g, cap, cur, hv, _⟩
  · exact ⟨none, 0, by rw [hv, h0], hl, fun hi => by omega⟩
  · refine ⟨some ⟨g, 0, none⟩, cap, hv, hl, fun hi => ⟨g, 0, rfl, fun j hj => ?_⟩⟩
    obtain ⟨c1, c2⟩ := cellsP_at r j hj
    have k1 := World.ownsRow.cells h (g := g) (by rw [hv]; rfl) _ _ c1
    have k2 := World.ownsRow.cells h (g := g) (by rw [hv]; rfl) _ _ c2
    rw [add_zero3] at k1 k2
    rw [Nat.zero_add]
    exact ⟨k1, k2⟩
theorem Rp.lt {w : World} {B : Nat} {v : Value} {r : List Pr} (h : Rp B v r w) : ∀ g, v.ownBlock = some g → g < w.heap.size := fun g hg => (World.ownsRow.lt h g hg).2
theorem own_apart {w : World} {B C e f s t n m : Nat} {v u : Value} {xs ys : List Value} (h1 : w.ownsRow B e s v n xs) (h2 : w.ownsRow C f t u m ys) (hne : e ≠ f) : v.ownBlock = none ∨ v.ownBlock ≠ u.ownBlock := by
  rcases h1.2 with ⟨hv, _⟩ | ⟨g, cap, cur, hv, _, hg, _⟩
  · left; rw [hv]; rfl
  · right
    rcases h2.2 with ⟨hu, _⟩ | ⟨k, cap2, cur2, hu, _, hk, _⟩
    · rw [hv, hu]; simp [Value.ownBlock]
    · rw [hv, hu]
      intro e
      simp only [Value.ownBlock, Option.some.injEq] at e
      subst e
      rw [hg] at hk
      have := Option.some.inj hk
      injection this with _ h2
      exact hne h2
/-- A row of parts of the call's own (the first C blocks hold the parts), behind a row of pairs that grows. -/
structure Pt (B C : Nat) (vn vr : Value) (vs : List Value) (n : List (List Pr)) (r : List Pr) (w : World) : Prop where
  len : vs.length = n.length
  own : w.ownsRow B 30 1 vn n.length vs
  each : ∀ j, j < n.length → Rp 0 (vs.getD j undef) (n.getD j []) w ∧ ∀ g, (vs.getD j undef).ownBlock = some g → g < C
  row : Rp C vr r w
  big : B ≤ C
  le : C ≤ w.heap.size
theorem Pt.start (w : World) : Pt w.heap.size w.heap.size (.slice none 0 0) (.slice none 0 0) [] [] [] w :=
  ⟨rfl, ⟨rfl, .inl ⟨rfl, rfl⟩⟩, fun _ hj => absurd hj (Nat.not_lt_zero _), Rp.nil _ _, Nat.le_refl _, Nat.le_refl _⟩
theorem Pt.below {B C : Nat} {vn vr : Value} {vs : List Value} {n : List (List Pr)} {r : List Pr} {w w2 : World} (h : Pt B C vn vr vs n r w) (hb : Below w.heap.size w w2) : Pt B C vn vr vs n r w2 :=
  ⟨h.len, own_below h.own hb, fun j hj => ⟨(h.each j hj).1.below hb, (h.each j hj).2⟩, h.row.below hb, h.big, Nat.le_trans h.le hb.size⟩
/-- A pair more. -/
theorem Pt.pair {B C : Nat} {vn vr v2 : Value} {vs : List Value} {n : List (List Pr)} {r : List Pr} {p : Pr} {w w2 : World} (h : Pt B C vn vr vs n r w) (hg : w.grownBy w2 vr.ownBlock) (ho : Rp C v2 (r ++ [p]) w2) : Pt B C vn v2 vs n (r ++ [p]) w2 := by
  refine ⟨h.len, h.own.kept hg (own_apart h.own h.row (by decide)), fun j hj => ⟨?_, (h.each j hj).2⟩, ho, h.big, Nat.le_trans h.le hg.size⟩
  refine World.ownsRow.kept (h.each j hj).1 hg ?_
  cases hv : (vs.getD j undef).ownBlock with
  | none => exact .inl rfl
  | some g =>
    refine .inr fun e => ?_
    have h1 := (h.each j hj).2 g hv
    have h2 := own_block h.row g e.symm
    omega
/-- A part more. -/
theorem Pt.part {B C : Nat} {vn vr v2 : Value} {vs : List Value} {n : List (List Pr)} {r : List Pr} {w w2 : World} (h : Pt B C vn vr vs n r w) (hg : w.grownBy w2 vn.ownBlock) (ho : w2.ownsRow B 30 1 v2 (n.length + 1) (vs ++ [vr])) : Pt B w2.heap.size v2 (.slice none 0 0) (vs ++ [vr]) (n ++ [r]) [] w2 := by
  have hk : ∀ j, j < n.length → Rp 0 (vs.getD j undef) (n.getD j []) w2 := fun j hj => World.ownsRow.kept (h.each j hj).1 hg (own_apart (h.each j hj).1 h.own (by decide))
  refine ⟨by simp [h.len], by rw [List.length_append]; exact ho, fun j hj => ?_, Rp.nil _ _, Nat.le_trans h.big (Nat.le_trans h.le hg.size), Nat.le_refl _⟩
  rw [List.length_append, List.length_singleton] at hj
  by_cases e : j < n.length
  · have e1 : (vs ++ [vr]).getD j undef = vs.getD j undef := by simp [List.getD, List.getElem?_append_left (show j < vs.length by rw [h.len]; exact e)]
    have e2 : (n ++ [r]).getD j [] = n.getD j [] := by simp [List.getD, List.getElem?_append_left e]
    rw [e1, e2]
    exact ⟨hk j e, fun g hq => Nat.lt_of_lt_of_le ((h.each j e).2 g hq) (Nat.le_trans h.le hg.size)⟩
  · have e0 : j = n.length := by omega
    subst e0
    have e1 : (vs ++ [vr]).getD n.length undef = vr := by simp [List.getD, ← h.len]
    have e2 : (n ++ [r]).getD n.length [] = r := by simp [List.getD]
    rw [e1, e2]
    have hr : Rp 0 vr r w2 := Rp.base (World.ownsRow.kept h.row hg (own_apart h.row h.own (by decide))) (Nat.zero_le _)
    exact ⟨hr, hr.lt⟩
theorem Pt.ownN {B C N : Nat} {vn vr : Value} {vs : List Value} {n : List (List Pr)} {r : List Pr} {w : World} (hN : N = n.length) (h : Pt B C vn vr vs n r w) : w.ownsRow B 30 1 vn N vs := by subst hN; exact h.own
theorem Pt.bel_r {B C : Nat} {vn vr : Value} {vs : List Value} {n : List (List Pr)} {r : List Pr} {w w0 w2 : World} (h : Pt B C vn vr vs n r w) (hb : Below B w0 w) (hg : w.grownBy w2 vr.ownBlock) : Below B w0 w2 :=
  hb.trans (below_own hg (Nat.le_trans h.big h.le) (fun g e => Nat.le_trans h.big (own_block h.row g e)))
theorem Pt.bel_n {B C : Nat} {vn vr : Value} {vs : List Value} {n : List (List Pr)} {r : List Pr} {w w0 w2 : World} (h : Pt B C vn vr vs n r w) (hb : Below B w0 w) (hg : w.grownBy w2 vn.ownBlock) : Below B w0 w2 :=
  hb.trans (below_own hg (Nat.le_trans h.big h.le) (own_block h.own))
theorem Pt.nm {B C : Nat} {vn vr : Value} {vs : List Value} {n : List (List Pr)} {r : List Pr} {w : World} (h : Pt B C vn vr vs n r w) (hn : n.length ≤ 9223372036854775807) (hr : ∀ r ∈ n, r.length ≤ 9223372036854775807) : NmV w vn n := by
  rcases h.own.2 with ⟨hv, h0⟩ | ⟨g, cap, cur, hv, _, _, hc, _⟩
  · exact ⟨none, 0, by rw [hv, h0], by omega, hn, fun hi => by omega⟩
  · refine ⟨some ⟨g, 0, none⟩, cap, hv, hc, hn, fun hi => ⟨g, 0, rfl, fun j hj => ⟨vs.getD j undef, ?_, (h.each j hj).1.ps (hr _ (getD_memR n j hj))⟩⟩⟩
    have := World.ownsRow.cells h.own (g := g) (by rw [hv]; rfl) j (vs.getD j undef) (by have := h.len; simp [List.getD, show j < vs.length by omega])
    rw [add_zero3] at this
    rw [Nat.zero_add]
    exact this
end Go.Proofs.YtnhojjheoafhaaaDoor
