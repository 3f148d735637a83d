/- A row of filters of a call's own. (By gen_own.py.) -/
import Derived.Test.YthbldkkjjjmegaaGreatDoorM14
namespace Go.Proofs.YthbldkkjjjmegaaGreatDoor
set_option maxRecDepth 100000
open Go.RowKit

theorem FlVP.cellsKept {P Q : Nat → Prop} {w w2 : World} {e : Fl} {x : Value} (h : FlVP P w e x) (hq : ∀ g, P g → Q g) (hk : ∀ g, P g → w2.heap[g]? = w.heap[g]?) : FlVP Q w2 e x := h.mono hq hk
/-- The cells of a row of filters. -/
def FlatF (P : Nat → Prop) (w : World) : List Fl → List Value → Prop
  | [], cs => cs = []
  | e :: t, cs => ∃ a0 a1 a2 a3 a4 a5 a6 a7 a8 a9 a10 r, cs = a0 :: a1 :: a2 :: a3 :: a4 :: a5 :: a6 :: a7 :: a8 :: a9 :: a10 :: r ∧ FlVP P w e (.agg #[a0, a1, a2, a3, a4, a5, a6, a7, a8, a9, a10]) ∧ FlatF P w t r
theorem FlatF.kept {P Q : Nat → Prop} {w w2 : World} (hq : ∀ g, P g → Q g) (hk : ∀ g, P g → w2.heap[g]? = w.heap[g]?) : ∀ (l : List Fl) (cs : List Value), FlatF P w l cs → FlatF Q w2 l cs
  | [], _, h => h
  | e :: t, cs, h => by
    obtain ⟨a0, a1, a2, a3, a4, a5, a6, a7, a8, a9, a10, r, hcs, hv, ht⟩ := h
    exact ⟨a0, a1, a2, a3, a4, a5, a6, a7, a8, a9, a10, r, hcs, hv.mono hq hk, FlatF.kept hq hk t r ht⟩
theorem FlatF.snoc {P : Nat → Prop} {w : World} {e : Fl} {a0 a1 a2 a3 a4 a5 a6 a7 a8 a9 a10 : Value} (he : FlVP P w e (.agg #[a0, a1, a2, a3, a4, a5, a6, a7, a8, a9, a10])) : ∀ (l : List Fl) (cs : List Value), FlatF P w l cs → FlatF P w (l ++ [e]) (cs ++ [a0, a1, a2, a3, a4, a5, a6, a7, a8, a9, a10])
  | [], cs, h => by
    have : cs = [] := h
    subst this
    exact ⟨a0, a1, a2, a3, a4, a5, a6, a7, a8, a9, a10, [], rfl, he, rfl⟩
  | x :: t, cs, h => by
    obtain ⟨b0, b1, b2, b3, b4, b5, b6, b7, b8, b9, b10, r, hcs, hv, ht⟩ := h
    subst hcs
    exact ⟨b0, b1, b2, b3, b4, b5, b6, b7, b8, b9, b10, r ++ [a0, a1, a2, a3, a4, a5, a6, a7, a8, a9, a10], by simp, hv, FlatF.snoc he t r ht⟩
theorem FlatF.at {P : Nat → Prop} {w : World} {g : Nat} : ∀ (l : List Fl) (cs : List Value) (off : Nat), FlatF P w l cs → (∀ j u, cs[j]? = some u → w.cell? ⟨g, off + j, none⟩ = some u) → FlV.L w l g off
  | [], _, _, _, _ => by simp only [FlV.L]
  | e :: t, cs, off, h, hc => by
    obtain ⟨a0, a1, a2, a3, a4, a5, a6, a7, a8, a9, a10, r, hcs, hv, ht⟩ := h
    subst hcs
    simp only [FlV.L]
    refine ⟨⟨a0, a1, a2, a3, a4, a5, a6, a7, a8, a9, a10, hc 0 a0 rfl, hc 1 a1 rfl, hc 2 a2 rfl, hc 3 a3 rfl, hc 4 a4 rfl, hc 5 a5 rfl, hc 6 a6 rfl, hc 7 a7 rfl, hc 8 a8 rfl, hc 9 a9 rfl, hc 10 a10 rfl, hv.flv⟩, FlatF.at t r (off + 11) ht fun j u hu => ?_⟩
    have := hc (11 + j) u (by rw [Nat.add_comm]; simpa using hu)
    rwa [show off + (11 + j) = off + 11 + j by omega] at this
/-- The row of filters that a call lays: their own things lie in blocks from B on, and not in the row's. -/
def Ko (B : Nat) (v : Value) (l : List Fl) (w : World) : Prop := ∃ cs, w.ownsRow B 27 11 v l.length cs ∧ FlatF (fun g => B ≤ g ∧ g < w.heap.size ∧ some g ≠ v.ownBlock) w l cs
theorem Ko.nil (B : Nat) (w : World) : Ko B (.slice none 0 0) [] w := ⟨[], ⟨rfl, .inl ⟨rfl, rfl⟩⟩, rfl⟩
theorem Ko.shape {B : Nat} {v : Value} {l : List Fl} {w : World} (h : Ko B v l w) : ∃ a c, v = .slice a l.length c := by
  obtain ⟨cs, ho, _⟩ := h
  rcases ho.2 with ⟨hv, h0⟩ | ⟨g, cap, cur, hv, _⟩
  · exact ⟨none, 0, by rw [hv, h0]⟩
  · exact ⟨_, cap, hv⟩
/-- Another world in which all blocks from B on, up to the old world's end, lie as they lay. -/
theorem Ko.kept {B : Nat} {v : Value} {l : List Fl} {w w2 : World} (h : Ko B v l w) (hs : w.heap.size ≤ w2.heap.size) (hk : ∀ k, B ≤ k → k < w.heap.size → w2.heap[k]? = w.heap[k]?) : Ko B v l w2 := by
  obtain ⟨cs, ho, hf⟩ := h
  refine ⟨cs, ?_, FlatF.kept (fun g hg => ⟨hg.1, by omega, hg.2.2⟩) (fun g hg => hk g hg.1 hg.2.1) l cs hf⟩
  refine ⟨ho.1, ho.2.imp (fun h => h) ?_⟩
  rintro ⟨g, cap, cur, hv, hB, hg, hr⟩
  exact ⟨g, cap, cur, hv, hB, (hk g hB (Array.getElem?_eq_some_iff.1 hg).1).trans hg, hr⟩
theorem Ko.below {B : Nat} {v : Value} {l : List Fl} {w w2 : World} (h : Ko B v l w) (hb : Below w.heap.size w w2) : Ko B v l w2 := h.kept hb.size fun k _ hk => hb.block k hk
/-- The filter whose kids these are. -/
theorem Ko.flvp {B : Nat} {v : Value} {l : List Fl} {w : World} (h : Ko B v l w) (hl : l.length ≤ 9223372036854775807) (k : Int) : FlVP (fun g => B ≤ g ∧ g < w.heap.size) w (kndF k l) (.agg #[.int .i64 k, .string ⟨#[]⟩, .string ⟨#[]⟩, .string ⟨#[]⟩, .slice none 0 0, .string ⟨#[]⟩, .bool false, .bool false, .string ⟨#[]⟩, .bool false, v]) := by
  intro W2 hk
  obtain ⟨cs, ho, hf⟩ := h
  have hf2 : FlatF (fun g => B ≤ g ∧ g < w.heap.size) W2 l cs := FlatF.kept (fun g hg => ⟨hg.1, hg.2.1⟩) (fun g hg => hk g ⟨hg.1, hg.2.1⟩) l cs hf
  unfold kndF
  simp only [FlV]
  rcases ho.2 with ⟨hv, h0⟩ | ⟨g, cap, cur, hv, hB, hg, _⟩
  · exact ⟨none, 0, none, 0, by rw [hv, h0]; rfl, TxC.nil _ _, hl, .inl h0⟩
  · refine ⟨none, 0, some ⟨g, 0, none⟩, cap, by rw [hv]; rfl, TxC.nil _ _, hl, .inr ⟨g, 0, rfl, ?_⟩⟩
    have hgs : g < w.heap.size := (Array.getElem?_eq_some_iff.1 hg).1
    refine FlatF.at l cs 0 hf2 fun j u hu => ?_
    have := World.ownsRow.cells ho (g := g) (by rw [hv]; rfl) j u hu
    rw [add_zero3] at this
    rw [Nat.zero_add]
    have e := hk g ⟨hB, hgs⟩
    rw [← this]
    simp only [World.cell?, e]
/-- One more behind it. -/
theorem Ko.push {B N g1 cap1 H : Nat} {v : Value} {l : List Fl} {w w1 : World} {cs : List Value} {e : Fl} {a0 a1 a2 a3 a4 a5 a6 a7 a8 a9 a10 : Value} (hN : N = l.length)
    (hf : FlatF (fun g => B ≤ g ∧ g < w.heap.size ∧ some g ≠ v.ownBlock) w l cs) (he : FlVP (fun g => B ≤ g ∧ g < w.heap.size ∧ some g ≠ v.ownBlock) w e (.agg #[a0, a1, a2, a3, a4, a5, a6, a7, a8, a9, a10]))
    (ho : w1.ownsRow B 27 11 (.slice (.some ⟨g1, 0, none⟩) (N + 1) cap1) (N + 1) (cs ++ [a0, a1, a2, a3, a4, a5, a6, a7, a8, a9, a10])) (hg : w.grownBy w1 v.ownBlock) (hat : v.ownBlock = some g1 ∨ g1 = H) (hH : w.heap.size = H) : Ko B (.slice (.some ⟨g1, 0, none⟩) (N + 1) cap1) (l ++ [e]) w1 := by
  subst hN
  refine ⟨cs ++ [a0, a1, a2, a3, a4, a5, a6, a7, a8, a9, a10], by simpa using ho, ?_⟩
  have hs := hg.size
  refine FlatF.kept ?_ ?_ _ _ (FlatF.snoc he l cs hf)
  · intro g hp
    refine ⟨hp.1, by omega, ?_⟩
    show some g ≠ some g1
    intro e
    cases e
    rcases hat with h | h
    · exact hp.2.2 h.symm
    · omega
  · intro g hp
    obtain ⟨_, _, _, _, hk⟩ := hg
    exact hk g hp.2.1 hp.2.2
theorem fl_info : (Tryz.prog.info? 27).map (fun i => (i.zero, i.size, i.bytes)) = some (some (.agg #[.int .i64 0, .string ⟨#[]⟩, .string ⟨#[]⟩, .string ⟨#[]⟩, .slice none 0 0, .string ⟨#[]⟩, .bool false, .bool false, .string ⟨#[]⟩, .bool false, .slice none 0 0]), 11, 152) := by kernel_rfl
end Go.Proofs.YthbldkkjjjmegaaGreatDoor
