/- Elements of the call's own: where their blocks lie; a row of them that grows. -/
import Derived.Test.YtcboggoindhmkaaFrm15
namespace Go.Proofs.Ytcboggoindhmkaa
open Go.RowKit

/-- A value that is an element, all of whose rows lie in blocks that P has. -/
def ElP (P : Nat → Prop) (w : World) : El → Value → Prop
  | .mk c m n s els, v => ∃ ad cap, v = .agg #[.int .i64 c, .bool m, .int .i64 n, .string s, .slice ad els.length cap] ∧ els.length ≤ 9223372036854775807 ∧ (els.length = 0 ∨ ∃ g off, ad = some ⟨g, off, none⟩ ∧ P g ∧ L els g off)
  where
  L : List El → Nat → Nat → Prop
  | [], _, _ => True
  | e :: t, g, off => (∃ a0 a1 a2 a3 a4, w.cell? ⟨g, off, none⟩ = some a0 ∧ w.cell? ⟨g, off + 1, none⟩ = some a1 ∧ w.cell? ⟨g, off + 2, none⟩ = some a2 ∧ w.cell? ⟨g, off + 3, none⟩ = some a3 ∧ w.cell? ⟨g, off + 4, none⟩ = some a4 ∧ ElP P w e (.agg #[a0, a1, a2, a3, a4])) ∧ L t g (off + 5)
theorem ElP.toV {P : Nat → Prop} {w : World} : ∀ (e : El) (v : Value), ElP P w e v → ElV w e v
  | .mk c m n s els, v, h => by
    simp only [ElP] at h
    simp only [ElV]
    obtain ⟨ad, cap, hv, hn, hc⟩ := h
    refine ⟨ad, cap, hv, hn, ?_⟩
    rcases hc with h0 | ⟨g, off, ha, _, hl⟩
    · exact .inl h0
    · exact .inr ⟨g, off, ha, L els g off hl⟩
  where
  L : ∀ (l : List El) (g off : Nat), ElP.L P w l g off → ElV.L w l g off
  | [], _, _, _ => by simp only [ElV.L]
  | e :: t, g, off, h => by
    simp only [ElP.L] at h
    simp only [ElV.L]
    obtain ⟨⟨a0, a1, a2, a3, a4, h0, h1, h2, h3, h4, hv⟩, ht⟩ := h
    exact ⟨⟨a0, a1, a2, a3, a4, h0, h1, h2, h3, h4, ElP.toV e _ hv⟩, L t g (off + 5) ht⟩
theorem ElP.L.toV {P : Nat → Prop} {w : World} (l : List El) (g off : Nat) (h : ElP.L P w l g off) : ElV.L w l g off := ElP.toV.L l g off h
/-- Another world, other blocks: if each cell of P's blocks stays. -/
theorem ElP.kept {P Q : Nat → Prop} {w w2 : World} (hq : ∀ g, P g → Q g) (hc : ∀ g off v, P g → w.cell? ⟨g, off, none⟩ = some v → w2.cell? ⟨g, off, none⟩ = some v) : ∀ (e : El) (v : Value), ElP P w e v → ElP Q w2 e v
  | .mk c m n s els, v, h => by
    simp only [ElP] at h ⊢
    obtain ⟨ad, cap, hv, hn, hx⟩ := h
    refine ⟨ad, cap, hv, hn, ?_⟩
    rcases hx with h0 | ⟨g, off, ha, hg, hl⟩
    · exact .inl h0
    · exact .inr ⟨g, off, ha, hq g hg, L els g off hg hl⟩
  where
  L : ∀ (l : List El) (g off : Nat), P g → ElP.L P w l g off → ElP.L Q w2 l g off
  | [], _, _, _, _ => by simp only [ElP.L]
  | e :: t, g, off, hg, h => by
    simp only [ElP.L] at h ⊢
    obtain ⟨⟨a0, a1, a2, a3, a4, h0, h1, h2, h3, h4, hv⟩, ht⟩ := h
    exact ⟨⟨a0, a1, a2, a3, a4, hc _ _ _ hg h0, hc _ _ _ hg h1, hc _ _ _ hg h2, hc _ _ _ hg h3, hc _ _ _ hg h4, ElP.kept hq hc e _ hv⟩, L t g (off + 5) hg ht⟩
theorem ElP.L.kept {P Q : Nat → Prop} {w w2 : World} (hq : ∀ g, P g → Q g) (hc : ∀ g off v, P g → w.cell? ⟨g, off, none⟩ = some v → w2.cell? ⟨g, off, none⟩ = some v) (l : List El) (g off : Nat) (hg : P g) (h : ElP.L P w l g off) : ElP.L Q w2 l g off := ElP.kept.L hq hc l g off hg h
/-- The blocks from B on, up to the world's end. -/
def In (B : Nat) (w : World) (g : Nat) : Prop := B ≤ g ∧ g < w.heap.size
theorem ElP.below {P Q : Nat → Prop} {w w2 : World} {e : El} {v : Value} (h : ElP P w e v) (hb : Below w.heap.size w w2) (hq : ∀ g, P g → Q g) : ElP Q w2 e v :=
  ElP.kept hq (fun _ _ _ _ hc => (hb.cell (cell_lt hc)).trans hc) e v h
/-- A slice of elements, in blocks that P has. -/
def EsP (P : Nat → Prop) (w : World) (v : Value) (l : List El) : Prop := ∃ ad cap, v = .slice ad l.length cap ∧ l.length ≤ 9223372036854775807 ∧ (l.length = 0 ∨ ∃ g off, ad = some ⟨g, off, none⟩ ∧ P g ∧ ElP.L P w l g off)
theorem EsP.toV {P : Nat → Prop} {w : World} {v : Value} {l : List El} (h : EsP P w v l) : ElsV w v l := by
  obtain ⟨ad, cap, hv, hn, hc⟩ := h
  refine ⟨ad, cap, hv, hn, ?_⟩
  rcases hc with h0 | ⟨g, off, ha, _, hl⟩
  · exact .inl h0
  · exact .inr ⟨g, off, ha, ElP.L.toV l g off hl⟩
theorem EsP.nil (P : Nat → Prop) (w : World) : EsP P w (.slice none 0 0) [] := ⟨none, 0, rfl, Nat.zero_le _, .inl rfl⟩
theorem EsP.below {P Q : Nat → Prop} {w w2 : World} {v : Value} {l : List El} (h : EsP P w v l) (hb : Below w.heap.size w w2) (hq : ∀ g, P g → Q g) : EsP Q w2 v l := by
  obtain ⟨ad, cap, hv, hn, hc⟩ := h
  refine ⟨ad, cap, hv, hn, ?_⟩
  rcases hc with h0 | ⟨g, off, ha, hg, hl⟩
  · exact .inl h0
  · exact .inr ⟨g, off, ha, hq g hg, ElP.L.kept hq (fun _ _ _ _ hc => (hb.cell (cell_lt hc)).trans hc) l g off hg hl⟩
/-- The cells of a row of elements. -/
def Flat (P : Nat → Prop) (w : World) : List El → List Value → Prop
  | [], cs => cs = []
  | e :: t, cs => ∃ a0 a1 a2 a3 a4 r, cs = a0 :: a1 :: a2 :: a3 :: a4 :: r ∧ ElP P w e (.agg #[a0, a1, a2, a3, a4]) ∧ Flat P w t r
theorem Flat.kept {P Q : Nat → Prop} {w w2 : World} (hq : ∀ g, P g → Q g) (hc : ∀ g off v, P g → w.cell? ⟨g, off, none⟩ = some v → w2.cell? ⟨g, off, none⟩ = some v) : ∀ (l : List El) (cs : List Value), Flat P w l cs → Flat Q w2 l cs
  | [], _, h => h
  | e :: t, cs, h => by
    obtain ⟨a0, a1, a2, a3, a4, r, hcs, hv, ht⟩ := h
    exact ⟨a0, a1, a2, a3, a4, r, hcs, ElP.kept hq hc e _ hv, Flat.kept hq hc t r ht⟩
theorem Flat.snoc {P : Nat → Prop} {w : World} {e : El} {a0 a1 a2 a3 a4 : Value} (he : ElP P w e (.agg #[a0, a1, a2, a3, a4])) : ∀ (l : List El) (cs : List Value), Flat P w l cs → Flat P w (l ++ [e]) (cs ++ [a0, a1, a2, a3, a4])
  | [], cs, h => by
    have : cs = [] := h
    subst this
    exact ⟨a0, a1, a2, a3, a4, [], rfl, he, rfl⟩
  | x :: t, cs, h => by
    obtain ⟨b0, b1, b2, b3, b4, r, hcs, hv, ht⟩ := h
    subst hcs
    exact ⟨b0, b1, b2, b3, b4, r ++ [a0, a1, a2, a3, a4], by simp, hv, Flat.snoc he t r ht⟩
theorem Flat.at {P : Nat → Prop} {w : World} {g : Nat} : ∀ (l : List El) (cs : List Value) (off : Nat), Flat P w l cs → (∀ j u, cs[j]? = some u → w.cell? ⟨g, off + j, none⟩ = some u) → ElP.L P w l g off
  | [], _, _, _, _ => by simp only [ElP.L]
  | e :: t, cs, off, h, hc => by
    obtain ⟨a0, a1, a2, a3, a4, r, hcs, hv, ht⟩ := h
    subst hcs
    simp only [ElP.L]
    refine ⟨⟨a0, a1, a2, a3, a4, hc 0 a0 rfl, hc 1 a1 rfl, hc 2 a2 rfl, hc 3 a3 rfl, hc 4 a4 rfl, hv⟩, Flat.at t r (off + 5) ht fun j u hu => ?_⟩
    have := hc (5 + j) u (by rw [Nat.add_comm]; simpa using hu)
    rwa [show off + (5 + j) = off + 5 + j by omega] at this
/-- The row of elements that a call lays: their own rows lie in blocks from B on, and not in the row's. -/
def Eo (B : Nat) (v : Value) (l : List El) (w : World) : Prop := ∃ cs, w.ownsRow B 26 5 v l.length cs ∧ Flat (fun g => B ≤ g ∧ g < w.heap.size ∧ some g ≠ v.ownBlock) w l cs
theorem Eo.nil (B : Nat) (w : World) : Eo B (.slice none 0 0) [] w := ⟨[], ⟨rfl, .inl ⟨rfl, rfl⟩⟩, rfl⟩
theorem Eo.shape {B : Nat} {v : Value} {l : List El} {w : World} (h : Eo B v l w) : ∃ a c, v = .slice a l.length c := by
  obtain ⟨cs, ho, _⟩ := h
  rcases ho.2 with ⟨hv, h0⟩ | ⟨g, cap, cur, hv, _⟩
  · exact ⟨none, 0, by rw [hv, h0]⟩
  · exact ⟨_, cap, hv⟩
theorem Eo.below {B : Nat} {v : Value} {l : List El} {w w2 : World} (h : Eo B v l w) (hb : Below w.heap.size w w2) : Eo B v l w2 := by
  obtain ⟨cs, ho, hf⟩ := h
  have := hb.size
  exact ⟨cs, own_below ho hb, Flat.kept (fun g hg => ⟨hg.1, by omega, hg.2.2⟩) (fun _ _ _ _ hc => (hb.cell (cell_lt hc)).trans hc) l cs hf⟩
theorem Eo.es {B : Nat} {v : Value} {l : List El} {w : World} (h : Eo B v l w) (hl : l.length ≤ 9223372036854775807) : EsP (In B w) w v l := by
  obtain ⟨cs, ho, hf⟩ := h
  have hf2 : Flat (In B w) w l cs := Flat.kept (fun g hg => ⟨hg.1, hg.2.1⟩) (fun _ _ _ _ hc => hc) l cs hf
  rcases ho.2 with ⟨hv, h0⟩ | ⟨g, cap, cur, hv, hB, hg, _⟩
  · exact ⟨none, 0, by rw [hv, h0], hl, .inl h0⟩
  · refine ⟨some ⟨g, 0, none⟩, cap, hv, hl, .inr ⟨g, 0, rfl, ⟨hB, (Array.getElem?_eq_some_iff.1 hg).1⟩, ?_⟩⟩
    refine Flat.at l cs 0 hf2 fun j u hu => ?_
    have := World.ownsRow.cells ho (g := g) (by rw [hv]; rfl) j u hu
    rw [add_zero3] at this
    rwa [Nat.zero_add]
/-- One more behind it. -/
theorem Eo.push {B N g1 cap1 H : Nat} {v : Value} {l : List El} {w w1 : World} {cs : List Value} {e : El} {a0 a1 a2 a3 a4 : Value} (hN : N = l.length)
    (hf : Flat (fun g => B ≤ g ∧ g < w.heap.size ∧ some g ≠ v.ownBlock) w l cs) (he : ElP (fun g => B ≤ g ∧ g < w.heap.size ∧ some g ≠ v.ownBlock) w e (.agg #[a0, a1, a2, a3, a4]))
    (ho : w1.ownsRow B 26 5 (.slice (.some ⟨g1, 0, none⟩) (N + 1) cap1) (N + 1) (cs ++ [a0, a1, a2, a3, a4])) (hg : w.grownBy w1 v.ownBlock) (hat : v.ownBlock = some g1 ∨ g1 = H) (hH : w.heap.size = H) : Eo B (.slice (.some ⟨g1, 0, none⟩) (N + 1) cap1) (l ++ [e]) w1 := by
  subst hN
  refine ⟨cs ++ [a0, a1, a2, a3, a4], by simpa using ho, ?_⟩
  have hs := hg.size
  refine Flat.kept ?_ ?_ _ _ (Flat.snoc he l cs hf)
  · intro g hp
    refine ⟨hp.1, by omega, ?_⟩
    show some g ≠ some g1
    intro e
    cases e
    rcases hat with h | h
    · exact hp.2.2 h.symm
    · omega
  · intro g off u hp hc
    exact (hg.cell_far ⟨g, off, none⟩ (cell_lt hc) hp.2.2).trans hc
theorem el_info : (Try.prog.info? 26).map (fun i => (i.zero, i.size, i.bytes)) = some (some (.agg #[.int .i64 0, .bool false, .int .i64 0, .string ⟨#[]⟩, .slice none 0 0]), 5, 64) := by kernel_rfl
end Go.Proofs.Ytcboggoindhmkaa
