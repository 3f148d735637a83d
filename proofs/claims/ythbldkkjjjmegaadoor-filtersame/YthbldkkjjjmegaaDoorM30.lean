/- The document's starred of layer 24. (By gen_rs.py.) -/
import Derived.Test.YthbldkkjjjmegaaDoorM28
import Derived.OneCell
namespace Go.Proofs.YthbldkkjjjmegaaDoor
set_option maxRecDepth 100000
open Go.RowKit

/-! What is known ahead of piece i. -/
def starSt (nm : List Int) (L : List (List Int)) (i : Nat) (ini : ByteArray) (A : List ByteArray) (fin : ByteArray) (hi hf : Bool) : Prop :=
  (i = 0 ∧ ini = ⟨#[]⟩ ∧ A = [] ∧ fin = ⟨#[]⟩ ∧ hi = false ∧ hf = false) ∨
  (0 < i ∧ i < L.length ∧ fin = ⟨#[]⟩ ∧ hf = false ∧ ∃ v0, plainV (L.getD 0 []) = some v0 ∧ ini = strOfNums v0 ∧ hi = !v0.isEmpty ∧ midP (L.drop 1) = (midP (L.drop i)).map fun y => (A ++ y.1, y.2)) ∨
  (i = L.length ∧ starP nm L = some (.mk 4 (strOfNums nm) ⟨#[]⟩ ini A fin hi hf ⟨#[]⟩ false []))
theorem star_hd {nm : List Int} {L : List (List Int)} (hp : ¬ L = [[], []]) (hl : 1 < L.length) : starP nm L = (match plainV (L.getD 0 []) with
    | none => none
    | some v => (midP (L.drop 1)).map fun y => subF nm v y.1 y.2) := by
  unfold starP
  rw [if_neg hp]
  cases L with
  | nil => simp at hl
  | cons x t => rfl
theorem mid_one (x : List Int) : midP [x] = (plainV x).map fun v => ([], v) := by rw [midP.eq_def]
theorem mid_more (x y : List Int) (t : List (List Int)) : midP (x :: y :: t) = (match plainV x with
    | none => none
    | some v => if v = [] then none else (midP (y :: t)).map fun z => (strOfNums v :: z.1, z.2)) := by
  rw [midP.eq_def]
  rfl
theorem drop_one (L : List (List Int)) (i : Nat) (h : i < L.length) : L.drop i = L.getD i [] :: L.drop (i + 1) := by
  rw [List.drop_eq_getElem_cons h]
  simp [List.getD, h]
theorem st_first {nm : List Int} {L : List (List Int)} {ini : ByteArray} {A : List ByteArray} {fin : ByteArray} {hi hf : Bool} {v : List Int} (h : starSt nm L 0 ini A fin hi hf) (hl : 1 < L.length) (hv : plainV (L.getD 0 []) = some v) : starSt nm L 1 (strOfNums v) A fin (!v.isEmpty) hf := by
  rcases h with ⟨_, rfl, rfl, rfl, rfl, rfl⟩ | ⟨h, _⟩ | ⟨h, _⟩
  · refine .inr (.inl ⟨by decide, hl, rfl, rfl, v, hv, rfl, rfl, ?_⟩)
    cases midP (L.drop 1) <;> simp
  · omega
  · omega
theorem st_mid {nm : List Int} {L : List (List Int)} {i : Nat} {ini : ByteArray} {A : List ByteArray} {fin : ByteArray} {hi hf : Bool} {v : List Int} (h : starSt nm L i ini A fin hi hf) (_ : 0 < i) (hl : i + 1 < L.length) (hv : plainV (L.getD i []) = some v) (hn : ¬ v = []) : starSt nm L (i + 1) ini (A ++ [strOfNums v]) fin hi hf := by
  rcases h with ⟨h, _⟩ | ⟨_, _, rfl, rfl, v0, hv0, rfl, rfl, hm⟩ | ⟨h, _⟩
  · omega
  · refine .inr (.inl ⟨by omega, hl, rfl, rfl, v0, hv0, rfl, rfl, ?_⟩)
    rw [hm, drop_one L i (by omega), drop_one L (i + 1) (by omega), mid_more, hv]
    dsimp only
    rw [if_neg hn]
    cases midP (L.getD (i + 1) [] :: L.drop (i + 1 + 1)) <;> simp
  · omega
theorem st_last {nm : List Int} {L : List (List Int)} {i : Nat} {ini : ByteArray} {A : List ByteArray} {fin : ByteArray} {hi hf : Bool} {v : List Int} (hp : ¬ L = [[], []]) (hl1 : 1 < L.length) (h : starSt nm L i ini A fin hi hf) (_ : 0 < i) (hl : i + 1 = L.length) (hv : plainV (L.getD i []) = some v) : starSt nm L (i + 1) ini A (strOfNums v) hi (!v.isEmpty) := by
  rcases h with ⟨h, _⟩ | ⟨_, _, rfl, rfl, v0, hv0, rfl, rfl, hm⟩ | ⟨h, _⟩
  · omega
  · refine .inr (.inr ⟨hl, ?_⟩)
    rw [star_hd hp hl1, hv0, hm, drop_one L i (by omega), List.drop_eq_nil_of_le (by omega), mid_one, hv]
    simp [subF]
  · omega
theorem st_bad {nm : List Int} {L : List (List Int)} {i : Nat} {ini : ByteArray} {A : List ByteArray} {fin : ByteArray} {hi hf : Bool} (hp : ¬ L = [[], []]) (hl1 : 1 < L.length) (h : starSt nm L i ini A fin hi hf) (hl : i < L.length) (hv : plainV (L.getD i []) = none ∨ (0 < i ∧ i + 1 < L.length ∧ plainV (L.getD i []) = some [])) : starP nm L = none := by
  rw [star_hd hp hl1]
  rcases h with ⟨rfl, _⟩ | ⟨_, _, rfl, rfl, v0, hv0, rfl, rfl, hm⟩ | ⟨h, _⟩
  · rcases hv with hv | hv
    · rw [hv]
    · omega
  · rw [hv0, hm, drop_one L i hl]
    rcases hv with hv | ⟨_, h1, hv⟩
    · by_cases hz : i + 1 < L.length
      · rw [drop_one L (i + 1) hz, mid_more, hv]; rfl
      · rw [List.drop_eq_nil_of_le (by omega), mid_one, hv]; rfl
    · rw [drop_one L (i + 1) h1, mid_more, hv]; rfl
  · omega
theorem st_end {nm : List Int} {L : List (List Int)} {ini : ByteArray} {A : List ByteArray} {fin : ByteArray} {hi hf : Bool} (hl1 : 1 < L.length) (h : starSt nm L L.length ini A fin hi hf) : starP nm L = some (.mk 4 (strOfNums nm) ⟨#[]⟩ ini A fin hi hf ⟨#[]⟩ false []) := by
  rcases h with ⟨h, _⟩ | ⟨_, h, _⟩ | ⟨_, h⟩
  · omega
  · omega
  · exact h
theorem getD_map_nums (ps : List ByteArray) (i : Nat) (h : i < ps.length) : (ps.map nums).getD i [] = nums (ps.getD i ByteArray.empty) := by simp [List.getD, h]
/-- Stores into the box. -/
theorem put36 {W : World} {g : Nat} {a0 a1 a2 a3 a4 a5 a6 a7 a8 a9 a10 b3 b6 : Value} {T : TypeId} (h : W.heap[g]? = some (.cells #[a0, a1, a2, a3, a4, a5, a6, a7, a8, a9, a10] T)) : ((W.setCell ⟨g, 3, none⟩ b3).setCell ⟨g, 6, none⟩ b6).heap[g]? = some (.cells #[a0, a1, a2, b3, a4, a5, b6, a7, a8, a9, a10] T) := by
  simp [World.setCell, Array.getElem?_modify, h]
theorem put57 {W : World} {g : Nat} {a0 a1 a2 a3 a4 a5 a6 a7 a8 a9 a10 b5 b7 : Value} {T : TypeId} (h : W.heap[g]? = some (.cells #[a0, a1, a2, a3, a4, a5, a6, a7, a8, a9, a10] T)) : ((W.setCell ⟨g, 5, none⟩ b5).setCell ⟨g, 7, none⟩ b7).heap[g]? = some (.cells #[a0, a1, a2, a3, a4, b5, a6, b7, a8, a9, a10] T) := by
  simp [World.setCell, Array.getElem?_modify, h]
theorem put4h {W : World} {g : Nat} {a0 a1 a2 a3 a4 a5 a6 a7 a8 a9 a10 b4 : Value} {T : TypeId} (h : W.heap[g]? = some (.cells #[a0, a1, a2, a3, a4, a5, a6, a7, a8, a9, a10] T)) : (W.setCell ⟨g, 4, none⟩ b4).heap[g]? = some (.cells #[a0, a1, a2, a3, b4, a5, a6, a7, a8, a9, a10] T) := by
  simp [World.setCell, Array.getElem?_modify, h]
/-- What the loop keeps: the result's box, the filter's, the row of pieces, the row of what stands between. -/
structure StW (B g n : Nat) (nm : ByteArray) (ps : List ByteArray) (w0 : World) (B4 : Nat) (ini : ByteArray) (va : Value) (A : List ByteArray) (fin : ByteArray) (hi hf : Bool) (W : World) : Prop where
  res : W.heap[B]? = some (.cells #[.int .i64 0, .string ⟨#[]⟩, .string ⟨#[]⟩, .string ⟨#[]⟩, .slice none 0 0, .string ⟨#[]⟩, .bool false, .bool false, .string ⟨#[]⟩, .bool false, .slice none 0 0] 27)
  box : W.heap[B + 1]? = some (.cells #[.int .i64 4, .string nm, .string ⟨#[]⟩, .string ini, va, .string fin, .bool hi, .bool hf, .string ⟨#[]⟩, .bool false, .slice none 0 0] 27)
  row : ∀ j, j < n → W.cell? ⟨g, j, none⟩ = some (.string (ps.getD j ByteArray.empty))
  any : Tx B4 va A W
  bel : Below B w0 W
  siz : B4 ≤ W.heap.size
theorem StW.grow {B g n : Nat} {nm : ByteArray} {ps : List ByteArray} {w0 : World} {B4 : Nat} {ini : ByteArray} {va : Value} {A : List ByteArray} {fin : ByteArray} {hi hf : Bool} {W W2 : World} (h : StW B g n nm ps w0 B4 ini va A fin hi hf W) (hB : B ≤ w0.heap.size) (b : Below W.heap.size W W2) : StW B g n nm ps w0 B4 ini va A fin hi hf W2 :=
  ⟨keep_blk h.res b, keep_blk h.box b, fun j hj => (b.cell (cell_lt (h.row j hj))).trans (h.row j hj), h.any.below b, h.bel.trans (b.mono (Nat.le_trans hB h.bel.size)), Nat.le_trans h.siz b.size⟩
theorem flv_none (w : World) (k : Int) (n v i : ByteArray) (a : List ByteArray) (f : ByteArray) (hi hf : Bool) (r : ByteArray) (d : Bool) (B : Nat) (va : Value) (h : Tx B va a w) : FlV w (.mk k n v i a f hi hf r d []) (.agg #[.int .i64 k, .string n, .string v, .string i, va, .string f, .bool hi, .bool hf, .string r, .bool d, .slice none 0 0]) := by
  simp only [FlV]
  have hl := h.2
  rcases hl with ⟨h1, h2⟩ | ⟨g, cap, cur, hv, _, _, hm1, hm2, _⟩
  · have ha : a = [] := List.length_eq_zero_iff.1 h2
    subst ha
    refine ⟨none, 0, none, 0, by rw [h1]; rfl, TxC.nil _ _, by decide, .inl rfl⟩
  · refine ⟨some ⟨g, 0, none⟩, cap, none, 0, by rw [hv]; rfl, ⟨(by have : maxLen ≤ 9223372036854775807 := (by decide); omega), ?_⟩, by decide, .inl rfl⟩
    by_cases h0 : a.length = 0
    · exact .inl h0
    · refine .inr ⟨g, 0, rfl, fun j hj => ?_⟩
      obtain ⟨g', c', hv', hc⟩ := h.at (by omega)
      rw [hv] at hv'
      cases hv'
      rw [Nat.zero_add]
      exact hc j hj
theorem Tx.shape {w : World} {B : Nat} {v : Value} {ps : List ByteArray} (h : Tx B v ps w) : ∃ ad m cp, v = .slice ad m cp := by
  rcases h.2 with ⟨h1, _⟩ | ⟨g, cap, cur, hv, _⟩
  · exact ⟨_, _, _, h1⟩
  · exact ⟨_, _, _, hv⟩
theorem tx_keep {w W2 : World} {B : Nat} {v : Value} {ps : List ByteArray} (h : Tx B v ps w) (hk : ∀ k, B ≤ k → k < w.heap.size → W2.heap[k]? = w.heap[k]?) : Tx B v ps W2 := by
  refine ⟨h.1, ?_⟩
  rcases h.2 with hn | ⟨g, cap, cur, hv, hb, hg, r⟩
  · exact .inl hn
  · exact .inr ⟨g, cap, cur, hv, hb, (hk g hb (blk_lt24 hg)).trans hg, r⟩
/-- A filter whose things lie in such blocks alone. -/
def FlVP (P : Nat → Prop) (w : World) (e : Fl) (x : Value) : Prop := ∀ W2 : World, (∀ k, P k → W2.heap[k]? = w.heap[k]?) → FlV W2 e x
theorem FlVP.flv {P : Nat → Prop} {w : World} {e : Fl} {x : Value} (h : FlVP P w e x) : FlV w e x := h w fun _ _ => rfl
theorem FlVP.mono {P P2 : Nat → Prop} {w w2 : World} {e : Fl} {x : Value} (h : FlVP P w e x) (hp : ∀ k, P k → P2 k) (hk : ∀ k, P k → w2.heap[k]? = w.heap[k]?) : FlVP P2 w2 e x := fun W2 h2 => h W2 fun k q => (h2 k (hp k q)).trans (hk k q)
theorem flv_noneP (w : World) (k : Int) (n v i : ByteArray) (a : List ByteArray) (f : ByteArray) (hi hf : Bool) (r : ByteArray) (d : Bool) (B B0 : Nat) (va : Value) (hB : B0 ≤ B) (h : Tx B va a w) : FlVP (fun k => B0 ≤ k ∧ k < w.heap.size) w (.mk k n v i a f hi hf r d []) (.agg #[.int .i64 k, .string n, .string v, .string i, va, .string f, .bool hi, .bool hf, .string r, .bool d, .slice none 0 0]) := fun W2 hk => flv_none W2 k n v i a f hi hf r d B va (tx_keep h fun j h1 h2 => hk j ⟨Nat.le_trans hB h1, h2⟩)
/-- Stores, as the loop keeps them. -/
theorem Tx.set {w : World} {B : Nat} {v : Value} {ps : List ByteArray} {a : Addr} {u : Value} (h : Tx B v ps w) (ha : a.block < B) : Tx B v ps (w.setCell a u) := ownsRow_setCell_below h ha u
theorem heap_far {W : World} {b : Nat} {k : Nat} {o : Obj} {v : Value} {c : Nat} (h : W.heap[k]? = some o) (hne : k ≠ b) : (W.setCell ⟨b, c, none⟩ v).heap[k]? = some o := (Below.heap_setCell _ _ _ _ hne).trans h
theorem cell_away {W : World} {b g j c : Nat} {x v : Value} (h : W.cell? ⟨g, j, none⟩ = some x) (hne : ¬ g = b) : (W.setCell ⟨b, c, none⟩ v).cell? ⟨g, j, none⟩ = some x := (World.cell?_setCell_other _ _ _ _ (by intro e; injection e with e1 _; exact hne e1.symm)).trans h
theorem StW.set36 {B g n : Nat} {nm : ByteArray} {ps : List ByteArray} {w0 : World} {B4 : Nat} {ini : ByteArray} {va : Value} {A : List ByteArray} {fin : ByteArray} {hi hf : Bool} {W : World} (h : StW B g n nm ps w0 B4 ini va A fin hi hf W) (hB : B + 2 ≤ B4) (hw : w0.heap.size = B) (hg : ¬ g = B + 1) (q : ByteArray) (b : Bool) : StW B g n nm ps w0 B4 q va A fin b hf ((W.setCell ⟨B + 1, 3, none⟩ (.string q)).setCell ⟨B + 1, 6, none⟩ (.bool b)) :=
  ⟨heap_far (heap_far h.res (by omega)) (by omega), put36 h.box, fun j hj => cell_away (cell_away (h.row j hj) hg) hg, (h.any.set (by dsimp only; omega)).set (by dsimp only; omega), (h.bel.setCell (by dsimp only; omega) _).setCell (by dsimp only; omega) _, by simpa [World.setCell] using h.siz⟩
theorem StW.set57 {B g n : Nat} {nm : ByteArray} {ps : List ByteArray} {w0 : World} {B4 : Nat} {ini : ByteArray} {va : Value} {A : List ByteArray} {fin : ByteArray} {hi hf : Bool} {W : World} (h : StW B g n nm ps w0 B4 ini va A fin hi hf W) (hB : B + 2 ≤ B4) (hw : w0.heap.size = B) (hg : ¬ g = B + 1) (q : ByteArray) (b : Bool) : StW B g n nm ps w0 B4 ini va A q hi b ((W.setCell ⟨B + 1, 5, none⟩ (.string q)).setCell ⟨B + 1, 7, none⟩ (.bool b)) :=
  ⟨heap_far (heap_far h.res (by omega)) (by omega), put57 h.box, fun j hj => cell_away (cell_away (h.row j hj) hg) hg, (h.any.set (by dsimp only; omega)).set (by dsimp only; omega), (h.bel.setCell (by dsimp only; omega) _).setCell (by dsimp only; omega) _, by simpa [World.setCell] using h.siz⟩
theorem StW.set4 {B g n : Nat} {nm : ByteArray} {ps : List ByteArray} {w0 : World} {B4 : Nat} {ini : ByteArray} {va va2 : Value} {A A2 : List ByteArray} {fin : ByteArray} {hi hf : Bool} {W W2 : World} (h : StW B g n nm ps w0 B4 ini va A fin hi hf W) (hB : B + 2 ≤ B4) (hw : w0.heap.size = B) (hg : ¬ g = B + 1) (hg4 : g < B4) (b : Below B4 W W2) (hT : Tx B4 va2 A2 W2) : StW B g n nm ps w0 B4 ini va2 A2 fin hi hf (W2.setCell ⟨B + 1, 4, none⟩ va2) :=
  ⟨heap_far ((b.block B (by omega)).trans h.res) (by omega), put4h ((b.block (B + 1) (by omega)).trans h.box), fun j hj => cell_away ((b.cell (p := ⟨g, j, none⟩) hg4).trans (h.row j hj)) hg, hT.set (by dsimp only; omega), (h.bel.trans (b.mono (by omega))).setCell (by dsimp only; omega) _, by have := Nat.le_trans h.siz b.size; simpa [World.setCell] using this⟩

end Go.Proofs.YthbldkkjjjmegaaDoor
/- A row of filters of a call's own. (By gen_own.py.) -/
namespace Go.Proofs.YthbldkkjjjmegaaDoor
set_option maxRecDepth 100000
open Go.RowKit

theorem FlVP.cellsKept {P Q : Nat → Prop} {w w2 : World} {e : Fl} {x : Value} (h : FlVP P w e x) (hq : ∀ g, P g → Q g) (hk : ∀ g, P g → w2.heap[g]? = w.heap[g]?) : FlVP Q w2 e x := h.mono hq hk
/-- The cells of a row of filters. -/
def FlatF (P : Nat → Prop) (w : World) : List Fl → List Value → Prop
  | [], cs => cs = []
  | e :: t, cs => ∃ a0 a1 a2 a3 a4 a5 a6 a7 a8 a9 a10 r, cs = a0 :: a1 :: a2 :: a3 :: a4 :: a5 :: a6 :: a7 :: a8 :: a9 :: a10 :: r ∧ FlVP P w e (.agg #[a0, a1, a2, a3, a4, a5, a6, a7, a8, a9, a10]) ∧ FlatF P w t r
theorem FlatF.kept {P Q : Nat → Prop} {w w2 : World} (hq : ∀ g, P g → Q g) (hk : ∀ g, P g → w2.heap[g]? = w.heap[g]?) : ∀ (l : List Fl) (cs : List Value), FlatF P w l cs → FlatF Q w2 l cs
  | [], _, h => h
  | e :: t, cs, h => by
    obtain ⟨a0, a1, a2, a3, a4, a5, a6, a7, a8, a9, a10, r, hcs, hv, ht⟩ := h
    exact ⟨a0, a1, a2, a3, a4, a5, a6, a7, a8, a9, a10, r, hcs, hv.mono hq hk, FlatF.kept hq hk t r ht⟩
theorem FlatF.snoc {P : Nat → Prop} {w : World} {e : Fl} {a0 a1 a2 a3 a4 a5 a6 a7 a8 a9 a10 : Value} (he : FlVP P w e (.agg #[a0, a1, a2, a3, a4, a5, a6, a7, a8, a9, a10])) : ∀ (l : List Fl) (cs : List Value), FlatF P w l cs → FlatF P w (l ++ [e]) (cs ++ [a0, a1, a2, a3, a4, a5, a6, a7, a8, a9, a10])
  | [], cs, h => by
    have : cs = [] := h
    subst this
    exact ⟨a0, a1, a2, a3, a4, a5, a6, a7, a8, a9, a10, [], rfl, he, rfl⟩
  | x :: t, cs, h => by
    obtain ⟨b0, b1, b2, b3, b4, b5, b6, b7, b8, b9, b10, r, hcs, hv, ht⟩ := h
    subst hcs
    exact ⟨b0, b1, b2, b3, b4, b5, b6, b7, b8, b9, b10, r ++ [a0, a1, a2, a3, a4, a5, a6, a7, a8, a9, a10], by simp, hv, FlatF.snoc he t r ht⟩
theorem FlatF.at {P : Nat → Prop} {w : World} {g : Nat} : ∀ (l : List Fl) (cs : List Value) (off : Nat), FlatF P w l cs → (∀ j u, cs[j]? = some u → w.cell? ⟨g, off + j, none⟩ = some u) → FlV.L w l g off
  | [], _, _, _, _ => by simp only [FlV.L]
  | e :: t, cs, off, h, hc => by
    obtain ⟨a0, a1, a2, a3, a4, a5, a6, a7, a8, a9, a10, r, hcs, hv, ht⟩ := h
    subst hcs
    simp only [FlV.L]
    refine ⟨⟨a0, a1, a2, a3, a4, a5, a6, a7, a8, a9, a10, hc 0 a0 rfl, hc 1 a1 rfl, hc 2 a2 rfl, hc 3 a3 rfl, hc 4 a4 rfl, hc 5 a5 rfl, hc 6 a6 rfl, hc 7 a7 rfl, hc 8 a8 rfl, hc 9 a9 rfl, hc 10 a10 rfl, hv.flv⟩, FlatF.at t r (off + 11) ht fun j u hu => ?_⟩
    have := hc (11 + j) u (by rw [Nat.add_comm]; simpa using hu)
    rwa [show off + (11 + j) = off + 11 + j by omega] at this
/-- The row of filters that a call lays: their own things lie in blocks from B on, and not in the row's. -/
def Ko (B : Nat) (v : Value) (l : List Fl) (w : World) : Prop := ∃ cs, w.ownsRow B 27 11 v l.length cs ∧ FlatF (fun g => B ≤ g ∧ g < w.heap.size ∧ some g ≠ v.ownBlock) w l cs
theorem Ko.nil (B : Nat) (w : World) : Ko B (.slice none 0 0) [] w := ⟨[], ⟨rfl, .inl ⟨rfl, rfl⟩⟩, rfl⟩
theorem Ko.shape {B : Nat} {v : Value} {l : List Fl} {w : World} (h : Ko B v l w) : ∃ a c, v = .slice a l.length c := by
  obtain ⟨cs, ho, _⟩ := h
  rcases ho.2 with ⟨hv, h0⟩ | ⟨g, cap, cur, hv, _⟩
  · exact ⟨none, 0, by rw [hv, h0]⟩
  · exact ⟨_, cap, hv⟩
/-- Another world in which all blocks from B on, up to the old world's end, lie as they lay. -/
theorem Ko.kept {B : Nat} {v : Value} {l : List Fl} {w w2 : World} (h : Ko B v l w) (hs : w.heap.size ≤ w2.heap.size) (hk : ∀ k, B ≤ k → k < w.heap.size → w2.heap[k]? = w.heap[k]?) : Ko B v l w2 := by
  obtain ⟨cs, ho, hf⟩ := h
  refine ⟨cs, ?_, FlatF.kept (fun g hg => ⟨hg.1, by omega, hg.2.2⟩) (fun g hg => hk g hg.1 hg.2.1) l cs hf⟩
  refine ⟨ho.1, ho.2.imp (fun h => h) ?_⟩
  rintro ⟨g, cap, cur, hv, hB, hg, hr⟩
  exact ⟨g, cap, cur, hv, hB, (hk g hB (Array.getElem?_eq_some_iff.1 hg).1).trans hg, hr⟩
theorem Ko.below {B : Nat} {v : Value} {l : List Fl} {w w2 : World} (h : Ko B v l w) (hb : Below w.heap.size w w2) : Ko B v l w2 := h.kept hb.size fun k _ hk => hb.block k hk
/-- The filter whose kids these are. -/
theorem Ko.flvp {B : Nat} {v : Value} {l : List Fl} {w : World} (h : Ko B v l w) (hl : l.length ≤ 9223372036854775807) (k : Int) : FlVP (fun g => B ≤ g ∧ g < w.heap.size) w (kndF k l) (.agg #[.int .i64 k, .string ⟨#[]⟩, .string ⟨#[]⟩, .string ⟨#[]⟩, .slice none 0 0, .string ⟨#[]⟩, .bool false, .bool false, .string ⟨#[]⟩, .bool false, v]) := by
  intro W2 hk
  obtain ⟨cs, ho, hf⟩ := h
  have hf2 : FlatF (fun g => B ≤ g ∧ g < w.heap.size) W2 l cs := FlatF.kept (fun g hg => ⟨hg.1, hg.2.1⟩) (fun g hg => hk g ⟨hg.1, hg.2.1⟩) l cs hf
  unfold kndF
  simp only [FlV]
  rcases ho.2 with ⟨hv, h0⟩ | ⟨g, cap, cur, hv, hB, hg, _⟩
  · exact ⟨none, 0, none, 0, by rw [hv, h0]; rfl, TxC.nil _ _, hl, .inl h0⟩
  · refine ⟨none, 0, some ⟨g, 0, none⟩, cap, by rw [hv]; rfl, TxC.nil _ _, hl, .inr ⟨g, 0, rfl, ?_⟩⟩
    have hgs : g < w.heap.size := (Array.getElem?_eq_some_iff.1 hg).1
    refine FlatF.at l cs 0 hf2 fun j u hu => ?_
    have := World.ownsRow.cells ho (g := g) (by rw [hv]; rfl) j u hu
    rw [add_zero3] at this
    rw [Nat.zero_add]
    have e := hk g ⟨hB, hgs⟩
    rw [← this]
    simp only [World.cell?, e]
/-- One more behind it. -/
theorem Ko.push {B N g1 cap1 H : Nat} {v : Value} {l : List Fl} {w w1 : World} {cs : List Value} {e : Fl} {a0 a1 a2 a3 a4 a5 a6 a7 a8 a9 a10 : Value} (hN : N = l.length)
    (hf : FlatF (fun g => B ≤ g ∧ g < w.heap.size ∧ some g ≠ v.ownBlock) w l cs) (he : FlVP (fun g => B ≤ g ∧ g < w.heap.size ∧ some g ≠ v.ownBlock) w e (.agg #[a0, a1, a2, a3, a4, a5, a6, a7, a8, a9, a10]))
    (ho : w1.ownsRow B 27 11 (.slice (.some ⟨g1, 0, none⟩) (N + 1) cap1) (N + 1) (cs ++ [a0, a1, a2, a3, a4, a5, a6, a7, a8, a9, a10])) (hg : w.grownBy w1 v.ownBlock) (hat : v.ownBlock = some g1 ∨ g1 = H) (hH : w.heap.size = H) : Ko B (.slice (.some ⟨g1, 0, none⟩) (N + 1) cap1) (l ++ [e]) w1 := by
  subst hN
  refine ⟨cs ++ [a0, a1, a2, a3, a4, a5, a6, a7, a8, a9, a10], by simpa using ho, ?_⟩
  have hs := hg.size
  refine FlatF.kept ?_ ?_ _ _ (FlatF.snoc he l cs hf)
  · intro g hp
    refine ⟨hp.1, by omega, ?_⟩
    show some g ≠ some g1
    intro e
    cases e
    rcases hat with h | h
    · exact hp.2.2 h.symm
    · omega
  · intro g hp
    obtain ⟨_, _, _, _, hk⟩ := hg
    exact hk g hp.2.1 hp.2.2
theorem fl_info : (Tryd.prog.info? 27).map (fun i => (i.zero, i.size, i.bytes)) = some (some (.agg #[.int .i64 0, .string ⟨#[]⟩, .string ⟨#[]⟩, .string ⟨#[]⟩, .slice none 0 0, .string ⟨#[]⟩, .bool false, .bool false, .string ⟨#[]⟩, .bool false, .slice none 0 0]), 11, 152) := by kernel_rfl
end Go.Proofs.YthbldkkjjjmegaaDoor
