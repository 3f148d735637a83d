/- The document's starred of layer 24. (By gen_rs.py.) -/
import Derived.Test.YthbldkkjjjmegaaGreatDoorM13
import Derived.OneCell
namespace Go.Proofs.YthbldkkjjjmegaaGreatDoor
set_option maxRecDepth 100000
open Go.RowKit

/-! What is known ahead of piece i. -/
def starSt (nm : List Int) (L : List (List Int)) (i : Nat) (ini : ByteArray) (A : List ByteArray) (fin : ByteArray) (hi hf : Bool) : Prop :=
  (i = 0 ∧ ini = ⟨#[]⟩ ∧ A = [] ∧ fin = ⟨#[]⟩ ∧ hi = false ∧ hf = false) ∨
  (0 < i ∧ i < L.length ∧ fin = ⟨#[]⟩ ∧ hf = false ∧ ∃ v0, plainV (L.getD 0 []) = some v0 ∧ ini = strOfNums v0 ∧ hi = !v0.isEmpty ∧ midP (L.drop 1) = (midP (L.drop i)).map fun y => (A ++ y.1, y.2)) ∨
  (i = L.length ∧ starP nm L = some (.mk 4 (strOfNums nm) ⟨#[]⟩ ini A fin hi hf ⟨#[]⟩ false []))
theorem star_hd {nm : List Int} {L : List (List Int)} (hp : ¬ L = [[], []]) (hl : 1 < L.length) : starP nm L = (match plainV (L.getD 0 []) with
    | none => none
    | some v => (midP (L.drop 1)).map fun y => subF nm v y.1 y.2) := by
  unfold starP
  rw [if_neg hp]
  cases L with
  | nil => simp at hl
  | cons x t => rfl
theorem mid_one (x : List Int) : midP [x] = (plainV x).map fun v => ([], v) := by rw [midP.eq_def]
theorem mid_more (x y : List Int) (t : List (List Int)) : midP (x :: y :: t) = (match plainV x with
    | none => none
    | some v => if v = [] then none else (midP (y :: t)).map fun z => (strOfNums v :: z.1, z.2)) := by
  rw [midP.eq_def]
  rfl
theorem drop_one (L : List (List Int)) (i : Nat) (h : i < L.length) : L.drop i = L.getD i [] :: L.drop (i + 1) := by
  rw [List.drop_eq_getElem_cons h]
  simp [List.getD, h]
theorem st_first {nm : List Int} {L : List (List Int)} {ini : ByteArray} {A : List ByteArray} {fin : ByteArray} {hi hf : Bool} {v : List Int} (h : starSt nm L 0 ini A fin hi hf) (hl : 1 < L.length) (hv : plainV (L.getD 0 []) = some v) : starSt nm L 1 (strOfNums v) A fin (!v.isEmpty) hf := by
  rcases h with ⟨_, rfl, rfl, rfl, rfl, rfl⟩ | ⟨h, _⟩ | ⟨h, _⟩
  · refine .inr (.inl ⟨by decide, hl, rfl, rfl, v, hv, rfl, rfl, ?_⟩)
    cases midP (L.drop 1) <;> simp
  · omega
  · omega
theorem st_mid {nm : List Int} {L : List (List Int)} {i : Nat} {ini : ByteArray} {A : List ByteArray} {fin : ByteArray} {hi hf : Bool} {v : List Int} (h : starSt nm L i ini A fin hi hf) (_ : 0 < i) (hl : i + 1 < L.length) (hv : plainV (L.getD i []) = some v) (hn : ¬ v = []) : starSt nm L (i + 1) ini (A ++ [strOfNums v]) fin hi hf := by
  rcases h with ⟨h, _⟩ | ⟨_, _, rfl, rfl, v0, hv0, rfl, rfl, hm⟩ | ⟨h, _⟩
  · omega
  · refine .inr (.inl ⟨by omega, hl, rfl, rfl, v0, hv0, rfl, rfl, ?_⟩)
    rw [hm, drop_one L i (by omega), drop_one L (i + 1) (by omega), mid_more, hv]
    dsimp only
    rw [if_neg hn]
    cases midP (L.getD (i + 1) [] :: L.drop (i + 1 + 1)) <;> simp
  · omega
theorem st_last {nm : List Int} {L : List (List Int)} {i : Nat} {ini : ByteArray} {A : List ByteArray} {fin : ByteArray} {hi hf : Bool} {v : List Int} (hp : ¬ L = [[], []]) (hl1 : 1 < L.length) (h : starSt nm L i ini A fin hi hf) (_ : 0 < i) (hl : i + 1 = L.length) (hv : plainV (L.getD i []) = some v) : starSt nm L (i + 1) ini A (strOfNums v) hi (!v.isEmpty) := by
  rcases h with ⟨h, _⟩ | ⟨_, _, rfl, rfl, v0, hv0, rfl, rfl, hm⟩ | ⟨h, _⟩
  · omega
  · refine .inr (.inr ⟨hl, ?_⟩)
    rw [star_hd hp hl1, hv0, hm, drop_one L i (by omega), List.drop_eq_nil_of_le (by omega), mid_one, hv]
    simp [subF]
  · omega
theorem st_bad {nm : List Int} {L : List (List Int)} {i : Nat} {ini : ByteArray} {A : List ByteArray} {fin : ByteArray} {hi hf : Bool} (hp : ¬ L = [[], []]) (hl1 : 1 < L.length) (h : starSt nm L i ini A fin hi hf) (hl : i < L.length) (hv : plainV (L.getD i []) = none ∨ (0 < i ∧ i + 1 < L.length ∧ plainV (L.getD i []) = some [])) : starP nm L = none := by
  rw [star_hd hp hl1]
  rcases h with ⟨rfl, _⟩ | ⟨_, _, rfl, rfl, v0, hv0, rfl, rfl, hm⟩ | ⟨h, _⟩
  · rcases hv with hv | hv
    · rw [hv]
    · omega
  · rw [hv0, hm, drop_one L i hl]
    rcases hv with hv | ⟨_, h1, hv⟩
    · by_cases hz : i + 1 < L.length
      · rw [drop_one L (i + 1) hz, mid_more, hv]; rfl
      · rw [List.drop_eq_nil_of_le (by omega), mid_one, hv]; rfl
    · rw [drop_one L (i + 1) h1, mid_more, hv]; rfl
  · omega
theorem st_end {nm : List Int} {L : List (List Int)} {ini : ByteArray} {A : List ByteArray} {fin : ByteArray} {hi hf : Bool} (hl1 : 1 < L.length) (h : starSt nm L L.length ini A fin hi hf) : starP nm L = some (.mk 4 (strOfNums nm) ⟨#[]⟩ ini A fin hi hf ⟨#[]⟩ false []) := by
  rcases h with ⟨h, _⟩ | ⟨_, h, _⟩ | ⟨_, h⟩
  · omega
  · omega
  · exact h
theorem getD_map_nums (ps : List ByteArray) (i : Nat) (h : i < ps.length) : (ps.map nums).getD i [] = nums (ps.getD i ByteArray.empty) := by simp [List.getD, h]
/-- Stores into the box. -/
theorem put36 {W : World} {g : Nat} {a0 a1 a2 a3 a4 a5 a6 a7 a8 a9 a10 b3 b6 : Value} {T : TypeId} (h : W.heap[g]? = some (.cells #[a0, a1, a2, a3, a4, a5, a6, a7, a8, a9, a10] T)) : ((W.setCell ⟨g, 3, none⟩ b3).setCell ⟨g, 6, none⟩ b6).heap[g]? = some (.cells #[a0, a1, a2, b3, a4, a5, b6, a7, a8, a9, a10] T) := by
  simp [World.setCell, Array.getElem?_modify, h]
theorem put57 {W : World} {g : Nat} {a0 a1 a2 a3 a4 a5 a6 a7 a8 a9 a10 b5 b7 : Value} {T : TypeId} (h : W.heap[g]? = some (.cells #[a0, a1, a2, a3, a4, a5, a6, a7, a8, a9, a10] T)) : ((W.setCell ⟨g, 5, none⟩ b5).setCell ⟨g, 7, none⟩ b7).heap[g]? = some (.cells #[a0, a1, a2, a3, a4, b5, a6, b7, a8, a9, a10] T) := by
  simp [World.setCell, Array.getElem?_modify, h]
theorem put4h {W : World} {g : Nat} {a0 a1 a2 a3 a4 a5 a6 a7 a8 a9 a10 b4 : Value} {T : TypeId} (h : W.heap[g]? = some (.cells #[a0, a1, a2, a3, a4, a5, a6, a7, a8, a9, a10] T)) : (W.setCell ⟨g, 4, none⟩ b4).heap[g]? = some (.cells #[a0, a1, a2, a3, b4, a5, a6, a7, a8, a9, a10] T) := by
  simp [World.setCell, Array.getElem?_modify, h]
/-- What the loop keeps: the result's box, the filter's, the row of pieces, the row of what stands between. -/
structure StW (B g n : Nat) (nm : ByteArray) (ps : List ByteArray) (w0 : World) (B4 : Nat) (ini : ByteArray) (va : Value) (A : List ByteArray) (fin : ByteArray) (hi hf : Bool) (W : World) : Prop where
  res : W.heap[B]? = some (.cells #[.int .i64 0, .string ⟨#[]⟩, .string ⟨#[]⟩, .string ⟨#[]⟩, .slice none 0 0, .string ⟨#[]⟩, .bool false, .bool false, .string ⟨#[]⟩, .bool false, .slice none 0 0] 27)
  box : W.heap[B + 1]? = some (.cells #[.int .i64 4, .string nm, .string ⟨#[]⟩, .string ini, va, .string fin, .bool hi, .bool hf, .string ⟨#[]⟩, .bool false, .slice none 0 0] 27)
  row : ∀ j, j < n → W.cell? ⟨g, j, none⟩ = some (.string (ps.getD j ByteArray.empty))
  any : Tx B4 va A W
  bel : Below B w0 W
  siz : B4 ≤ W.heap.size
theorem StW.grow {B g n : Nat} {nm : ByteArray} {ps : List ByteArray} {w0 : World} {B4 : Nat} {ini : ByteArray} {va : Value} {A : List ByteArray} {fin : ByteArray} {hi hf : Bool} {W W2 : World} (h : StW B g n nm ps w0 B4 ini va A fin hi hf W) (hB : B ≤ w0.heap.size) (b : Below W.heap.size W W2) : StW B g n nm ps w0 B4 ini va A fin hi hf W2 :=
  ⟨keep_blk h.res b, keep_blk h.box b, fun j hj => (b.cell (cell_lt (h.row j hj))).trans (h.row j hj), h.any.below b, h.bel.trans (b.mono (Nat.le_trans hB h.bel.size)), Nat.le_trans h.siz b.size⟩
theorem flv_none (w : World) (k : Int) (n v i : ByteArray) (a : List ByteArray) (f : ByteArray) (hi hf : Bool) (r : ByteArray) (d : Bool) (B : Nat) (va : Value) (h : Tx B va a w) : FlV w (.mk k n v i a f hi hf r d []) (.agg #[.int .i64 k, .string n, .string v, .string i, va, .string f, .bool hi, .bool hf, .string r, .bool d, .slice none 0 0]) := by
  simp only [FlV]
  have hl := h.2
  rcases hl with ⟨h1, h2⟩ | ⟨g, cap, cur, hv, _, _, hm1, hm2, _⟩
  · have ha : a = [] := List.length_eq_zero_iff.1 h2
    subst ha
    refine ⟨none, 0, none, 0, by rw [h1]; rfl, TxC.nil _ _, by decide, .inl rfl⟩
  · refine ⟨some ⟨g, 0, none⟩, cap, none, 0, by rw [hv]; rfl, ⟨(by have : maxLen ≤ 9223372036854775807 := (by decide); omega), ?_⟩, by decide, .inl rfl⟩
    by_cases h0 : a.length = 0
    · exact .inl h0
    · refine .inr ⟨g, 0, rfl, fun j hj => ?_⟩
      obtain ⟨g', c', hv', hc⟩ := h.at (by omega)
      rw [hv] at hv'
      cases hv'
      rw [Nat.zero_add]
      exact hc j hj
theorem Tx.shape {w : World} {B : Nat} {v : Value} {ps : List ByteArray} (h : Tx B v ps w) : ∃ ad m cp, v = .slice ad m cp := by
  rcases h.2 with ⟨h1, _⟩ | ⟨g, cap, cur, hv, _⟩
  · exact ⟨_, _, _, h1⟩
  · exact ⟨_, _, _, hv⟩
theorem tx_keep {w W2 : World} {B : Nat} {v : Value} {ps : List ByteArray} (h : Tx B v ps w) (hk : ∀ k, B ≤ k → k < w.heap.size → W2.heap[k]? = w.heap[k]?) : Tx B v ps W2 := by
  refine ⟨h.1, ?_⟩
  rcases h.2 with hn | ⟨g, cap, cur, hv, hb, hg, r⟩
  · exact .inl hn
  · exact .inr ⟨g, cap, cur, hv, hb, (hk g hb (blk_lt24 hg)).trans hg, r⟩
/-- A filter whose things lie in such blocks alone. -/
def FlVP (P : Nat → Prop) (w : World) (e : Fl) (x : Value) : Prop := ∀ W2 : World, (∀ k, P k → W2.heap[k]? = w.heap[k]?) → FlV W2 e x
theorem FlVP.flv {P : Nat → Prop} {w : World} {e : Fl} {x : Value} (h : FlVP P w e x) : FlV w e x := h w fun _ _ => rfl
theorem FlVP.mono {P P2 : Nat → Prop} {w w2 : World} {e : Fl} {x : Value} (h : FlVP P w e x) (hp : ∀ k, P k → P2 k) (hk : ∀ k, P k → w2.heap[k]? = w.heap[k]?) : FlVP P2 w2 e x := fun W2 h2 => h W2 fun k q => (h2 k (hp k q)).trans (hk k q)
theorem flv_noneP (w : World) (k : Int) (n v i : ByteArray) (a : List ByteArray) (f : ByteArray) (hi hf : Bool) (r : ByteArray) (d : Bool) (B B0 : Nat) (va : Value) (hB : B0 ≤ B) (h : Tx B va a w) : FlVP (fun k => B0 ≤ k ∧ k < w.heap.size) w (.mk k n v i a f hi hf r d []) (.agg #[.int .i64 k, .string n, .string v, .string i, va, .string f, .bool hi, .bool hf, .string r, .bool d, .slice none 0 0]) := fun W2 hk => flv_none W2 k n v i a f hi hf r d B va (tx_keep h fun j h1 h2 => hk j ⟨Nat.le_trans hB h1, h2⟩)
/-- Stores, as the loop keeps them. -/
theorem Tx.set {w : World} {B : Nat} {v : Value} {ps : List ByteArray} {a : Addr} {u : Value} (h : Tx B v ps w) (ha : a.block < B) : Tx B v ps (w.setCell a u) := ownsRow_setCell_below h ha u
theorem heap_far {W : World} {b : Nat} {k : Nat} {o : Obj} {v : Value} {c : Nat} (h : W.heap[k]? = some o) (hne : k ≠ b) : (W.setCell ⟨b, c, none⟩ v).heap[k]? = some o := (Below.heap_setCell _ _ _ _ hne).trans h
theorem cell_away {W : World} {b g j c : Nat} {x v : Value} (h : W.cell? ⟨g, j, none⟩ = some x) (hne : ¬ g = b) : (W.setCell ⟨b, c, none⟩ v).cell? ⟨g, j, none⟩ = some x := (World.cell?_setCell_other _ _ _ _ (by intro e; injection e with e1 _; exact hne e1.symm)).trans h
theorem StW.set36 {B g n : Nat} {nm : ByteArray} {ps : List ByteArray} {w0 : World} {B4 : Nat} {ini : ByteArray} {va : Value} {A : List ByteArray} {fin : ByteArray} {hi hf : Bool} {W : World} (h : StW B g n nm ps w0 B4 ini va A fin hi hf W) (hB : B + 2 ≤ B4) (hw : w0.heap.size = B) (hg : ¬ g = B + 1) (q : ByteArray) (b : Bool) : StW B g n nm ps w0 B4 q va A fin b hf ((W.setCell ⟨B + 1, 3, none⟩ (.string q)).setCell ⟨B + 1, 6, none⟩ (.bool b)) :=
  ⟨heap_far (heap_far h.res (by omega)) (by omega), put36 h.box, fun j hj => cell_away (cell_away (h.row j hj) hg) hg, (h.any.set (by dsimp only; omega)).set (by dsimp only; omega), (h.bel.setCell (by dsimp only; omega) _).setCell (by dsimp only; omega) _, by simpa [World.setCell] using h.siz⟩
theorem StW.set57 {B g n : Nat} {nm : ByteArray} {ps : List ByteArray} {w0 : World} {B4 : Nat} {ini : ByteArray} {va : Value} {A : List ByteArray} {fin : ByteArray} {hi hf : Bool} {W : World} (h : StW B g n nm ps w0 B4 ini va A fin hi hf W) (hB : B + 2 ≤ B4) (hw : w0.heap.size = B) (hg : ¬ g = B + 1) (q : ByteArray) (b : Bool) : StW B g n nm ps w0 B4 ini va A q hi b ((W.setCell ⟨B + 1, 5, none⟩ (.string q)).setCell ⟨B + 1, 7, none⟩ (.bool b)) :=
  ⟨heap_far (heap_far h.res (by omega)) (by omega), put57 h.box, fun j hj => cell_away (cell_away (h.row j hj) hg) hg, (h.any.set (by dsimp only; omega)).set (by dsimp only; omega), (h.bel.setCell (by dsimp only; omega) _).setCell (by dsimp only; omega) _, by simpa [World.setCell] using h.siz⟩
theorem StW.set4 {B g n : Nat} {nm : ByteArray} {ps : List ByteArray} {w0 : World} {B4 : Nat} {ini : ByteArray} {va va2 : Value} {A A2 : List ByteArray} {fin : ByteArray} {hi hf : Bool} {W W2 : World} (h : StW B g n nm ps w0 B4 ini va A fin hi hf W) (hB : B + 2 ≤ B4) (hw : w0.heap.size = B) (hg : ¬ g = B + 1) (hg4 : g < B4) (b : Below B4 W W2) (hT : Tx B4 va2 A2 W2) : StW B g n nm ps w0 B4 ini va2 A2 fin hi hf (W2.setCell ⟨B + 1, 4, none⟩ va2) :=
  ⟨heap_far ((b.block B (by omega)).trans h.res) (by omega), put4h ((b.block (B + 1) (by omega)).trans h.box), fun j hj => cell_away ((b.cell (p := ⟨g, j, none⟩) hg4).trans (h.row j hj)) hg, hT.set (by dsimp only; omega), (h.bel.trans (b.mono (by omega))).setCell (by dsimp only; omega) _, by have := Nat.le_trans h.siz b.size; simpa [World.setCell] using this⟩

set_option maxRecDepth 4000 in
set_option maxHeartbeats 12800000 in
theorem rstarred_any (nm s : ByteArray) (w : World) (hs : s.size ≤ 4000) (h2l : 1 < (splitL 42 (nums s)).length) : Calls Tryz.prog 67 #[.string nm, .string s] w fun y w' => ∃ x, y = .returned (.tuple #[x, .bool (starP (nums nm) (splitL 42 (nums s))).isSome]) ∧ (∃ e, FlVP (fun k => w.heap.size ≤ k ∧ k < w'.heap.size) w' e x ∧ ∀ e', starP (nums nm) (splitL 42 (nums s)) = some e' → e' = e) ∧ Below w.heap.size w w' := by
  have b1 := Below.one w (.cells #[.int .i64 0, .string ⟨#[]⟩, .string ⟨#[]⟩, .string ⟨#[]⟩, .slice none 0 0, .string ⟨#[]⟩, .bool false, .bool false, .string ⟨#[]⟩, .bool false, .slice none 0 0] 27)
  have b2 := b1.trans ((Below.one (w.alloc (.cells #[.int .i64 0, .string ⟨#[]⟩, .string ⟨#[]⟩, .string ⟨#[]⟩, .slice none 0 0, .string ⟨#[]⟩, .bool false, .bool false, .string ⟨#[]⟩, .bool false, .slice none 0 0] 27)) (.cells #[.int .i64 4, .string nm, .string ⟨#[]⟩, .string ⟨#[]⟩, .slice none 0 0, .string ⟨#[]⟩, .bool false, .bool false, .string ⟨#[]⟩, .bool false, .slice none 0 0] 27)).mono b1.size)
  have HR := keep_blk (heap_new w (.cells #[.int .i64 0, .string ⟨#[]⟩, .string ⟨#[]⟩, .string ⟨#[]⟩, .slice none 0 0, .string ⟨#[]⟩, .bool false, .bool false, .string ⟨#[]⟩, .bool false, .slice none 0 0] 27)) (Below.one (w.alloc (.cells #[.int .i64 0, .string ⟨#[]⟩, .string ⟨#[]⟩, .string ⟨#[]⟩, .slice none 0 0, .string ⟨#[]⟩, .bool false, .bool false, .string ⟨#[]⟩, .bool false, .slice none 0 0] 27)) (.cells #[.int .i64 4, .string nm, .string ⟨#[]⟩, .string ⟨#[]⟩, .slice none 0 0, .string ⟨#[]⟩, .bool false, .bool false, .string ⟨#[]⟩, .bool false, .slice none 0 0] 27))
  have HF := heap_new (w.alloc (.cells #[.int .i64 0, .string ⟨#[]⟩, .string ⟨#[]⟩, .string ⟨#[]⟩, .slice none 0 0, .string ⟨#[]⟩, .bool false, .bool false, .string ⟨#[]⟩, .bool false, .slice none 0 0] 27)) (.cells #[.int .i64 4, .string nm, .string ⟨#[]⟩, .string ⟨#[]⟩, .slice none 0 0, .string ⟨#[]⟩, .bool false, .bool false, .string ⟨#[]⟩, .bool false, .slice none 0 0] 27)
  rw [World.size_alloc] at HF
  have CS := hide (fun W => rsplit24_any s 42 W (by omega))
  generalize hL : splitL 42 (nums s) = L at *
  clear hL
  obtain ⟨i0, hi0, hz0, hz1, hz2⟩ := info_parts str_info
  go_enter Tryz.func67, Tryz.ntmps67
  go_upto_region 3 with (go_at_call 66; refine (unhide CS _).mono ?_; rintro e w4 ⟨v, ps, rfl, hps, hpz, hpl, hT, b4⟩)
  have HR4 := keep_blk HR b4
  have HF4 := keep_blk HF b4
  have t4 := b2.trans (b4.mono b2.size)
  have hn2 : 1 < ps.length := by rw [← hps, List.length_map] at h2l; exact h2l
  obtain ⟨g, c, rfl, hc⟩ := hT.at (by omega)
  have hg3 := World.ownsRow.lt hT g rfl
  have hgz := b2.size
  simp only [World.size_alloc] at hg3
  have hgF : ¬ g = w.heap.size + 1 := by omega
  have hgR : ¬ g = w.heap.size := by omega
  have hbz := b4.size
  simp only [World.size_alloc] at hbz
  subst hps
  obtain ⟨n, hn⟩ : ∃ n, n = ps.length := ⟨_, rfl⟩
  rw [← hn]
  rw [← hn] at hc hn2 hpl
  have HN := hide hn
  have HBZ := hide hbz
  have hgF2 : ¬ w.heap.size + 1 = g := by omega
  have hgR2 : ¬ w.heap.size = g := by omega
  have HPZ := hide hpz
  have hn5 : n ≤ 5000 := by omega
  clear hpz hT CS b4 HR HF b1 b2 hg3 hgz h2l hn hbz hpl
  have c0 := hc 0 (by omega)
  have c1 := hc 1 (by omega)
  obtain ⟨q0, hq0⟩ : ∃ q, q = ps.getD 0 ByteArray.empty := ⟨_, rfl⟩
  obtain ⟨q1, hq1⟩ : ∃ q, q = ps.getD 1 ByteArray.empty := ⟨_, rfl⟩
  rw [← hq0] at c0
  rw [← hq1] at c1
  have HQ0 := hide hq0
  have HQ1 := hide hq1
  have HC := hide hc
  clear hq0 hq1 hc
  obtain ⟨bp, hbp⟩ : ∃ bp, bp = decide (n = 2 ∧ q0 = ⟨#[]⟩ ∧ q1 = ⟨#[]⟩) := ⟨_, rfl⟩
  have HB := hide hbp
  clear hbp
  go_upto_region 4 with fail
  go_cut [31] from 18 (fun s31 W => s31 = .bool bp ∧ W = w4)
  case first =>
    have z0 : (0 : Int) < (n : Int) := by omega
    have z1 : (1 : Int) < (n : Int) := by omega
    by_cases h2 : n = 2
    · have e2 : ((n : Int) == 2) = true := by rw [h2]; rfl
      by_cases p0 : q0 = ⟨#[]⟩
      · by_cases p1 : q1 = ⟨#[]⟩
        · have hq : bp = true := by rw [unhide HB]; exact decide_eq_true ⟨h2, p0, p1⟩
          rw [p0] at c0
          rw [p1] at c1
          clear p0 p1 h2 HB
          go_wp2
          go_meet
          case rel => exact ⟨by rw [hq], rfl⟩
        · have hq : bp = false := by rw [unhide HB]; exact decide_eq_false fun h => p1 h.2.2
          obtain ⟨e1, e3, e4⟩ := emp_no (show ¬ q1 = ByteArray.empty from p1)
          rw [p0] at c0
          clear p0 h2 HB
          clear p1
          go_wp2
          go_meet
          case rel => exact ⟨by rw [hq], rfl⟩
      · have hq : bp = false := by rw [unhide HB]; exact decide_eq_false fun h => p0 h.2.1
        obtain ⟨e1, e3, e4⟩ := emp_no (show ¬ q0 = ByteArray.empty from p0)
        clear h2 HB
        clear p0
        go_wp2
        go_meet
        case rel => exact ⟨by rw [hq], rfl⟩
    · have e2 : ((n : Int) == 2) = false := by rw [beq_eq_false_iff_ne]; omega
      have hq : bp = false := by rw [unhide HB]; exact decide_eq_false fun h => h2 h.1
      clear h2 HB
      go_wp2
      go_meet
      case rel => exact ⟨by rw [hq], rfl⟩
  case rest =>
    obtain ⟨rfl, rfl⟩ := hcut
    obtain ⟨k0, k1, k2, k3, k4, k5, k6, k7, k8, k9, k10⟩ := cells11 HF4
    obtain ⟨m0, m1, m2, m3, m4, m5, m6, m7, m8, m9, m10⟩ := cells11 HR4
    have frF := froz11 HF4
    have frR := froz11 HR4
    clear c0 c1
    cases bp
    · have hNP : ¬ ps.map nums = [[], []] := fun e => by
        have hb := unhide HB
        have hlen := congrArg List.length e
        rw [List.length_map] at hlen
        obtain ⟨p, q, rfl⟩ : ∃ p q, ps = [p, q] := by
          rcases ps with _ | ⟨p, _ | ⟨q, _ | ⟨r, t⟩⟩⟩ <;> simp at hlen
          exact ⟨p, q, rfl⟩
        injection e with e1 e2
        injection e2 with e2 e3
        have f1 : p = ⟨#[]⟩ := by rw [← strOfNums_nums p, e1]; rfl
        have f2 : q = ⟨#[]⟩ := by rw [← strOfNums_nums q, e2]; rfl
        rw [decide_eq_true ⟨unhide HN, by rw [unhide HQ0]; exact f1, by rw [unhide HQ1]; exact f2⟩] at hb
        cases hb
      have hn2' : 1 < ps.length := by rw [← unhide HN]; exact hn2
      have HW0 : Hid (StW w.heap.size g n nm ps w wc.heap.size ⟨#[]⟩ (.slice none 0 0) [] ⟨#[]⟩ false false wc) := ⟨HR4, HF4, unhide HC, ⟨rfl, .inl ⟨rfl, rfl⟩⟩, t4, Nat.le_refl _⟩
      have HNP := hide hNP
      have HN2 := hide hn2'
      obtain ⟨B4, hB4⟩ : ∃ B4, B4 = wc.heap.size := ⟨_, rfl⟩
      rw [← hB4] at HW0
      have HB4 : Hid (w.heap.size + 2 ≤ B4 ∧ g < B4) := ⟨by have := unhide HBZ; omega, by have := blk_lt24 HF4; have := cell_lt (unhide HC 0 (by omega)); rw [hB4]; exact this⟩
      clear hB4 hNP hn2' k0 k1 k2 k3 k4 k5 k6 k7 k8 k9 k10 m0 m1 m2 m3 m4 m5 m6 m7 m8 m9 m10 frF frR HR4 HF4 t4 HB HQ0 HQ1 HBZ HC
      go_upto_region 6 with fail
      go_wp2
      go_loopw [9] (fun vi wr => ∃ (i : Nat) (ini : ByteArray) (va : Value) (A : List ByteArray) (fin : ByteArray) (hi hf : Bool), vi = .int .i64 (i : Int) ∧ i ≤ n ∧ A.length ≤ i ∧ Hid (starSt (nums nm) (ps.map nums) i ini A fin hi hf) ∧ Hid (StW w.heap.size g n nm ps w B4 ini va A fin hi hf wr)) (fun i _ => n - (intOf i).toNat)
      case atStart => exact ⟨0, _, _, [], _, _, _, rfl, Nat.zero_le _, Nat.le_refl _, .inl ⟨rfl, rfl, rfl, rfl, rfl, rfl⟩, HW0⟩
      case round =>
        clear HW0
        obtain ⟨i, ini, va, A, fin, hi, hf, rfl, hin, hAi, HS, HW⟩ := hrel
        obtain ⟨ad, m, cp, rfl⟩ := (unhide HW).any.shape

        by_cases hlt : i < n
        · have zl : (i : Int) < (n : Int) := by omega
          have zi0 : (0 : Int) ≤ (i : Int) := by omega
          have hip : i < ps.length := by rw [← unhide HN]; exact hlt
          have hLl : (ps.map nums).length = n := by rw [List.length_map]; exact (unhide HN).symm
          have qi := (unhide HW).row i hlt
          have HPL : Hid ((ps.map nums).getD i [] = nums (ps.getD i ByteArray.empty)) := getD_map_nums ps i hip
          have hpm : (ps.getD i ByteArray.empty).size ≤ s.size := unhide HPZ _ (by simp [List.getD, hip])
          obtain ⟨p, hp⟩ : ∃ p, p = ps.getD i ByteArray.empty := ⟨_, rfl⟩
          rw [← hp] at qi HPL hpm
          have CP := hide (fun W => rplain24_any p W (by omega))
          have wn : IntKind.i64.wrap ((n : Int) - 1) = (n : Int) - 1 := wrap_in (by omega) (by omega)
          have wi : IntKind.i64.wrap ((i : Int) + 1) = (i : Int) + 1 := wrap_in (by omega) (by omega)
          have HG : Hid (∀ W2, Below wr.heap.size wr W2 → StW w.heap.size g n nm ps w B4 ini (.slice ad m cp) A fin hi hf W2) := fun W2 b => (unhide HW).grow (Nat.le_refl _) b
          have HLl := hide hLl
          clear hp hip hLl
          cases hpv : plainV (nums p) with
          | none =>
            obtain ⟨hA, hBo⟩ := pl_none hpv
            rw [← hA, ← hBo] at CP
            have HX := hide (st_bad (unhide HNP) (by rw [unhide HLl]; exact hn2) (unhide HS) (by rw [unhide HLl]; exact hlt) (.inl (by rw [unhide HPL]; exact hpv)))
            clear hA hBo hpv HS
            go_wp2_with (go_at_call 68; refine (unhide CP _).mono ?_; rintro e w5 ⟨rfl, b5⟩; have HW5 := hide (unhide HG _ b5); obtain ⟨k0, k1, k2, k3, k4, k5, k6, k7, k8, k9, k10⟩ := cells11 (unhide HW5).box; obtain ⟨m0, m1, m2, m3, m4, m5, m6, m7, m8, m9, m10⟩ := cells11 (unhide HW5).res; have frF := froz11 (unhide HW5).box; have frR := froz11 (unhide HW5).res; have hsz5 := (unhide HW5).siz)
            refine bodyPost_ret (res_fil2 rfl _ _ w.heap.size (.int .i64 4) (.string nm) (.string ⟨#[]⟩) (.string ini) (.slice ad m cp) (.string fin) (.bool hi) (.bool hf) (.string ⟨#[]⟩) (.bool false) (.slice none 0 0) rfl (by
              refine put11h (a0 := .int .i64 0) (a1 := .string ⟨#[]⟩) (a2 := .string ⟨#[]⟩) (a3 := .string ⟨#[]⟩) (a4 := .slice none 0 0) (a5 := .string ⟨#[]⟩) (a6 := .bool false) (a7 := .bool false) (a8 := .string ⟨#[]⟩) (a9 := .bool false) (a10 := .slice none 0 0) ?_
              with_reducible exact (unhide HW5).res)) rfl ?_
            obtain ⟨hB1, hB2⟩ := unhide HB4
            refine ⟨_, by rw [unhide HX]; rfl, ⟨_, flv_noneP _ 4 nm ⟨#[]⟩ ini A fin hi hf ⟨#[]⟩ false B4 w.heap.size (.slice ad m cp) (by omega) ?_, (fun e he => by rw [unhide HX] at he; cases he)⟩, ?_⟩
            · repeat (first | with_reducible exact (unhide HW5).any | refine Tx.set ?_ (by dsimp only; omega))
            · repeat (first | with_reducible exact (unhide HW5).bel | refine Below.setCell ?_ (by dsimp only; omega) _)
          | some v =>
            obtain ⟨hA, hBo⟩ := pl_some hpv
            rw [← hA, ← hBo] at CP
            have HV : Hid (plainV ((ps.map nums).getD i []) = some v) := by show _ = _; rw [unhide HPL]; exact hpv
            have HVP := hide hpv
            clear hA hBo hpv HPL
            by_cases hv : v = []
            · subst hv
              rw [show strOfNums [] = ⟨#[]⟩ from rfl] at CP
              by_cases h0 : i = 0
              · have e0 : ((i : Int) == 0) = true := by rw [h0]; rfl
                have z0 : ¬ (0 : Int) < (i : Int) := by omega
                have el : ((i : Int) == (n : Int) - 1) = false := by rw [beq_eq_false_iff_ne]; omega
                have HS2 : Hid (starSt (nums nm) (ps.map nums) (i + 1) ⟨#[]⟩ A fin false hf) := by
                  have h1 := unhide HS
                  have h2 := unhide HV
                  rw [h0] at h1 h2
                  rw [h0]
                  have := st_first h1 (by rw [unhide HLl]; exact hn2) h2
                  exact this
                have hA0 : A.length ≤ i + 1 := by omega
                clear h0 HS HV
                go_wp2_with (go_at_call 68; refine (unhide CP _).mono ?_; rintro e w5 ⟨rfl, b5⟩; have HW5 := hide (unhide HG _ b5); obtain ⟨k0, k1, k2, k3, k4, k5, k6, k7, k8, k9, k10⟩ := cells11 (unhide HW5).box; obtain ⟨m0, m1, m2, m3, m4, m5, m6, m7, m8, m9, m10⟩ := cells11 (unhide HW5).res; have frF := froz11 (unhide HW5).box; have frR := froz11 (unhide HW5).res; have hsz5 := (unhide HW5).siz)
                go_roundw
                case rel => exact ⟨i + 1, ⟨#[]⟩, _, A, fin, false, hf, by go_num, by omega, hA0, HS2, (unhide HW5).set36 (unhide HB4).1 rfl hgF ⟨#[]⟩ false⟩
                case measure => simp [intOf]; omega
              · have e0 : ((i : Int) == 0) = false := by rw [beq_eq_false_iff_ne]; omega
                have z0 : (0 : Int) < (i : Int) := by omega
                by_cases hl : i + 1 = n
                · have el : ((i : Int) == (n : Int) - 1) = true := by rw [beq_iff_eq]; omega
                  have zl1 : ¬ (i : Int) < (n : Int) - 1 := by omega
                  have HS2 : Hid (starSt (nums nm) (ps.map nums) (i + 1) ini A ⟨#[]⟩ hi false) := by
                    have := st_last (unhide HNP) (by rw [unhide HLl]; exact hn2) (unhide HS) (by omega) (by rw [unhide HLl]; exact hl) (unhide HV)
                    exact this
                  have hA0 : A.length ≤ i + 1 := by omega
                  clear HS HV
                  go_wp2_with (go_at_call 68; refine (unhide CP _).mono ?_; rintro e w5 ⟨rfl, b5⟩; have HW5 := hide (unhide HG _ b5); obtain ⟨k0, k1, k2, k3, k4, k5, k6, k7, k8, k9, k10⟩ := cells11 (unhide HW5).box; obtain ⟨m0, m1, m2, m3, m4, m5, m6, m7, m8, m9, m10⟩ := cells11 (unhide HW5).res; have frF := froz11 (unhide HW5).box; have frR := froz11 (unhide HW5).res; have hsz5 := (unhide HW5).siz)
                  go_roundw
                  case rel => exact ⟨i + 1, ini, _, A, ⟨#[]⟩, hi, false, by go_num, by omega, hA0, HS2, (unhide HW5).set57 (unhide HB4).1 rfl hgF ⟨#[]⟩ false⟩
                  case measure => simp [intOf]; omega
                · have el : ((i : Int) == (n : Int) - 1) = false := by rw [beq_eq_false_iff_ne]; omega
                  have zl1 : (i : Int) < (n : Int) - 1 := by omega
                  have HX := hide (st_bad (unhide HNP) (by rw [unhide HLl]; exact hn2) (unhide HS) (by rw [unhide HLl]; exact hlt) (.inr ⟨by omega, by rw [unhide HLl]; omega, unhide HV⟩))
                  clear HS HV
                  go_wp2_with (go_at_call 68; refine (unhide CP _).mono ?_; rintro e w5 ⟨rfl, b5⟩; have HW5 := hide (unhide HG _ b5); obtain ⟨k0, k1, k2, k3, k4, k5, k6, k7, k8, k9, k10⟩ := cells11 (unhide HW5).box; obtain ⟨m0, m1, m2, m3, m4, m5, m6, m7, m8, m9, m10⟩ := cells11 (unhide HW5).res; have frF := froz11 (unhide HW5).box; have frR := froz11 (unhide HW5).res; have hsz5 := (unhide HW5).siz)
                  refine bodyPost_ret (res_fil2 rfl _ _ w.heap.size (.int .i64 4) (.string nm) (.string ⟨#[]⟩) (.string ini) (.slice ad m cp) (.string fin) (.bool hi) (.bool hf) (.string ⟨#[]⟩) (.bool false) (.slice none 0 0) rfl (by
                    refine put11h (a0 := .int .i64 0) (a1 := .string ⟨#[]⟩) (a2 := .string ⟨#[]⟩) (a3 := .string ⟨#[]⟩) (a4 := .slice none 0 0) (a5 := .string ⟨#[]⟩) (a6 := .bool false) (a7 := .bool false) (a8 := .string ⟨#[]⟩) (a9 := .bool false) (a10 := .slice none 0 0) ?_
                    with_reducible exact (unhide HW5).res)) rfl ?_
                  obtain ⟨hB1, hB2⟩ := unhide HB4
                  refine ⟨_, by rw [unhide HX]; rfl, ⟨_, flv_noneP _ 4 nm ⟨#[]⟩ ini A fin hi hf ⟨#[]⟩ false B4 w.heap.size (.slice ad m cp) (by omega) ?_, (fun e he => by rw [unhide HX] at he; cases he)⟩, ?_⟩
                  · repeat (first | with_reducible exact (unhide HW5).any | refine Tx.set ?_ (by dsimp only; omega))
                  · repeat (first | with_reducible exact (unhide HW5).bel | refine Below.setCell ?_ (by dsimp only; omega) _)
            · obtain ⟨q, hq⟩ : ∃ q, q = strOfNums v := ⟨_, rfl⟩
              have hqe : ¬ q = ByteArray.empty := fun e => by
                have h1 := nums_strOfNums v (plain_in _ _ (nums_bound p) (unhide HVP))
                rw [← hq, e] at h1
                exact hv h1.symm
              obtain ⟨e1, e2, e3⟩ := emp_no hqe
              rw [← hq] at CP
              have HVQ := hide hq
              have HVE : Hid (true = !v.isEmpty) := by
                show _ = _
                cases v with
                | nil => exact absurd rfl hv
                | cons a t => rfl
              have HNV := hide hv
              clear hq hqe HVP hv
              by_cases h0 : i = 0
              · have e0 : ((i : Int) == 0) = true := by rw [h0]; rfl
                have z0 : ¬ (0 : Int) < (i : Int) := by omega
                have el : ((i : Int) == (n : Int) - 1) = false := by rw [beq_eq_false_iff_ne]; omega
                have HS2 : Hid (starSt (nums nm) (ps.map nums) (i + 1) q A fin true hf) := by
                  have h1 := unhide HS
                  have h2 := unhide HV
                  rw [h0] at h1 h2
                  rw [h0]
                  have := st_first h1 (by rw [unhide HLl]; exact hn2) h2
                  rw [← unhide HVQ, ← unhide HVE] at this; exact this
                have hA0 : A.length ≤ i + 1 := by omega
                clear h0 HS HV
                go_wp2_with (go_at_call 68; refine (unhide CP _).mono ?_; rintro e w5 ⟨rfl, b5⟩; have HW5 := hide (unhide HG _ b5); obtain ⟨k0, k1, k2, k3, k4, k5, k6, k7, k8, k9, k10⟩ := cells11 (unhide HW5).box; obtain ⟨m0, m1, m2, m3, m4, m5, m6, m7, m8, m9, m10⟩ := cells11 (unhide HW5).res; have frF := froz11 (unhide HW5).box; have frR := froz11 (unhide HW5).res; have hsz5 := (unhide HW5).siz)
                go_roundw
                case rel => exact ⟨i + 1, q, _, A, fin, true, hf, by go_num, by omega, hA0, HS2, (unhide HW5).set36 (unhide HB4).1 rfl hgF q true⟩
                case measure => simp [intOf]; omega
              · have e0 : ((i : Int) == 0) = false := by rw [beq_eq_false_iff_ne]; omega
                have z0 : (0 : Int) < (i : Int) := by omega
                by_cases hl : i + 1 = n
                · have el : ((i : Int) == (n : Int) - 1) = true := by rw [beq_iff_eq]; omega
                  have zl1 : ¬ (i : Int) < (n : Int) - 1 := by omega
                  have HS2 : Hid (starSt (nums nm) (ps.map nums) (i + 1) ini A q hi true) := by
                    have := st_last (unhide HNP) (by rw [unhide HLl]; exact hn2) (unhide HS) (by omega) (by rw [unhide HLl]; exact hl) (unhide HV)
                    rw [← unhide HVQ, ← unhide HVE] at this; exact this
                  have hA0 : A.length ≤ i + 1 := by omega
                  clear HS HV
                  go_wp2_with (go_at_call 68; refine (unhide CP _).mono ?_; rintro e w5 ⟨rfl, b5⟩; have HW5 := hide (unhide HG _ b5); obtain ⟨k0, k1, k2, k3, k4, k5, k6, k7, k8, k9, k10⟩ := cells11 (unhide HW5).box; obtain ⟨m0, m1, m2, m3, m4, m5, m6, m7, m8, m9, m10⟩ := cells11 (unhide HW5).res; have frF := froz11 (unhide HW5).box; have frR := froz11 (unhide HW5).res; have hsz5 := (unhide HW5).siz)
                  go_roundw
                  case rel => exact ⟨i + 1, ini, _, A, q, hi, true, by go_num, by omega, hA0, HS2, (unhide HW5).set57 (unhide HB4).1 rfl hgF q true⟩
                  case measure => simp [intOf]; omega
                · have el : ((i : Int) == (n : Int) - 1) = false := by rw [beq_eq_false_iff_ne]; omega
                  have zl1 : (i : Int) < (n : Int) - 1 := by omega
                  have HS2 : Hid (starSt (nums nm) (ps.map nums) (i + 1) ini (A ++ [q]) fin hi hf) := by
                    have := st_mid (unhide HS) (by omega) (by rw [unhide HLl]; omega) (unhide HV) (unhide HNV)
                    rw [← unhide HVQ] at this
                    exact this
                  have hA0 : (A ++ [q]).length ≤ i + 1 := by simp; omega
                  obtain ⟨N, hN⟩ : ∃ N, N = A.length := ⟨_, rfl⟩
                  have HNA := hide hN
                  rw [← hN] at hAi
                  have hm1 : N + 1 ≤ maxLen := by unfold maxLen; omega
                  have hm2 : (N + 1) * 16 ≤ 140737488355328 := by omega
                  clear HS HV hN
                  go_wp2_with (first
                    | (at_builtin; refine wpList_append_lies _ rfl _ _ 22 rfl B4 9 i0 _ 1 16 Tryz.underlying22 hi0 hz0 hz1 hz2 rfl (by omega) _ N _ rfl (World.ownsRow.alloc (Tx.own (unhide HNA) (unhide HW5).any) _) ⟨w5.heap.size, 0, none⟩ 1 1 [.string _] rfl rfl (World.news_of_block (cs := #[.string _]) (t := 9) (fr := (0, 0)) (heap_new w5 _)) (by simp [Value.oneCell']) (by omega) hm1 hm2 (by simp; omega) (w5.heap.size + 1) (by simp) ?_; intro g9 cap9 w9 hown9 hgrow9 hat9 hlt9; have b9 := hide (below_own (grown_new hgrow9) hsz5 (own_block (Tx.own (unhide HNA) (unhide HW5).any))); have HF9 := ((unhide b9).block (w.heap.size + 1) (Nat.lt_of_succ_le (unhide HB4).1)).trans (unhide HW5).box; obtain ⟨d0, d1, d2, d3, d4, d5, d6, d7, d8, d9, d10⟩ := cells11 HF9; have frF9 := froz11 HF9)
                    | (go_at_call 68; refine (unhide CP _).mono ?_; rintro e w5 ⟨rfl, b5⟩; have HW5 := hide (unhide HG _ b5); obtain ⟨k0, k1, k2, k3, k4, k5, k6, k7, k8, k9, k10⟩ := cells11 (unhide HW5).box; obtain ⟨m0, m1, m2, m3, m4, m5, m6, m7, m8, m9, m10⟩ := cells11 (unhide HW5).res; have frF := froz11 (unhide HW5).box; have frR := froz11 (unhide HW5).res; have hsz5 := (unhide HW5).siz))
                  go_roundw
                  case rel => exact ⟨i + 1, ini, _, A ++ [q], fin, hi, hf, by go_num, by omega, hA0, HS2, (unhide HW5).set4 (unhide HB4).1 rfl hgF (unhide HB4).2 (unhide b9) (Tx.push (unhide HNA) hown9)⟩
                  case measure => simp [intOf]; omega
        · have zl : ¬ (i : Int) < (n : Int) := by omega
          have hie : i = n := by omega
          have HX : Hid (starP (nums nm) (ps.map nums) = some (.mk 4 nm ⟨#[]⟩ ini A fin hi hf ⟨#[]⟩ false [])) := by
            have h1 := unhide HS
            have hLl : (ps.map nums).length = n := by rw [List.length_map]; exact (unhide HN).symm
            rw [hie, ← hLl] at h1
            have := st_end (by rw [hLl]; exact hn2) h1
            rw [strOfNums_nums] at this
            exact this
          have HW5 := HW
          obtain ⟨k0, k1, k2, k3, k4, k5, k6, k7, k8, k9, k10⟩ := cells11 (unhide HW5).box
          obtain ⟨m0, m1, m2, m3, m4, m5, m6, m7, m8, m9, m10⟩ := cells11 (unhide HW5).res
          have frF := froz11 (unhide HW5).box
          have frR := froz11 (unhide HW5).res
          have hsz5 := (unhide HW5).siz
          clear hie HS HW
          go_wp2
          refine bodyPost_ret (res_fil2 rfl _ _ w.heap.size (.int .i64 4) (.string nm) (.string ⟨#[]⟩) (.string ini) (.slice ad m cp) (.string fin) (.bool hi) (.bool hf) (.string ⟨#[]⟩) (.bool false) (.slice none 0 0) rfl (by
            refine put11h (a0 := .int .i64 0) (a1 := .string ⟨#[]⟩) (a2 := .string ⟨#[]⟩) (a3 := .string ⟨#[]⟩) (a4 := .slice none 0 0) (a5 := .string ⟨#[]⟩) (a6 := .bool false) (a7 := .bool false) (a8 := .string ⟨#[]⟩) (a9 := .bool false) (a10 := .slice none 0 0) ?_
            with_reducible exact (unhide HW5).res)) rfl ?_
          obtain ⟨hB1, hB2⟩ := unhide HB4
          refine ⟨_, by rw [unhide HX]; rfl, ⟨_, flv_noneP _ 4 nm ⟨#[]⟩ ini A fin hi hf ⟨#[]⟩ false B4 w.heap.size (.slice ad m cp) (by omega) ?_, (fun e he => by rw [unhide HX] at he; cases he; rfl)⟩, ?_⟩
          · repeat (first | with_reducible exact (unhide HW5).any | refine Tx.set ?_ (by dsimp only; omega))
          · repeat (first | with_reducible exact (unhide HW5).bel | refine Below.setCell ?_ (by dsimp only; omega) _)
    · have hX : starP (nums nm) (ps.map nums) = some (.mk 7 nm ⟨#[]⟩ ⟨#[]⟩ [] ⟨#[]⟩ false false ⟨#[]⟩ false []) := by
        obtain ⟨hb1, hb2, hb3⟩ := of_decide_eq_true (unhide HB).symm
        have hl : ps.length = 2 := by rw [← unhide HN]; exact hb1
        rw [unhide HQ0] at hb2
        rw [unhide HQ1] at hb3
        obtain ⟨p, q, rfl⟩ : ∃ p q, ps = [p, q] := by
          rcases ps with _ | ⟨p, _ | ⟨q, _ | ⟨r, t⟩⟩⟩ <;> simp at hl
          exact ⟨p, q, rfl⟩
        have f1 : p = ⟨#[]⟩ := hb2
        have f2 : q = ⟨#[]⟩ := hb3
        subst f1
        subst f2
        show starP (nums nm) [[], []] = _
        unfold starP
        rw [if_pos rfl, strOfNums_nums]
      have HX := hide hX
      clear hX
      go_wp2
      refine bodyPost_ret (res_fil2 rfl _ _ w.heap.size (.int .i64 7) (.string nm) (.string ⟨#[]⟩) (.string ⟨#[]⟩) (.slice none 0 0) (.string ⟨#[]⟩) (.bool false) (.bool false) (.string ⟨#[]⟩) (.bool false) (.slice none 0 0) rfl (by
        refine put11h (a0 := .int .i64 0) (a1 := .string ⟨#[]⟩) (a2 := .string ⟨#[]⟩) (a3 := .string ⟨#[]⟩) (a4 := .slice none 0 0) (a5 := .string ⟨#[]⟩) (a6 := .bool false) (a7 := .bool false) (a8 := .string ⟨#[]⟩) (a9 := .bool false) (a10 := .slice none 0 0) ?_
        with_reducible exact HR4)) rfl ?_
      refine ⟨_, by rw [unhide HX]; rfl, ⟨_, flv_noneP _ 7 nm ⟨#[]⟩ ⟨#[]⟩ [] ⟨#[]⟩ false false ⟨#[]⟩ false w.heap.size w.heap.size _ (Nat.le_refl _) ⟨rfl, .inl ⟨rfl, rfl⟩⟩, (fun e he => by rw [unhide HX] at he; cases he; rfl)⟩, ?_⟩
      repeat (first | with_reducible exact t4 | refine Below.setCell ?_ (by dsimp only; omega) _)

end Go.Proofs.YthbldkkjjjmegaaGreatDoor
