/- What Build makes, edge by edge (plain); the state of its loop; the way out of a function that went over iterators. -/
import Derived.Test.YtnlkefdicpeemaaBack
import Derived.Test.YtnlkefdicpeemaaLay
import Derived.Test.YtnlkefdicpeemaaEdges
namespace Go.Proofs.Ytnlkefdicpeemaa
open Go.RowKit

/-- What the last span in which a number is has. -/
def lastV (l : List Sp) (r : Int) : Int := match l.reverse.find? (fun s => inS s r) with | some s => s.h | none => 0
/-- The table up to edge k. -/
def bldTo (l : List Sp) (es : List Int) : Nat → List Sp
  | 0 => []
  | k + 1 => if lastV l (es.getD k 0) = 0 then bldTo l es k else layL (bldTo l es k) ⟨es.getD k 0, es.getD (k + 1) 0 - 1, lastV l (es.getD k 0)⟩

theorem layL_length (l : List Sp) (s : Sp) : (layL l s).length ≤ l.length + 1 := by
  unfold layL
  cases h : l.getLast? with
  | none => simp
  | some p => simp only []; split <;> simp
theorem layL_mem (l : List Sp) (s x : Sp) (h : x ∈ layL l s) : x ∈ l ∨ x.t = s.t := by
  unfold layL at h
  cases hl : l.getLast? with
  | none => rw [hl] at h; simp at h; exact .inr (by rw [h])
  | some p =>
    rw [hl] at h
    simp only [] at h
    split at h
    · rcases List.mem_append.1 h with h | h
      · exact .inl (List.dropLast_subset _ h)
      · simp at h; exact .inr (by rw [h])
    · rcases List.mem_append.1 h with h | h
      · exact .inl h
      · simp at h; exact .inr (by rw [h])
theorem bld_length (l : List Sp) (es : List Int) (k : Nat) : (bldTo l es k).length ≤ k := by
  induction k with
  | zero => simp [bldTo]
  | succ k ih =>
    simp only [bldTo]
    split
    · omega
    · exact Nat.le_trans (layL_length _ _) (by omega)
theorem bld_t (l : List Sp) (es : List Int) (hes : ∀ j, 0 ≤ es.getD j 0 ∧ es.getD j 0 ≤ 1114112) (k : Nat) : ∀ s, s ∈ bldTo l es k → -1 ≤ s.t ∧ s.t ≤ 1114111 := by
  induction k with
  | zero => intro s hs; simp [bldTo] at hs
  | succ k ih =>
    intro s hs
    simp only [bldTo] at hs
    split at hs
    · exact ih s hs
    · rcases layL_mem _ _ _ hs with h | h
      · exact ih s h
      · have := hes (k + 1); rw [h]; dsimp only; omega

/-- Going downwards: the first place in whose span a number is, is the last one. -/
theorem lastV_hit (l : List Sp) (r : Int) (k : Nat) (hk : k < l.length) (hin : inS (l.getD (l.length - 1 - k) sp0) r = true) (hno : ∀ x, x ∈ down l.length k → inS (l.getD x sp0) r = false) : lastV l r = (l.getD (l.length - 1 - k) sp0).h := by
  unfold lastV
  have hsome : l.reverse.find? (fun s => inS s r) = some (l.getD (l.length - 1 - k) sp0) := by
    have hg : ∀ j, j < l.length → l.reverse[j]? = some (l.getD (l.length - 1 - j) sp0) := fun j hj => by
      rw [List.getElem?_reverse hj]
      simp [List.getD, show l.length - 1 - j < l.length by omega]
    rw [List.find?_eq_some_iff_getElem]
    refine ⟨hin, k, by simpa using hk, ?_, fun j hj => ?_⟩
    · have := hg k hk
      rw [List.getElem?_eq_getElem (by simpa using hk)] at this
      exact Option.some.inj this
    · have := hg j (by omega)
      rw [List.getElem?_eq_getElem (by simp; omega)] at this
      rw [Option.some.inj this]
      simp only [Bool.not_eq_true']
      exact hno _ ((down_mem _ _ _).2 ⟨j, hj, rfl⟩)
  rw [hsome]
theorem lastV_miss (l : List Sp) (r : Int) (hno : ∀ x, x ∈ down l.length l.length → inS (l.getD x sp0) r = false) : lastV l r = 0 := by
  unfold lastV
  have hnone : l.reverse.find? (fun s => inS s r) = none := by
    rw [List.find?_eq_none]
    intro s hs
    obtain ⟨k, hk, rfl⟩ := mem_getD l s (List.mem_reverse.1 hs)
    rw [hno k ((down_mem _ _ _).2 ⟨l.length - 1 - k, by omega, by omega⟩)]
    simp
  rw [hnone]

theorem es_bound {l : List Sp} {es : List Int} (hm : ∀ k, k < l.length → mayS (l.getD k sp0) = true) (hmem : ∀ x, x ∈ es ↔ ∃ s, s ∈ l ∧ (x = s.f ∨ x = s.t + 1)) (j : Nat) : 0 ≤ es.getD j 0 ∧ es.getD j 0 ≤ 1114112 := by
  by_cases hj : j < es.length
  · have h1 : es.getD j 0 ∈ es := by simp [List.getD, hj]
    obtain ⟨s, hs, hx⟩ := (hmem _).1 h1
    obtain ⟨k, hk, rfl⟩ := mem_getD l s hs
    have := (mayS_iff _).1 (hm k hk)
    omega
  · simp [List.getD, hj]
theorem next_edge {l : List Sp} {es : List Int} (hpw : es.Pairwise (· < ·)) (hmem : ∀ x, x ∈ es ↔ ∃ s, s ∈ l ∧ (x = s.f ∨ x = s.t + 1)) {k : Nat} (hk : k < es.length) {s : Sp} (hs : s ∈ l) (hin : inS s (es.getD k 0) = true) : k + 1 < es.length := by
  have h1 : s.t + 1 ∈ es := (hmem _).2 ⟨s, hs, .inr rfl⟩
  obtain ⟨j, hj, he⟩ := List.getElem_of_mem h1
  have h2 := (inS_iff _ _).1 hin
  have h3 : es.getD k 0 = es[k] := by simp [List.getD, hk]
  rw [h3] at h2
  rw [List.pairwise_iff_getElem] at hpw
  rcases Nat.lt_trichotomy j k with h | rfl | h
  · have := hpw j k hj hk h; omega
  · omega
  · omega

/-- No defer statement. -/
def isDf (o : Oper) : Bool := match o.op with | .defer _ => true | _ => false
theorem no_df {ops : Array Oper} (h : ops.all (fun o => !isDf o) = true) : ∀ (i : Nat) (o : Oper), ops[i]? = some o → ∀ c, o.op ≠ .defer c := by
  intro i o hi c hc
  have h1 := (Array.all_eq_true'.1 h) o (Array.mem_of_getElem? hi)
  simp [isDf, hc] at h1

/-- The mark of a loop over an iterator among the deferred calls. -/
def mk (D : Nat) : Deferred := { target := .collected D, args := #[] }

theorem leaves_marks {n : Nat} {fn : Func} {tmps : Array Value} {R : Ending → World → Prop} (B : Nat) (C : World → Prop)
    (hC : ∀ W D, C W → B ≤ D → W.heap[D]? = some (.deferred (some [])) → C (W.putObj D (.deferred none)))
    (hR : ∀ W, C W → ∃ v, (results fn tmps).run Try.prog W = .ok v W ∧ R (.returned v) W) :
    ∀ (Ds : List Nat) (W : World), Ds.Nodup → (∀ D, D ∈ Ds → B ≤ D ∧ W.heap[D]? = some (.deferred (some []))) → C W → LeavesInM Fence.wide n Try.prog fn tmps R (Ds.map mk) .returning W
  | [], W, _, _, h => hR W h
  | D :: Ds, W, hn, hd, h => by
    obtain ⟨hD1, hD2⟩ := hd D (by simp)
    refine ⟨by simp, .inl ⟨D, _, rfl, run_takeDeferred hD2, ?_⟩⟩
    refine leaves_marks B C hC hR Ds _ (List.nodup_cons.1 hn).2 (fun D' hD' => ?_) (hC W D h hD1 hD2)
    obtain ⟨h1, h2⟩ := hd D' (by simp [hD'])
    refine ⟨h1, ?_⟩
    have hne : D' ≠ D := fun e => (List.nodup_cons.1 hn).1 (by rw [← e]; exact hD')
    rw [World.putObj_heap_other hne]
    exact h2

/-- The state of Build's loop: the edges' box, the table's box and its row, the marks. -/
structure TS (w0 : World) (n1 B6 B7 ge cape : Nat) (es : List Int) (ss : List Sp) (Ds : List Nat) (W : World) : Prop where
  b6 : Boxed W B6 44 (.slice (some ⟨ge, 0, none⟩) es.length cape)
  b7 : ∃ tv, Boxed W B7 22 tv ∧ Ow n1 tv ss W
  ec : ∀ j, j < es.length → W.cell? ⟨ge, j, none⟩ = some (.int .i32 (es.getD j 0))
  bel : Below w0.heap.size w0 W
  n1l : n1 ≤ W.heap.size
  ms : ∀ D, D ∈ Ds → w0.heap.size ≤ D ∧ W.heap[D]? = some (.deferred (some []))
  nd : Ds.Nodup

theorem TS.kept {w0 : World} {n1 B6 B7 ge cape : Nat} {es : List Int} {ss : List Sp} {Ds : List Nat} {W W' : World} {row : Option Nat} {B : Nat} (h : TS w0 n1 B6 B7 ge cape es ss Ds W) (hg : W.grownBy W' row)
    (hr : ∀ r, row = some r → B ≤ r ∧ ∃ o : Obj, W.heap[r]? = some o ∧ o.isCells = false) (hB : w0.heap.size ≤ B) (hDB : ∀ D, D ∈ Ds → D < B) : TS w0 n1 B6 B7 ge cape es ss Ds W' := by
  have hr2 : ∀ r, row = some r → ∃ o : Obj, W.heap[r]? = some o ∧ o.isCells = false := fun r e => (hr r e).2
  obtain ⟨tv, t1, t2⟩ := h.b7
  refine ⟨boxed_own (β := Unit) B6 44 (fun _ => .slice (some ⟨ge, 0, none⟩) es.length cape) () W W' row h.b6 hg hr2, ⟨tv, boxed_own (β := Unit) B7 22 (fun _ => tv) () W W' row t1 hg hr2, ?_⟩, fun j hj => cell_kept (h.ec j hj) hg hr2,
    h.bel.grown hg (Nat.le_trans h.bel.size (Nat.le_refl _)) (fun k e => Nat.le_trans hB (hr k e).1), Nat.le_trans h.n1l hg.size, fun D hD => ?_, h.nd⟩
  · refine World.ownsRow.kept t2 hg ?_
    rcases t2.2 with ⟨hv, _⟩ | ⟨g, cap, cur, hv, _, hb, _⟩
    · exact .inl (by rw [hv]; rfl)
    · refine .inr (fun e => ?_)
      rw [hv] at e
      obtain ⟨o, ho, hc⟩ := hr2 g e.symm
      rw [hb] at ho
      cases ho
      cases hc
  · obtain ⟨h1, h2⟩ := h.ms D hD
    refine ⟨h1, (hg.block D (Array.getElem?_eq_some_iff.1 h2).1 (fun e => ?_)).trans h2⟩
    have := (hr D e.symm).1
    have := hDB D hD
    omega
theorem TS.gr {w0 : World} {n1 B6 B7 ge cape : Nat} {es : List Int} {ss : List Sp} {Ds : List Nat} {W W' : World} (h : TS w0 n1 B6 B7 ge cape es ss Ds W) (hg : Gr W W') : TS w0 n1 B6 B7 ge cape es ss Ds W' :=
  h.kept (B := W.heap.size) (hg.grown none) (fun r e => by cases e) h.bel.size (fun D hD => (Array.getElem?_eq_some_iff.1 (h.ms D hD).2).1)
/-- A box of three cells. -/
def Box3 (W : World) (B : Nat) (s : Sp) : Prop := W.heap[B]? = some (.cells #[.int .i32 s.f, .int .i32 s.t, .int .i64 s.h] 37 (0, 0))
theorem Box3.cells {W : World} {B : Nat} {s : Sp} (h : Box3 W B s) : W.cell? ⟨B, 0, none⟩ = some (.int .i32 s.f) ∧ W.cell? ⟨B, 1, none⟩ = some (.int .i32 s.t) ∧ W.cell? ⟨B, 2, none⟩ = some (.int .i64 s.h) := by
  unfold Box3 at h
  simp [World.cell?, h]
theorem boxed_gr {W W' : World} {B : Nat} {t : TypeId} {v : Value} (h : Boxed W B t v) (hg : Gr W W') : Boxed W' B t v := (hg.below.block B h.lt).trans h
theorem Kp2.gr {p q : Nat} {W W' : World} (hg : Gr W W') (hp : p < W.heap.size) (hq : q < W.heap.size) : Kp2 p q W W' := ⟨hg.below.block p hp, hg.below.block q hq⟩
theorem KeepsFrom.gr {B : Nat} {W W' : World} (hg : Gr W W') : KeepsFrom B W W' := KeepsFrom.of_grownBy (hg.grown none) (fun j e => by cases e)

/-- Between two rounds over the spans: the loop's state, the place and the edge in their boxes; none of the spans that came holds the edge. -/
def RI (w0 : World) (n1 B6 B7 ge cape : Nat) (es : List Int) (ss : List Sp) (Ds : List Nat) (B8 B9 k Bz : Nat) (tv : Value) (l : List Sp) (pre : List Nat) (W : World) : Prop :=
  (Bz ≤ W.heap.size ∧ Boxed W B7 22 tv ∧ ∀ g, tv.ownBlock = some g → g < Bz) ∧ TS w0 n1 B6 B7 ge cape es ss Ds W ∧ Boxed W B8 3 (.int .i64 (k : Int)) ∧ Boxed W B9 21 (.int .i32 (es.getD k 0)) ∧ ∀ x, x ∈ pre → inS (l.getD x sp0) (es.getD k 0) = false
/-- A round has left: its span holds the edge. -/
def RX (w0 : World) (n1 B6 B7 ge cape : Nat) (es : List Int) (ss : List Sp) (Ds : List Nat) (k : Nat) (l : List Sp) (cd : Code) (pre : List Nat) (W : World) : Prop :=
  cd = .exit 3 ∧ ∃ ini x, pre = ini ++ [x] ∧ (∀ y, y ∈ ini → inS (l.getD y sp0) (es.getD k 0) = false) ∧ inS (l.getD x sp0) (es.getD k 0) = true ∧
    TS w0 n1 B6 B7 ge cape es (if (l.getD x sp0).h = 0 then ss else layL ss ⟨es.getD k 0, es.getD (k + 1) 0 - 1, (l.getD x sp0).h⟩) Ds W
theorem RI.own {w0 : World} {n1 B6 B7 ge cape : Nat} {es : List Int} {ss : List Sp} {Ds : List Nat} {B8 B9 k Bz : Nat} {tv : Value} {l : List Sp} {B : Nat} (hB : w0.heap.size ≤ B) (hDB : ∀ D, D ∈ Ds → D < B) : OwnFrom B (RI w0 n1 B6 B7 ge cape es ss Ds B8 B9 k Bz tv l) := by
  intro pre W W' row h hg hr
  have hr2 : ∀ r, row = some r → ∃ o : Obj, W.heap[r]? = some o ∧ o.isCells = false := fun r e => (hr r e).2
  exact ⟨⟨Nat.le_trans h.1.1 hg.size, boxed_own (β := Unit) B7 22 (fun _ => tv) () W W' row h.1.2.1 hg hr2, h.1.2.2⟩, h.2.1.kept hg hr hB hDB, boxed_own (β := Unit) B8 3 (fun _ => .int .i64 (k : Int)) () W W' row h.2.2.1 hg hr2, boxed_own (β := Unit) B9 21 (fun _ => .int .i32 (es.getD k 0)) () W W' row h.2.2.2.1 hg hr2, h.2.2.2.2⟩
theorem RX.own {w0 : World} {n1 B6 B7 ge cape : Nat} {es : List Int} {ss : List Sp} {Ds : List Nat} {k : Nat} {l : List Sp} {B : Nat} (hB : w0.heap.size ≤ B) (hDB : ∀ D, D ∈ Ds → D < B) (cd : Code) : OwnFrom B (RX w0 n1 B6 B7 ge cape es ss Ds k l cd) := by
  intro pre W W' row h hg hr
  obtain ⟨h1, ini, x, h2, h3, h4, h5⟩ := h
  exact ⟨h1, ini, x, h2, h3, h4, h5.kept hg hr hB hDB⟩
theorem RI.gr {w0 : World} {n1 B6 B7 ge cape : Nat} {es : List Int} {ss : List Sp} {Ds : List Nat} {B8 B9 k Bz : Nat} {tv : Value} {l : List Sp} {pre : List Nat} {W W' : World} (h : RI w0 n1 B6 B7 ge cape es ss Ds B8 B9 k Bz tv l pre W) (hg : Gr W W') : RI w0 n1 B6 B7 ge cape es ss Ds B8 B9 k Bz tv l pre W' :=
  ⟨⟨Nat.le_trans h.1.1 hg.size, boxed_gr h.1.2.1 hg, h.1.2.2⟩, h.2.1.gr hg, boxed_gr h.2.2.1 hg, boxed_gr h.2.2.2.1 hg, h.2.2.2.2⟩
theorem box3_own {B Bx : Nat} {s : Sp} {W W' : World} {row : Option Nat} (h : Box3 W Bx s) (hg : W.grownBy W' row) (hr : ∀ r, row = some r → B ≤ r ∧ ∃ o : Obj, W.heap[r]? = some o ∧ o.isCells = false) : Box3 W' Bx s := by
  refine (hg.block Bx (Array.getElem?_eq_some_iff.1 h).1 (fun e => ?_)).trans h
  obtain ⟨_, o, ho, hc⟩ := hr Bx e.symm
  rw [show W.heap[Bx]? = _ from h] at ho
  cases ho
  cases hc

/-- A span was laid, and the table's box holds the new row. -/
theorem TS.laid {w0 : World} {n1 B6 B7 ge cape : Nat} {es : List Int} {ss ss2 : List Sp} {Ds : List Nat} {W W5 : World} {tv v2 : Value} (h : TS w0 n1 B6 B7 ge cape es ss Ds W) (hb7 : Boxed W B7 22 tv) (hown : Ow n1 tv ss W)
    (hg : W.grownBy W5 tv.ownBlock) (how : Ow n1 v2 ss2 W5) (h6 : B6 < n1) (h7 : B7 < n1) (h67 : B6 ≠ B7) (hge : 0 < es.length → ge < n1 ∧ ge ≠ B7) (hw0 : w0.heap.size ≤ B7) :
    TS w0 n1 B6 B7 ge cape es ss2 Ds (W5.setCell ⟨B7, 0, none⟩ v2) := by
  have hrow : ∀ g, tv.ownBlock = some g → n1 ≤ g := fun g e => (World.ownsRow.lt hown g e).1
  have hfar : ∀ q, q < n1 → some q ≠ tv.ownBlock := fun q hq e => by have := hrow q e.symm; omega
  have hcel : ∀ g, tv.ownBlock = some g → ∃ o : Obj, W.heap[g]? = some o ∧ o.isCells = true := fun g e => by
    rcases hown.2 with ⟨hv, _⟩ | ⟨g2, cap, cur, hv, _, hb, _⟩
    · rw [hv] at e; cases e
    · rw [hv] at e; cases e; exact ⟨_, hb, rfl⟩
  refine ⟨Boxed.other (h.b6.kept hg (hfar B6 h6)) h67 _, ⟨v2, Boxed.set _ (hb7.kept hg (hfar B7 h7)), ownsRow_setCell_below how h7 _⟩, fun j hj => ?_, (h.bel.grown hg h.bel.size (fun g e => ?_)).setCell (p := ⟨B7, 0, none⟩) hw0 _, ?_, fun D hD => ?_, h.nd⟩
  · obtain ⟨g1, g2⟩ := hge (by omega)
    rw [World.cell?_setCell_other _ _ _ _ (by intro he; apply g2; simp at he), hg.cell_far _ (cell_lt (h.ec j hj)) (hfar ge g1)]
    exact h.ec j hj
  · have := hrow g e; omega
  · have h1 := h.n1l
    have h2 := hg.size
    have h3 : W5.heap.size ≤ (W5.setCell ⟨B7, 0, none⟩ v2).heap.size := ((Below.refl 0 W5).setCell (p := ⟨B7, 0, none⟩) (Nat.zero_le _) v2).size
    omega
  · obtain ⟨m1, m2⟩ := h.ms D hD
    refine ⟨m1, ?_⟩
    have hD7 : D ≠ B7 := fun e => by
      rw [e, show W.heap[B7]? = _ from hb7] at m2
      cases m2
    rw [Below.heap_setCell _ _ _ _ hD7, hg.block D (Array.getElem?_eq_some_iff.1 m2).1 (fun e => by
      obtain ⟨o, ho, hc⟩ := hcel D e.symm
      rw [m2] at ho
      cases ho
      cases hc)]
    exact m2
end Go.Proofs.Ytnlkefdicpeemaa
