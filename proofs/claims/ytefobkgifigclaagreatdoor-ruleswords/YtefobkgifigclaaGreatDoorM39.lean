/- The iterator of a line: what it and a round may change; its contract. -/
import Derived.Test.YtefobkgifigclaaGreatDoorM38
import Derived.RangeFuncNested
import Derived.RangeFuncBound
import Derived.RangeFuncCalls
import Derived.RangeFuncLeaves
import Derived.RangeFuncBox
import Derived.Shelf.Abstract
import Derived.Shelf.RegionOpen
import Derived.WalkKit
import Derived.OwnWalkIn
import Derived.TacticsInMore
import Derived.LoopNIn
import Derived.LoopIn
import Derived.Sort.LoopGhostIn
namespace Go.Proofs.YtefobkgifigclaaGreatDoor.S20
set_option maxRecDepth 100000
open Go.RowKit
attribute [local go_sem] Oper.semAt_some

/-- Cells that are no type's; what a round keeps: what is no cells, a type's box, a box of types; a type's box. -/
def plainO : Obj → Bool
  | .cells _ t _ => t != 67
  | _ => false
def keepO : Obj → Bool
  | .cells _ t _ => t == 67 || t == 35
  | _ => true
def attrO : Obj → Bool
  | .cells _ t _ => t == 67
  | _ => false
/-- All of a sort lies as it lay. -/
structure Ke (p : Obj → Bool) (B : Nat) (A C : World) : Prop where
  below : Below B A C
  same : ∀ (b : Nat) (o : Obj), A.heap[b]? = some o → p o = true → C.heap[b]? = some o
abbrev Qr := Ke plainO
abbrev Kr := Ke keepO
abbrev Mr := Ke fun o => !attrO o
abbrev Kc := Ke fun o => o.isCells && keepO o
theorem Ke.mono {p q : Obj → Bool} {B : Nat} {A C : World} (h : Ke p B A C) (hp : ∀ o, q o = true → p o = true) : Ke q B A C := ⟨h.below, fun b o h1 h2 => h.same b o h1 (hp o h2)⟩
theorem Ke.lower {p : Obj → Bool} {B B' : Nat} {A C : World} (h : Ke p B A C) (hB : B' ≤ B) : Ke p B' A C := ⟨h.below.mono hB, h.same⟩
theorem Ke.refl (p : Obj → Bool) (B : Nat) (A : World) : Ke p B A A := ⟨Below.refl _ _, fun _ _ h _ => h⟩
theorem Ke.trans {p : Obj → Bool} {B : Nat} {A C D : World} (h : Ke p B A C) (k : Ke p B C D) : Ke p B A D := ⟨h.below.trans k.below, fun b o h1 h2 => k.same b o (h.same b o h1 h2) h2⟩
theorem Ke.of_below (p : Obj → Bool) {B : Nat} {A C : World} (h : Below A.heap.size A C) (hB : B ≤ A.heap.size) : Ke p B A C := ⟨h.mono hB, fun b _ h1 _ => (h.block b (bt_lt h1)).trans h1⟩
theorem Ke.one (p : Obj → Bool) {B : Nat} {A : World} (o : Obj) (hB : B ≤ A.heap.size) : Ke p B A (A.alloc o) := Ke.of_below p (Below.one A o) hB
theorem Ke.put {p : Obj → Bool} {B L : Nat} {A : World} {o : Obj} (o' : Obj) (hB : B ≤ L) (h : A.heap[L]? = some o) (hp : p o = false) : Ke p B A (A.putObj L o') :=
  ⟨(Below.refl B A).grown (grownBy_putObj' A L o') (by have := bt_lt h; omega) (fun k e => by cases e; omega), fun b q h1 h2 => by
    by_cases e : b = L
    · subst e
      rw [h] at h1
      cases h1
      rw [hp] at h2
      cases h2
    · exact (World.putObj_heap_other e).trans h1⟩
theorem Ke.grown {p : Obj → Bool} {B : Nat} {A C : World} {row : Option Nat} (h : A.grownBy C row) (hA : B ≤ A.heap.size) (hB : ∀ k, row = some k → B ≤ k ∧ ∀ o, A.heap[k]? = some o → p o = false) : Ke p B A C :=
  ⟨(Below.refl B A).grown h hA (fun k e => (hB k e).1), fun b q h1 h2 => by
    refine (h.block b (bt_lt h1) fun e => ?_).trans h1
    rw [(hB b e.symm).2 q h1] at h2
    cases h2⟩
theorem Ke.set {p : Obj → Bool} {B b : Nat} {A : World} {o : Obj} {k : Nat} {u : Value} (hB : B ≤ b) (h : A.heap[b]? = some o) (hp : p o = false) : Ke p B A (A.setCell ⟨b, k, none⟩ u) :=
  ⟨(Below.refl B A).setCell (p := ⟨b, k, none⟩) hB _, fun c q h1 h2 => by
    by_cases e : c = b
    · subst e
      rw [h] at h1
      cases h1
      rw [hp] at h2
      cases h2
    · exact (heap_setCell_other A ⟨b, k, none⟩ c u e).trans h1⟩
theorem mr_put {B b : Nat} {A : World} {x : Ty} (hB : B ≤ b) (h : Bt b x A) (y : Ty) : Mr B A (putT A b y) := by
  have h1 := heap_setCell_same A b 0 _ _ (.string y.nam) h
  have h2 := heap_setCell_same _ b 1 _ _ (.string y.abv) h1
  have h3 := heap_setCell_same _ b 2 _ _ (.int .i64 y.syn) h2
  have h4 := heap_setCell_same _ b 3 _ _ (.int .i64 y.rul) h3
  have h5 := heap_setCell_same _ b 4 _ _ (.bool y.sgl) h4
  exact (((((Ke.set hB h rfl).trans (Ke.set hB h1 rfl)).trans (Ke.set hB h2 rfl)).trans (Ke.set hB h3 rfl)).trans (Ke.set hB h4 rfl)).trans (Ke.set hB h5 rfl)
theorem Kc.bt {B b : Nat} {x : Ty} {A C : World} (h : Bt b x A) (k : Kc B A C) : Bt b x C := k.same _ _ h rfl
theorem Kc.box {B b : Nat} {v : Value} {A C : World} (h : Boxed A b 35 v) (k : Kc B A C) : Boxed C b 35 v := k.same _ _ h rfl
theorem Mr.box {B b : Nat} {v : Value} {A C : World} (h : Boxed A b 35 v) (k : Mr B A C) : Boxed C b 35 v := k.same _ _ h rfl

set_option maxRecDepth 100000 in
set_option maxHeartbeats 3200000 in
/-- The iterator: it hands on the types of the line, one by one, until there is none, or a round says no more. -/
theorem up_in (n L bl bn n₀ M : Nat) (h1 : 1 ≤ n) (v : Value) (l : List Ty) (nm : ByteArray) (J Jx : List Ty → World → Prop) (W : World)
    (hbl : Boxed W bl 35 v) (hbn : W.cell? ⟨bn, 0, none⟩ = some (.string nm)) (hn₀ : n₀ ≤ W.heap.size) (hV : ∀ W', Below n₀ W W' → TysV W' v l)
    (hJ : ∀ s A C, J s A → Mr W.heap.size A C → J s C)
    (hY : ∀ pre x W1, J pre W1 → wlk l (fndT l nm) pre (some x) → YieldAt Fence.wide (n - 1) Tryz.prog L #[aggV x] W1 fun e W' =>
      (e = .returned (.bool true) ∧ J (pre ++ [x]) W' ∧ Kc n₀ W1 W') ∨ (e = .returned (.bool false) ∧ Jx (pre ++ [x]) W'))
    (hM : ∀ pre x W1, J pre W1 → wlk l (fndT l nm) pre (some x) → pre.length ≤ M) (h0 : J [] W) :
    CallsIn Fence.wide n Tryz.prog 168 #[.func (.yield L) #[] #[], .pointer (some ⟨bl, 0, none⟩), .pointer (some ⟨bn, 0, none⟩)] W fun e W' => (∃ u, e = .returned u) ∧
      ((∃ xs, wlk l (fndT l nm) xs none ∧ J xs W') ∨ (∃ pre o, wlk l (fndT l nm) pre o ∧ Jx pre W')) := by
  have CF := hide (fun n2 W' (h : Below n₀ W W') => find_any v l n2 W' (hV W' h))
  obtain ⟨va, vc, rfl⟩ := (hV W (Below.refl _ _)).shape
  have cl := hbl.cell
  have HBL := hide hbl
  have HJ := hide hJ
  have HY := hide hY
  have HM := hide hM
  have H0 := hide h0
  clear hV hJ hY hM h0 hbl
  refine callsIn_of_wp Tryz.func168 rfl trivial ?_ rfl
  simp only [Tryz.ntmps168, List.size_toArray, List.length_cons, List.length_nil, Nat.reduceAdd, Nat.reduceSub, Array.replicate_succ, Array.replicate_zero, List.push_toArray, List.append_toArray, List.nil_append, List.cons_append]
  have C0 := hide (unhide CF nm W (Below.refl _ _))
  have HY0 : Hid (fnA l nm = (fndT l nm).getD ty0 ∧ fnB l nm = (fndT l nm).isSome) := ⟨rfl, rfl⟩
  unfold aggV at C0
  generalize fnA l nm = y0 at *
  generalize fnB l nm = z0 at *
  gi_wp2_with (refine ⟨trivial, ?_⟩; gi_at_call 129; refine (callsIn_wide.2 (unhide C0)).mono ?_; rintro e w2 ⟨rfl, b2⟩)
  have k2 : Mr W.heap.size W (w2.alloc (.cells #[.string y0.nam, .string y0.abv, .int .i64 y0.syn, .int .i64 y0.rul, .bool y0.sgl, .bool y0.cls] 67)) := (Ke.of_below _ b2 (Nat.le_refl _)).trans (Ke.one _ _ b2.size)
  have HK2 := hide k2
  have hsz2 := b2.size
  clear k2 C0
  gi_loopg [5] (M + 2) (fun g vok wr => ∃ (pre : List Ty) (o : Option Ty), Hid (wlk l (fndT l nm) pre o) ∧ vok = .bool o.isSome ∧ g + pre.length = M + 2 ∧ Hid (J pre wr) ∧ Hid (Bt w2.heap.size (o.getD ty0) wr) ∧ Hid (Boxed wr bl 35 (.slice va l.length vc)) ∧ Below n₀ W wr)
  case atStart => exact ⟨[], fndT l nm, rfl, by rw [(unhide HY0).2], by simp, unhide HJ _ _ _ (unhide H0) (unhide HK2), by rw [← (unhide HY0).1]; exact heap_new w2 _, Mr.box (unhide HBL) (unhide HK2), (unhide HK2).below.mono hn₀⟩
  case round =>
    obtain ⟨pre, o, HW, rfl, hg, HJ1, HB, HL, hb⟩ := hrel
    clear HK2 HY0 H0 HBL
    cases o with
    | none =>
      clear HB
      simp only [Option.isSome_none]
      gi_wp2
      refine ⟨fun _ h => (by cases h), ?_⟩
      gi_wp2
      go_end0
      exact ⟨⟨_, rfl⟩, .inl ⟨pre, unhide HW, unhide HJ1⟩⟩
    | some x =>
      simp only [Option.isSome_some, Option.getD_some] at HB ⊢
      obtain ⟨c0, c1, c2, c3, c4, c5⟩ := (unhide HB).cells
      simp only [Nat.zero_add] at c1 c2 c3 c4 c5
      have hm := unhide HM pre x wr (unhide HJ1) (unhide HW)
      obtain ⟨fn, tmps, assign, body, hy, hR⟩ := unhide HY pre x wr (unhide HJ1) (unhide HW)
      unfold aggV at hy
      have HR := hide hR
      clear hR
      gi_wp2
      refine (unhide HR).mono ?_
      clear HR hy
      rintro e W3 (⟨rfl, hJ3, hk3⟩ | ⟨rfl, hJx3⟩)
      · have HJ3 := hide hJ3
        have HB3 := hide (Kc.bt (unhide HB) hk3)
        have HL3 := hide (Kc.box (unhide HL) hk3)
        have hb3 := hb.trans hk3.below
        have e1 := (unhide HB3).cells.2.1
        simp only [Nat.zero_add] at e1
        have el := (unhide HL3).cell
        have C3 := hide (unhide CF x.abv W3 hb3)
        have HW3 := hide (wlk_snoc (unhide HW))
        have HY3 : Hid (fnA l x.abv = (fndT l x.abv).getD ty0 ∧ fnB l x.abv = (fndT l x.abv).isSome) := ⟨rfl, rfl⟩
        unfold aggV at C3
        generalize fnA l x.abv = y at *
        generalize fnB l x.abv = z at *
        clear hk3 hJ3 c0 c1 c2 c3 c4 c5 HB HL HJ1 HW CF
        gi_wp2_with (refine ⟨trivial, ?_⟩; gi_at_call 129; refine (callsIn_wide.2 (unhide C3)).mono ?_; rintro e w4 ⟨rfl, b4⟩; have B4 := hide ((unhide HB3).keep b4); obtain ⟨d0, d1, d2, d3, d4, d5⟩ := (unhide B4).cells; simp only [Nat.zero_add] at d1 d2 d3 d4 d5; have f0 := (unhide B4).free 0; have f1 := (unhide B4).free 1; have f2 := (unhide B4).free 2; have f3 := (unhide B4).free 3; have f4 := (unhide B4).free 4; have f5 := (unhide B4).free 5)
        have k4 : Mr W.heap.size W3 (putT w4 w2.heap.size y) := (Ke.of_below _ b4 (Nat.le_trans hsz2 (Nat.le_of_lt (bt_lt (unhide HB3))))).trans (mr_put hsz2 (unhide B4) y)
        go_roundg (gk - 1)
        case measure => omega
        case rel => exact ⟨pre ++ [x], fndT l x.abv, unhide HW3, by rw [(unhide HY3).2], by rw [List.length_append]; simp; omega, unhide HJ _ _ _ (unhide HJ3) k4, by rw [← (unhide HY3).1]; exact (unhide B4).put y, Mr.box (unhide HL3) k4, hb3.trans (k4.below.mono hn₀)⟩
      · gi_wp2
        go_end0
        exact ⟨⟨_, rfl⟩, .inr ⟨_, _, wlk_snoc (unhide HW), hJx3⟩⟩
end Go.Proofs.YtefobkgifigclaaGreatDoor.S20
/- A range over a line: one law for its callers. The line may go on for ever: that the rounds end is the caller's word (hM). -/
namespace Go.Proofs.YtefobkgifigclaaGreatDoor.S20
set_option maxRecDepth 100000
open Go.RowKit

/-- How a round may be left: off its end, or by a return. -/
def upPost (n₀ : Nat) (I Ix : List Ty → World → Prop) (s : List Ty) (W : World) : Exit → Act → World → Prop
  | .normal, _, W' => Kr n₀ W W' ∧ I s W'
  | .ret, _, W' => Kr n₀ W W' ∧ Ix s W'
  | _, _, _ => False
theorem qr_mr {B : Nat} {A C : World} (h : Mr B A C) : Qr B A C := h.mono fun o ho => by
  cases o <;> simp [plainO, attrO] at ho ⊢
  exact ho
theorem kc_kr {B : Nat} {A C : World} (h : Kr B A C) : Kc B A C := h.mono fun o ho => by
  rw [Bool.and_eq_true] at ho
  exact ho.2
theorem box_at {W : World} {B : Nat} {t : TypeId} {v : Value} (hB : B = W.heap.size) : Boxed (W.alloc (.cells #[v] t)) B t v := by rw [hB]; exact Boxed.new W t v
set_option maxHeartbeats 1600000 in
theorem wpIn_up {g : Operand} {ps : Array Tmp} {assign body : Code} {Q : Exit → Act → World → Prop} {a : Act} {w : World} (n bl bn n₀ M : Nat) (h3 : 3 ≤ n) (v : Value) (l : List Ty) (nm : ByteArray)
    (hg : a.eval g = .func (.func 168) #[] #[.pointer (some ⟨bl, 0, none⟩), .pointer (some ⟨bn, 0, none⟩)]) (hps : ps.size = 1)
    (hbl : Boxed w bl 35 v) (hbn : w.cell? ⟨bn, 0, none⟩ = some (.string nm)) (hn₀ : n₀ ≤ w.heap.size) (hV : ∀ W', Below n₀ w W' → TysV W' v l)
    (I Ix : List Ty → World → Prop) (hI : ∀ s A C, I s A → Qr w.heap.size A C → I s C) (hIx : ∀ s A C, Ix s A → Qr w.heap.size A C → Ix s C) (h0 : I [] w)
    (t₁ : Ty → Array Value) (ht : ∀ x, (ps.zip #[aggV x]).foldl (fun t (p, v) => t.setIfInBounds p v) a.tmps = t₁ x)
    (hM : ∀ pre x W, I pre W → wlk l (fndT l nm) pre (some x) → pre.length ≤ M)
    (hround : ∀ (L : Nat) (pre : List Ty) (x : Ty) (W : World), w.heap.size ≤ L → L < W.heap.size → I pre W → wlk l (fndT l nm) pre (some x) →
      assign.wpIn (Fence.wide.inRound L) (n - 1 - 1) Tryz.prog (Exit.then (fun a₁ W₁ => Kr n₀ W W₁ ∧ ∀ r r', W₁.heap[L]? = some (.loop r) → body.wpIn (Fence.wide.inRound L) (n - 1 - 1) Tryz.prog (upPost n₀ I Ix (pre ++ [x]) (W₁.putObj L (.loop r'))) a₁ (W₁.putObj L (.loop r'))) (fun _ _ _ => False))
        { tmps := t₁ x, defers := [] } W)
    (hdone : ∀ (D : Nat) (xs : List Ty) (W : World), w.heap.size ≤ D → wlk l (fndT l nm) xs none → I xs W → W.heap[D]? = some (.deferred (some [])) → Q .normal { a with defers := { target := .collected D, args := #[] } :: a.defers } W)
    (hstop : ∀ (D : Nat) (pre : List Ty) (o : Option Ty) (W : World), w.heap.size ≤ D → wlk l (fndT l nm) pre o → Ix pre W → W.heap[D]? = some (.deferred (some [])) → Code.ret.wpIn Fence.wide n Tryz.prog Q { a with defers := { target := .collected D, args := #[] } :: a.defers } W) :
    (Code.rangeFunc g ps assign body).wpIn Fence.wide n Tryz.prog Q a w := by
  refine wpIn_rangeFunc fun fn hfn => ?_
  rw [show Fence.wide.round = none from rfl]
  -- the loop's record, by its state and what is pending
  obtain ⟨rc, hrc⟩ : ∃ rc : LoopState → Option Code → Loop, rc = fun st pe => { state := st, pending := pe, fn, tmps := a.tmps, params := ps, assign, body, defers := w.heap.size } := ⟨_, rfl⟩
  obtain ⟨W1, hW1⟩ : ∃ W1, (w.alloc (.deferred (some []))).alloc (.loop (rc .ready none)) = W1 := ⟨_, rfl⟩
  have b1 : Below w.heap.size w W1 := by rw [← hW1]; exact ((Below.refl _ w).alloc (Nat.le_refl _) _).alloc (by simp) _
  have s1 : W1.heap.size = w.heap.size + 2 := by rw [← hW1]; simp
  have hL1 : W1.heap[w.heap.size + 1]? = some (.loop (rc .ready none)) := by
    have := heap_new (w.alloc (.deferred (some []))) (.loop (rc .ready none))
    rw [World.size_alloc] at this
    rw [← hW1]
    exact this
  have hD1 : W1.heap[w.heap.size]? = some (.deferred (some [])) := by
    have k := (Below.one (w.alloc (.deferred (some []))) (.loop (rc .ready none))).block w.heap.size (by simp)
    rw [← hW1]
    exact k.trans (heap_new w _)
  refine ⟨w.heap.size + 1, [{ target := .collected w.heap.size, args := #[] }], W1, { target := .fn (.func 168) #[.pointer (some ⟨bl, 0, none⟩), .pointer (some ⟨bn, 0, none⟩)], args := #[.func (.yield (w.heap.size + 1)) #[] #[]] }, W1, 168,
    #[.func (.yield (w.heap.size + 1)) #[] #[], .pointer (some ⟨bl, 0, none⟩), .pointer (some ⟨bn, 0, none⟩)], W1, ?_, ?_, fun _ _ => trivial, ?_, fun _ => by omega, ?_⟩
  · rw [← hW1, hrc]; exact run_enterLoop_outer _ _ _ _ _
  · simp only [resolve, hg]
    simp [go_sem]
  · have eg : ∀ args w, (callFunc 168 args).run Tryz.prog w = .ok (.enter 168 args) w := enters_of Tryz.func168 (by kernel_rfl) rfl
    simp [invoke, go_sem, eg]
  refine (up_in (n - 1) (w.heap.size + 1) bl bn n₀ M (by omega) v l nm
    (fun pre W => I pre W ∧ W.heap[w.heap.size + 1]? = some (.loop (rc .ready none)) ∧ W.heap[w.heap.size]? = some (.deferred (some [])))
    (fun pre W => Ix pre W ∧ W.heap[w.heap.size + 1]? = some (.loop (rc .done (some .ret))) ∧ W.heap[w.heap.size]? = some (.deferred (some [])))
    W1 ((b1.block _ hbl.lt).trans hbl) ((b1.cell (cell_lt hbn)).trans hbn) (by omega) (fun W' h => hV W' ((b1.mono hn₀).trans h))
    (fun s A C h k => ⟨hI s A C h.1 ((qr_mr k).lower (by omega)), k.same _ _ h.2.1 rfl, k.same _ _ h.2.2 rfl⟩)
    ?_ (fun pre x W h hw => hM pre x W h.1 hw) ⟨hI _ _ _ h0 (Ke.of_below _ b1 (Nat.le_refl _)), hL1, hD1⟩).mono ?_
  · rintro pre x W ⟨hi, hl, hd⟩ hw
    have hy := run_yield (P := Tryz.prog) (args := #[aggV x]) hl (by rw [hrc]; exact hps.symm)
    rw [hrc] at hy
    refine ⟨fn, _, assign, body, hy, roundIn_of_wpIn hfn ?_⟩
    clear hy
    dsimp only
    rw [ht]
    refine wpIn_mono (hround (w.heap.size + 1) pre x W (by omega) (bt_lt hl) hi hw) ?_
    intro e a₁ W₁ h
    cases e with
    | normal =>
      obtain ⟨k1, hb⟩ := h
      have hl1 := k1.same _ _ hl rfl
      have hd1 := k1.same _ _ hd rfl
      refine ⟨_, run_beginRound hl1 (by rw [hrc]), ?_⟩
      have hl2 : (W₁.putObj (w.heap.size + 1) (.loop { rc .ready none with state := .busy })).heap[w.heap.size + 1]? = some (.loop { rc .ready none with state := .busy }) := World.putObj_heap_same (bt_lt hl1)
      have hd2 : (W₁.putObj (w.heap.size + 1) (.loop { rc .ready none with state := .busy })).heap[w.heap.size]? = some (.deferred (some [])) := (World.putObj_heap_other (by omega)).trans hd1
      refine wpIn_mono (hb _ { rc .ready none with state := .busy } hl1) ?_
      have k2 : Kc n₀ W₁ (W₁.putObj (w.heap.size + 1) (.loop { rc .ready none with state := .busy })) := Ke.put _ (by omega) hl1 rfl
      generalize W₁.putObj (w.heap.size + 1) (.loop { rc .ready none with state := .busy }) = W₂ at *
      intro e a3 W3 h
      cases e with
      | normal =>
        obtain ⟨k3, hi3⟩ := h
        have hl3 := k3.same _ _ hl2 rfl
        have hd3 := k3.same _ _ hd2 rfl
        have hr := run_endRound (P := Tryz.prog) none hl3
        refine ⟨_, _, hr, .inl ⟨rfl, ⟨hI _ _ _ hi3 (Ke.put _ (by omega) hl3 rfl), ?_, (World.putObj_heap_other (by omega)).trans hd3⟩, (((kc_kr k1).trans k2).trans (kc_kr k3)).trans (Ke.put _ (by omega) hl3 rfl)⟩⟩
        rw [World.putObj_heap_same (bt_lt hl3), hrc]
        rfl
      | ret =>
        obtain ⟨k3, hi3⟩ := h
        have hl3 := k3.same _ _ hl2 rfl
        have hd3 := k3.same _ _ hd2 rfl
        have hr := run_endRound (P := Tryz.prog) (some .ret) hl3
        refine ⟨_, _, hr, .inr ⟨rfl, hIx _ _ _ hi3 (Ke.put _ (by omega) hl3 rfl), ?_, (World.putObj_heap_other (by omega)).trans hd3⟩⟩
        rw [World.putObj_heap_same (bt_lt hl3), hrc]
        rfl
      | _ => exact h.elim
    | _ => exact h.elim
  · rintro e W2 ⟨⟨u, rfl⟩, ⟨xs, hw, hi, hl, hd⟩ | ⟨pre, o, hw, hi, hl, hd⟩⟩
    · exact ⟨none, _, by have := run_endLoop (P := Tryz.prog) hl (by rw [hrc]; simp); rw [hrc] at this; exact this, hdone _ xs _ (Nat.le_refl _) hw (hI _ _ _ hi (Ke.put _ (by omega) hl rfl)) ((World.putObj_heap_other (by omega)).trans hd)⟩
    · exact ⟨some .ret, _, by have := run_endLoop (P := Tryz.prog) hl (by rw [hrc]; simp); rw [hrc] at this; exact this, hstop _ pre o _ (Nat.le_refl _) hw (hIx _ _ _ hi (Ke.put _ (by omega) hl rfl)) ((World.putObj_heap_other (by omega)).trans hd)⟩
end Go.Proofs.YtefobkgifigclaaGreatDoor.S20
/- The landed endless: does a line go on for longer than there are types? -/
namespace Go.Proofs.YtefobkgifigclaaGreatDoor.S20
set_option maxRecDepth 100000
open Go.RowKit
attribute [local go_sem] Oper.semAt_some

set_option maxHeartbeats 800000 in
theorem mkline_any (a : Option Addr) (k c : Nat) (n : ByteArray) (w : World) : Calls Tryz.prog 130 #[.slice a k c, .string n] w fun e w' => e = .returned (.func (.func 168) #[] #[.pointer (some ⟨w.heap.size, 0, none⟩), .pointer (some ⟨w.heap.size + 1, 0, none⟩)]) ∧ w' = (w.alloc (.cells #[.slice a k c] 35)).alloc (.cells #[.string n] 9) := by
  go_enter Tryz.func130, Tryz.ntmps130
  go_wp2
  go_ret
  exact ⟨rfl, rfl⟩
set_option maxRecDepth 100000 in
set_option maxHeartbeats 3200000 in
theorem endless_any (v : Value) (l : List Ty) (n : ByteArray) (w : World) (hV : TysV w v l) : Calls Tryz.prog 93 #[v, .string n] w fun e w' =>
    ∃ z, e = .returned (.bool z) ∧ (z = true → ∃ pre o, wlk l (fndT l n) pre o ∧ pre.length = l.length + 1) ∧ (z = false → ∃ xs, xs.length ≤ l.length ∧ wlk l (fndT l n) xs none) ∧ Below w.heap.size w w' := by
  have hn2 : (l.length : Int) ≤ 9223372036854775807 := by obtain ⟨_, _, _, h, _⟩ := hV; omega
  have HV := hide hV
  obtain ⟨va, vc, rfl⟩ := hV.shape
  clear hV
  refine (callsIn_wide (n := 4)).1 ?_
  refine callsIn_of_wp_marks Tryz.func93 rfl trivial ?_ rfl
  simp only [Tryz.ntmps93, List.size_toArray, List.length_cons, List.length_nil, Nat.reduceAdd, Nat.reduceSub, Array.replicate_succ, Array.replicate_zero, List.push_toArray, List.append_toArray, List.nil_append, List.cons_append]
  gi_wp2_with (refine ⟨trivial, ?_⟩; gi_at_call 130; refine (callsIn_wide.2 (mkline_any _ _ _ _ _)).mono ?_; rintro e w2 ⟨rfl, rfl⟩)
  obtain ⟨W0, hW0⟩ : ∃ W0, (((((w.alloc (.cells #[.slice va l.length vc] 35)).alloc (.cells #[.bool false] 4)).alloc (.cells #[.int .i64 0] 3)).alloc (.cells #[.slice va l.length vc] 35)).alloc (.cells #[.string n] 9)) = W0 := ⟨_, rfl⟩
  rw [hW0]
  have s0 : W0.heap.size = w.heap.size + 5 := by rw [← hW0]; simp
  have B0 : Below w.heap.size w W0 := by rw [← hW0]; exact (((((Below.refl _ w).alloc (by simp) _).alloc (by simp) _).alloc (by simp; omega) _).alloc (by simp; omega) _).alloc (by simp; omega) _
  have x0 : Boxed W0 w.heap.size 35 (.slice va l.length vc) := by rw [← hW0]; exact (((((Boxed.new _ _ _).alloc _).alloc _).alloc _).alloc _)
  have x1 : Boxed W0 (w.heap.size + 1) 4 (.bool false) := by rw [← hW0]; exact ((((box_at (by simp)).alloc _).alloc _).alloc _)
  have x2 : Boxed W0 (w.heap.size + 1 + 1) 3 (.int .i64 0) := by rw [← hW0]; exact (((box_at (by simp)).alloc _).alloc _)
  have x3 : Boxed W0 (w.heap.size + 1 + 1 + 1) 35 (.slice va l.length vc) := by rw [← hW0]; exact ((box_at (by simp)).alloc _)
  have x4 : Boxed W0 (w.heap.size + 1 + 1 + 1 + 1) 9 (.string n) := by rw [← hW0]; exact (box_at (by simp))
  clear hW0
  have hI : ∀ (s : List Ty) (A C : World), (s.length ≤ l.length ∧ Boxed A w.heap.size 35 (.slice va l.length vc) ∧ Boxed A (w.heap.size + 1) 4 (.bool false) ∧ Boxed A (w.heap.size + 1 + 1) 3 (.int .i64 (s.length : Int)) ∧ Below w.heap.size w A) → Qr W0.heap.size A C →
      (s.length ≤ l.length ∧ Boxed C w.heap.size 35 (.slice va l.length vc) ∧ Boxed C (w.heap.size + 1) 4 (.bool false) ∧ Boxed C (w.heap.size + 1 + 1) 3 (.int .i64 (s.length : Int)) ∧ Below w.heap.size w C) := fun s A C ⟨h1, h2, h3, h4, h5⟩ k => ⟨h1, k.same _ _ h2 rfl, k.same _ _ h3 rfl, k.same _ _ h4 rfl, h5.trans (k.below.mono (by omega))⟩
  refine wpIn_up 4 (w.heap.size + 1 + 1 + 1) (w.heap.size + 1 + 1 + 1 + 1) w.heap.size l.length (by omega) (.slice va l.length vc) l n rfl rfl x3 x4.cell (by omega) (fun W' h => (unhide HV).below (B0.trans h))
    (fun s A => s.length ≤ l.length ∧ Boxed A w.heap.size 35 (.slice va l.length vc) ∧ Boxed A (w.heap.size + 1) 4 (.bool false) ∧ Boxed A (w.heap.size + 1 + 1) 3 (.int .i64 (s.length : Int)) ∧ Below w.heap.size w A)
    (fun s A => s.length = l.length + 1 ∧ Boxed A (w.heap.size + 1) 4 (.bool true) ∧ Below w.heap.size w A)
    hI (fun s A C ⟨h1, h2, h3⟩ k => ⟨h1, k.same _ _ h2 rfl, h3.trans (k.below.mono (by omega))⟩)
    ⟨by simp, x0, x1, x2, B0⟩
    (fun x => #[.slice va l.length vc, .string n, .pointer (some ⟨w.heap.size, 0, none⟩), undef, .pointer (some ⟨w.heap.size + 1, 0, none⟩), .pointer (some ⟨w.heap.size + 1 + 1, 0, none⟩), .slice va l.length vc, .string n, .func (.func 168) #[] #[.pointer (some ⟨w.heap.size + 1 + 1 + 1, 0, none⟩), .pointer (some ⟨w.heap.size + 1 + 1 + 1 + 1, 0, none⟩)], aggV x, undef, undef, undef, undef, undef, undef]) (fun _ => by simp)
    (fun pre x W h _ => h.1) ?round ?done ?stop
  case round =>
    intro L pre x W hL hLW hi hw
    gi_wp2
    refine ⟨Ke.refl _ _ _, fun r r' hr => ?_⟩
    have hi2 := hI _ _ _ hi (Ke.put (.loop r') (by omega) hr rfl)
    generalize W.putObj L (.loop r') = W2 at *
    obtain ⟨h1, y0, y1, y2, hb⟩ := hi2
    have c0 := y0.cell
    have c1 := y1.cell
    have c2 := y2.cell
    have f1 := y1.frozen
    have f2 := y2.frozen
    have hlen : (pre ++ [x]).length = pre.length + 1 := by simp
    by_cases hq : pre.length = l.length
    · have hz : ((pre.length : Int) == (l.length : Int)) = true := by rw [hq]; simp
      clear hi
      gi_wp2
      exact ⟨Ke.set (by omega) y1 rfl, by rw [hlen, hq], y1.set _, hb.setCell (p := ⟨w.heap.size + 1, 0, none⟩) (by simp) _⟩
    · have hz : ((pre.length : Int) == (l.length : Int)) = false := by rw [beq_eq_false_iff_ne]; omega
      clear hi
      gi_wp2
      refine ⟨Ke.set (by omega) y2 rfl, by rw [hlen]; omega, y0.other (by omega) _, y1.other (by omega) _, ?_, hb.setCell (p := ⟨w.heap.size + 1 + 1, 0, none⟩) (by simp; omega) _⟩
      rw [hlen]
      exact y2.set _
  case done =>
    rintro D xs W hD hw ⟨h1, _, y1, _, hb⟩ hK
    have c1 := y1.cell
    have f1 := y1.frozen
    gi_wp2
    have hK' := (KeepsOthers.setCell W ⟨w.heap.size + 1, 0, none⟩ (.bool false)).same D _ hK rfl
    refine ⟨by simp, .inl ⟨_, _, rfl, run_takeDeferred hK', ?_⟩⟩
    have hc5 := cell_kept ((y1.set (.bool false)).cell) (grownBy_putObj' _ D (.deferred none)) (fun r e => by cases e; exact ⟨_, hK', rfl⟩)
    refine ⟨.bool false, ?_, false, rfl, fun h => (by cases h), fun _ => ⟨xs, h1, hw⟩, (hb.setCell (p := ⟨w.heap.size + 1, 0, none⟩) (by simp) _).trans (belowK_b (w := w) (Nat.le_refl _) _ D _ _ (by omega) hK' rfl rfl)⟩
    simp [results, Tryz.f93, go_sem, hc5]
  case stop =>
    rintro D pre o W hD hw ⟨h1, y1, hb⟩ hK
    gi_wp2
    refine ⟨by simp, .inl ⟨_, _, rfl, run_takeDeferred hK, ?_⟩⟩
    have hc5 := cell_kept y1.cell (grownBy_putObj' _ D (.deferred none)) (fun r e => by cases e; exact ⟨_, hK, rfl⟩)
    refine ⟨.bool true, ?_, true, rfl, fun _ => ⟨pre, o, hw, h1⟩, fun h => (by cases h), hb.trans (belowK_b (w := w) (Nat.le_refl _) W D _ _ (by omega) hK rfl rfl)⟩
    simp [results, Tryz.f93, go_sem, hc5]
end Go.Proofs.YtefobkgifigclaaGreatDoor.S20
