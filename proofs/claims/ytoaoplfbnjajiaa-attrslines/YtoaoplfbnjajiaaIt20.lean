/- The iterator of a line: what it and a round may change; its contract. -/
import Derived.Test.YtoaoplfbnjajiaaCt20
import Derived.RangeFuncNested
import Derived.RangeFuncBound
import Derived.RangeFuncCalls
import Derived.RangeFuncLeaves
import Derived.RangeFuncBox
import Derived.Shelf.Abstract
import Derived.Shelf.RegionOpen
import Derived.WalkKit
import Derived.OwnWalkIn
import Derived.TacticsInMore
import Derived.LoopNIn
import Derived.LoopIn
import Derived.Sort.LoopGhostIn
namespace Go.Proofs.Ytoaoplfbnjajiaa
open Go.RowKit
attribute [local go_sem] Oper.semAt_some

/-- Cells that are no type's; what a round keeps: what is no cells, a type's box, a box of types; a type's box. -/
def plainO : Obj → Bool
  | .cells _ t _ => t != 26
  | _ => false
def keepO : Obj → Bool
  | .cells _ t _ => t == 26 || t == 22
  | _ => true
def attrO : Obj → Bool
  | .cells _ t _ => t == 26
  | _ => false
/-- All of a sort lies as it lay. -/
structure Ke (p : Obj → Bool) (B : Nat) (A C : World) : Prop where
  below : Below B A C
  same : ∀ (b : Nat) (o : Obj), A.heap[b]? = some o → p o = true → C.heap[b]? = some o
abbrev Qr := Ke plainO
abbrev Kr := Ke keepO
abbrev Mr := Ke fun o => !attrO o
abbrev Kc := Ke fun o => o.isCells && keepO o
theorem Ke.mono {p q : Obj → Bool} {B : Nat} {A C : World} (h : Ke p B A C) (hp : ∀ o, q o = true → p o = true) : Ke q B A C := ⟨h.below, fun b o h1 h2 => h.same b o h1 (hp o h2)⟩
theorem Ke.lower {p : Obj → Bool} {B B' : Nat} {A C : World} (h : Ke p B A C) (hB : B' ≤ B) : Ke p B' A C := ⟨h.below.mono hB, h.same⟩
theorem Ke.refl (p : Obj → Bool) (B : Nat) (A : World) : Ke p B A A := ⟨Below.refl _ _, fun _ _ h _ => h⟩
theorem Ke.trans {p : Obj → Bool} {B : Nat} {A C D : World} (h : Ke p B A C) (k : Ke p B C D) : Ke p B A D := ⟨h.below.trans k.below, fun b o h1 h2 => k.same b o (h.same b o h1 h2) h2⟩
theorem Ke.of_below (p : Obj → Bool) {B : Nat} {A C : World} (h : Below A.heap.size A C) (hB : B ≤ A.heap.size) : Ke p B A C := ⟨h.mono hB, fun b _ h1 _ => (h.block b (bt_lt h1)).trans h1⟩
theorem Ke.one (p : Obj → Bool) {B : Nat} {A : World} (o : Obj) (hB : B ≤ A.heap.size) : Ke p B A (A.alloc o) := Ke.of_below p (Below.one A o) hB
theorem Ke.put {p : Obj → Bool} {B L : Nat} {A : World} {o : Obj} (o' : Obj) (hB : B ≤ L) (h : A.heap[L]? = some o) (hp : p o = false) : Ke p B A (A.putObj L o') :=
  ⟨(Below.refl B A).grown (grownBy_putObj' A L o') (by have := bt_lt h; omega) (fun k e => by cases e; omega), fun b q h1 h2 => by
    by_cases e : b = L
    · subst e
      rw [h] at h1
      cases h1
      rw [hp] at h2
      cases h2
    · exact (World.putObj_heap_other e).trans h1⟩
theorem Ke.grown {p : Obj → Bool} {B : Nat} {A C : World} {row : Option Nat} (h : A.grownBy C row) (hA : B ≤ A.heap.size) (hB : ∀ k, row = some k → B ≤ k ∧ ∀ o, A.heap[k]? = some o → p o = false) : Ke p B A C :=
  ⟨(Below.refl B A).grown h hA (fun k e => (hB k e).1), fun b q h1 h2 => by
    refine (h.block b (bt_lt h1) fun e => ?_).trans h1
    rw [(hB b e.symm).2 q h1] at h2
    cases h2⟩
theorem Ke.set {p : Obj → Bool} {B b : Nat} {A : World} {o : Obj} {k : Nat} {u : Value} (hB : B ≤ b) (h : A.heap[b]? = some o) (hp : p o = false) : Ke p B A (A.setCell ⟨b, k, none⟩ u) :=
  ⟨(Below.refl B A).setCell (p := ⟨b, k, none⟩) hB _, fun c q h1 h2 => by
    by_cases e : c = b
    · subst e
      rw [h] at h1
      cases h1
      rw [hp] at h2
      cases h2
    · exact (heap_setCell_other A ⟨b, k, none⟩ c u e).trans h1⟩
theorem mr_put {B b : Nat} {A : World} {x : Ty} (hB : B ≤ b) (h : Bt b x A) (y : Ty) : Mr B A (putT A b y) := by
  have h1 := heap_setCell_same A b 0 _ _ (.string y.nam) h
  have h2 := heap_setCell_same _ b 1 _ _ (.string y.abv) h1
  have h3 := heap_setCell_same _ b 2 _ _ (.int .i64 y.syn) h2
  have h4 := heap_setCell_same _ b 3 _ _ (.int .i64 y.rul) h3
  have h5 := heap_setCell_same _ b 4 _ _ (.bool y.sgl) h4
  exact (((((Ke.set hB h rfl).trans (Ke.set hB h1 rfl)).trans (Ke.set hB h2 rfl)).trans (Ke.set hB h3 rfl)).trans (Ke.set hB h4 rfl)).trans (Ke.set hB h5 rfl)
theorem Kc.bt {B b : Nat} {x : Ty} {A C : World} (h : Bt b x A) (k : Kc B A C) : Bt b x C := k.same _ _ h rfl
theorem Kc.box {B b : Nat} {v : Value} {A C : World} (h : Boxed A b 22 v) (k : Kc B A C) : Boxed C b 22 v := k.same _ _ h rfl
theorem Mr.box {B b : Nat} {v : Value} {A C : World} (h : Boxed A b 22 v) (k : Mr B A C) : Boxed C b 22 v := k.same _ _ h rfl

set_option maxRecDepth 100000 in
set_option maxHeartbeats 3200000 in
/-- The iterator: it hands on the types of the line, one by one, until there is none, or a round says no more. -/
theorem up_in (n L bl bn n₀ M : Nat) (h1 : 1 ≤ n) (v : Value) (l : List Ty) (nm : ByteArray) (J Jx : List Ty → World → Prop) (W : World)
    (hbl : Boxed W bl 22 v) (hbn : W.cell? ⟨bn, 0, none⟩ = some (.string nm)) (hn₀ : n₀ ≤ W.heap.size) (hV : ∀ W', Below n₀ W W' → TysV W' v l)
    (hJ : ∀ s A C, J s A → Mr W.heap.size A C → J s C)
    (hY : ∀ pre x W1, J pre W1 → wlk l (fndT l nm) pre (some x) → YieldAt Fence.wide (n - 1) Try.prog L #[aggV x] W1 fun e W' =>
      (e = .returned (.bool true) ∧ J (pre ++ [x]) W' ∧ Kc n₀ W1 W') ∨ (e = .returned (.bool false) ∧ Jx (pre ++ [x]) W'))
    (hM : ∀ pre x W1, J pre W1 → wlk l (fndT l nm) pre (some x) → pre.length ≤ M) (h0 : J [] W) :
    CallsIn Fence.wide n Try.prog 36 #[.func (.yield L) #[] #[], .pointer (some ⟨bl, 0, none⟩), .pointer (some ⟨bn, 0, none⟩)] W fun e W' => (∃ u, e = .returned u) ∧
      ((∃ xs, wlk l (fndT l nm) xs none ∧ J xs W') ∨ (∃ pre o, wlk l (fndT l nm) pre o ∧ Jx pre W')) := by
  have CF := hide (fun n2 W' (h : Below n₀ W W') => find_any v l n2 W' (hV W' h))
  obtain ⟨va, vc, rfl⟩ := (hV W (Below.refl _ _)).shape
  have cl := hbl.cell
  have HBL := hide hbl
  have HJ := hide hJ
  have HY := hide hY
  have HM := hide hM
  have H0 := hide h0
  clear hV hJ hY hM h0 hbl
  refine callsIn_of_wp Try.func36 rfl trivial ?_ rfl
  simp only [Try.ntmps36, List.size_toArray, List.length_cons, List.length_nil, Nat.reduceAdd, Nat.reduceSub, Array.replicate_succ, Array.replicate_zero, List.push_toArray, List.append_toArray, List.nil_append, List.cons_append]
  have C0 := hide (unhide CF nm W (Below.refl _ _))
  have HY0 : Hid (fnA l nm = (fndT l nm).getD ty0 ∧ fnB l nm = (fndT l nm).isSome) := ⟨rfl, rfl⟩
  unfold aggV at C0
  generalize fnA l nm = y0 at *
  generalize fnB l nm = z0 at *
  gi_wp2_with (refine ⟨trivial, ?_⟩; gi_at_call 25; refine (callsIn_wide.2 (unhide C0)).mono ?_; rintro e w2 ⟨rfl, b2⟩)
  have k2 : Mr W.heap.size W (w2.alloc (.cells #[.string y0.nam, .string y0.abv, .int .i64 y0.syn, .int .i64 y0.rul, .bool y0.sgl, .bool y0.cls] 26)) := (Ke.of_below _ b2 (Nat.le_refl _)).trans (Ke.one _ _ b2.size)
  have HK2 := hide k2
  have hsz2 := b2.size
  clear k2 C0
  gi_loopg [5] (M + 2) (fun g vok wr => ∃ (pre : List Ty) (o : Option Ty), Hid (wlk l (fndT l nm) pre o) ∧ vok = .bool o.isSome ∧ g + pre.length = M + 2 ∧ Hid (J pre wr) ∧ Hid (Bt w2.heap.size (o.getD ty0) wr) ∧ Hid (Boxed wr bl 22 (.slice va l.length vc)) ∧ Below n₀ W wr)
  case atStart => exact ⟨[], fndT l nm, rfl, by rw [(unhide HY0).2], by simp, unhide HJ _ _ _ (unhide H0) (unhide HK2), by rw [← (unhide HY0).1]; exact heap_new w2 _, Mr.box (unhide HBL) (unhide HK2), (unhide HK2).below.mono hn₀⟩
  case round =>
    obtain ⟨pre, o, HW, rfl, hg, HJ1, HB, HL, hb⟩ := hrel
    clear HK2 HY0 H0 HBL
    cases o with
    | none =>
      clear HB
      simp only [Option.isSome_none]
      gi_wp2
      refine ⟨fun _ h => (by cases h), ?_⟩
      gi_wp2
      go_end0
      exact ⟨⟨_, rfl⟩, .inl ⟨pre, unhide HW, unhide HJ1⟩⟩
    | some x =>
      simp only [Option.isSome_some, Option.getD_some] at HB ⊢
      obtain ⟨c0, c1, c2, c3, c4, c5⟩ := (unhide HB).cells
      simp only [Nat.zero_add] at c1 c2 c3 c4 c5
      have hm := unhide HM pre x wr (unhide HJ1) (unhide HW)
      obtain ⟨fn, tmps, assign, body, hy, hR⟩ := unhide HY pre x wr (unhide HJ1) (unhide HW)
      unfold aggV at hy
      have HR := hide hR
      clear hR
      gi_wp2
      refine (unhide HR).mono ?_
      clear HR hy
      rintro e W3 (⟨rfl, hJ3, hk3⟩ | ⟨rfl, hJx3⟩)
      · have HJ3 := hide hJ3
        have HB3 := hide (Kc.bt (unhide HB) hk3)
        have HL3 := hide (Kc.box (unhide HL) hk3)
        have hb3 := hb.trans hk3.below
        have e1 := (unhide HB3).cells.2.1
        simp only [Nat.zero_add] at e1
        have el := (unhide HL3).cell
        have C3 := hide (unhide CF x.abv W3 hb3)
        have HW3 := hide (wlk_snoc (unhide HW))
        have HY3 : Hid (fnA l x.abv = (fndT l x.abv).getD ty0 ∧ fnB l x.abv = (fndT l x.abv).isSome) := ⟨rfl, rfl⟩
        unfold aggV at C3
        generalize fnA l x.abv = y at *
        generalize fnB l x.abv = z at *
        clear hk3 hJ3 c0 c1 c2 c3 c4 c5 HB HL HJ1 HW CF
        gi_wp2_with (refine ⟨trivial, ?_⟩; gi_at_call 25; refine (callsIn_wide.2 (unhide C3)).mono ?_; rintro e w4 ⟨rfl, b4⟩; have B4 := hide ((unhide HB3).keep b4); obtain ⟨d0, d1, d2, d3, d4, d5⟩ := (unhide B4).cells; simp only [Nat.zero_add] at d1 d2 d3 d4 d5; have f0 := (unhide B4).free 0; have f1 := (unhide B4).free 1; have f2 := (unhide B4).free 2; have f3 := (unhide B4).free 3; have f4 := (unhide B4).free 4; have f5 := (unhide B4).free 5)
        have k4 : Mr W.heap.size W3 (putT w4 w2.heap.size y) := (Ke.of_below _ b4 (Nat.le_trans hsz2 (Nat.le_of_lt (bt_lt (unhide HB3))))).trans (mr_put hsz2 (unhide B4) y)
        go_roundg (gk - 1)
        case measure => omega
        case rel => exact ⟨pre ++ [x], fndT l x.abv, unhide HW3, by rw [(unhide HY3).2], by rw [List.length_append]; simp; omega, unhide HJ _ _ _ (unhide HJ3) k4, by rw [← (unhide HY3).1]; exact (unhide B4).put y, Mr.box (unhide HL3) k4, hb3.trans (k4.below.mono hn₀)⟩
      · gi_wp2
        go_end0
        exact ⟨⟨_, rfl⟩, .inr ⟨_, _, wlk_snoc (unhide HW), hJx3⟩⟩
end Go.Proofs.Ytoaoplfbnjajiaa
