/- From what the rows list to the walks' facts: the tables of hangul, fold, decomp, compose, of tens, of words, and two errors. -/
import Derived.Test.YtefobkgifigclaaGreatDoorM41
import Derived.Test.YtefobkgifigclaaGreatDoorM17
import Derived.Test.YtefobkgifigclaaGreatDoorM27
import Derived.Test.YtefobkgifigclaaGreatDoorRows
import Derived.ProofKit
import Derived.LaidMore
import Derived.Lay
import Derived.OpenShut
import Derived.ChangeSame
import Derived.ChangeArms
import Derived.Stop.Joined
import Derived.SizedLaws
import Derived.Lib.LaidTab
import Derived.LaidLaws
namespace Go.Proofs.YtefobkgifigclaaGreatDoor
set_option maxRecDepth 100000
open Go.ChangeShapes Go.WideShapes Go.ChangeAt Go.RowKit

def lst : List (String × DataW Unit) := Rows.rulesWordsRow.laid
def nm12 (k : Nat) : String := (lst.map (·.1)).getD k ""
theorem laid_at {P : Program} {w : World} : ∀ {l : List (String × DataW Unit)} {ps : List MemPlace}, DataW.LaidVars P w l ps → ∀ {k : Nat} {n : String} {d : DataW Unit}, l[k]? = some (n, d) →
    ∃ g t cs fuel p, P.globalNamed n = some g ∧ (P.globals[g]?).map (·.type) = some t ∧ w.var? P n = some cs ∧ DataW.trod (fun _ => ()) P w 0 (fun _ => true) false fuel t cs.toList = some (d, p)
  | [], _, _, _, _, _, h => by simp at h
  | (n0, d0) :: r, ps, hl, k, n, d, h => by
    obtain ⟨g, t, cs, fuel, p, q, h1, h2, h3, h4, h5, _⟩ := hl
    cases k with
    | zero =>
      simp only [List.getElem?_cons_zero, Option.some.injEq, Prod.mk.injEq] at h
      obtain ⟨rfl, rfl⟩ := h
      exact ⟨g, t, cs, fuel, p, h1, h2, h3, h4⟩
    | succ k =>
      rw [List.getElem?_cons_succ] at h
      exact laid_at h5 h
theorem block_of {P : Program} {w : World} {n : String} {g : Nat} {cs : Array Value} (hg : P.globalNamed n = some g) (hv : w.var? P n = some cs) : ∃ t fr, w.heap[g]? = some (.cells cs t fr) := by
  simp only [World.var?, hg, Option.bind_some] at hv
  cases hw : w.heap[g]? with
  | none => rw [hw] at hv; cases hv
  | some ob =>
    rw [hw] at hv
    cases ob with
    | cells c t fr =>
      dsimp only at hv
      obtain rfl := Option.some.inj hv
      exact ⟨t, fr, rfl⟩
    | _ => cases hv
theorem l12cells1 : Tryz.prog.cellsOf 21 = 1 := by kernel_rfl
theorem l12cells4 : Tryz.prog.cellsOf 233 = 4 := by kernel_rfl
theorem l12cells56 : Tryz.prog.cellsOf 234 = 56 := by kernel_rfl
def lit4 {H : Type} (o : Fo) : DataW H := .agg [.lit (.int .i32 o.f), .lit (.int .i32 o.t), .lit (.int .i32 o.s), .lit (.int .i32 o.u)]
theorem laid_is : (Rows.laid_toponym_fold_stretches : DataW Unit) = .agg (sts9.map lit4) := by kernel_rfl

theorem len4 {α : Type} (l : List α) (h : l.length = 4) : ∃ a b c d, l = [a, b, c, d] := by
  match l, h with
  | [a, b, c, d], _ => exact ⟨a, b, c, d, rfl⟩
/-- One element of the table. -/
theorem st_of {H : Type} {enc : TypeId × Value → H} {w : World} {base : Nat} {spare : Nat → Bool} {held : Bool} {m : Nat} {cs : List Value} {o : Fo} {q : List MemPlace}
    (h : DataW.trod enc Tryz.prog w base spare held m 233 cs = some (lit4 o, q)) : cs = foc4 o := by
  obtain ⟨xs, n, _, hx, hl, hlen, hf⟩ := DataW.trod_struct Tryz.underlying233 h
  rw [l12cells4] at hl
  obtain ⟨c0, c1, c2, c3, rfl⟩ := len4 cs hl
  obtain ⟨y0, y1, y2, y3, rfl⟩ := len4 xs hlen
  have h0 : DataW.trod enc Tryz.prog w base spare held n 21 (([c0, c1, c2, c3].drop 0).take (Tryz.prog.cellsOf 21)) = some y0 := hf 0 _ rfl
  have h1 : DataW.trod enc Tryz.prog w base spare held n 21 (([c0, c1, c2, c3].drop 1).take (Tryz.prog.cellsOf 21)) = some y1 := hf 1 _ rfl
  have h2 : DataW.trod enc Tryz.prog w base spare held n 21 (([c0, c1, c2, c3].drop 2).take (Tryz.prog.cellsOf 21)) = some y2 := hf 2 _ rfl
  have h3 : DataW.trod enc Tryz.prog w base spare held n 21 (([c0, c1, c2, c3].drop 3).take (Tryz.prog.cellsOf 21)) = some y3 := hf 3 _ rfl
  obtain ⟨i0, e0, e0', _⟩ := DataW.trod_int Tryz.underlying21 h0
  obtain ⟨i1, e1, e1', _⟩ := DataW.trod_int Tryz.underlying21 h1
  obtain ⟨i2, e2, e2', _⟩ := DataW.trod_int Tryz.underlying21 h2
  obtain ⟨i3, e3, e3', _⟩ := DataW.trod_int Tryz.underlying21 h3
  subst e0' e1' e2' e3'
  rw [l12cells1] at e0 e1 e2 e3
  simp [lit4] at hx
  simp at e0 e1 e2 e3
  unfold foc4
  rw [e0, e1, e2, e3, hx.1.1, hx.1.2.1, hx.1.2.2.1, hx.1.2.2.2]
theorem flat_of (L : List Fo) : ∀ l : List Value, l.length = 4 * L.length → (∀ i, i < L.length → (l.drop (i * 4)).take 4 = foc4 (L.getD i fo0)) → l = L.flatMap foc4 := by
  induction L with
  | nil => intro l hl _; exact List.eq_nil_of_length_eq_zero hl
  | cons o L ih =>
    intro l hl h
    have h0 := h 0 (by simp)
    rw [Nat.zero_mul, List.drop_zero] at h0
    have e0 : (o :: L).getD 0 fo0 = o := rfl
    rw [e0] at h0
    rw [List.flatMap_cons, ← h0, ← ih (l.drop 4) (by rw [List.length_drop, hl, List.length_cons]; omega) (fun i hi => ?_), List.take_append_drop]
    have h1 := h (i + 1) (by simpa using hi)
    have e1 : (o :: L).getD (i + 1) fo0 = L.getD i fo0 := rfl
    rw [e1] at h1
    rw [List.drop_drop, show 4 + i * 4 = (i + 1) * 4 by omega]
    exact h1

theorem l12at0 : lst[3]? = some (nm12 3, Rows.laid_toponym_hangul_parts) := by kernel_rfl
theorem l12at2 : lst[7]? = some (nm12 7, Rows.laid_toponym_fold_stretches) := by kernel_rfl
theorem l12at4 : lst[9]? = some (nm12 9, Rows.laid_toponym_decomp_ligatures) := by kernel_rfl
theorem l12at5 : lst[10]? = some (nm12 10, Rows.laid_toponym_compose_scripts) := by kernel_rfl
theorem l12g0 : Tryz.prog.globalNamed (nm12 3) = some 11 := by kernel_rfl
theorem l12g2 : Tryz.prog.globalNamed (nm12 7) = some 6 := by kernel_rfl
theorem l12g4 : Tryz.prog.globalNamed (nm12 9) = some 9 := by kernel_rfl
theorem l12g5 : Tryz.prog.globalNamed (nm12 10) = some 10 := by kernel_rfl
theorem l12ty0 : (Tryz.prog.globals[11]?).map (·.type) = some 284 := by kernel_rfl
theorem l12ty2 : (Tryz.prog.globals[6]?).map (·.type) = some 234 := by kernel_rfl
theorem l12ty4 : (Tryz.prog.globals[9]?).map (·.type) = some 276 := by kernel_rfl
theorem l12ty5 : (Tryz.prog.globals[10]?).map (·.type) = some 279 := by kernel_rfl
theorem l12cellsH : Tryz.prog.cellsOf 283 = 2 := by kernel_rfl
theorem l12cellsH3 : Tryz.prog.cellsOf 284 = 6 := by kernel_rfl
theorem l12cellsS : Tryz.prog.cellsOf 278 = 2 := by kernel_rfl
theorem l12cellsS4 : Tryz.prog.cellsOf 279 = 8 := by kernel_rfl
theorem l12cellsT : Tryz.prog.cellsOf 9 = 1 := by kernel_rfl
theorem l12cellsT6 : Tryz.prog.cellsOf 276 = 6 := by kernel_rfl

section
variable {H : Type} {enc : TypeId × Value → H} {w : World} {base : Nat} {spare : Nat → Bool} {held : Bool} {m : Nat}
theorem stretch_of {c d : Value} {a b : Int} {q : List MemPlace} (h : DataW.trod enc Tryz.prog w base spare held m 283 [c, d] = some (.agg [.lit (.int .i32 a), .lit (.int .i32 b)], q)) : c = .int .i32 a ∧ d = .int .i32 b := by
  obtain ⟨y0, y1, n, hx, _, h0, h1⟩ := trod_struct2 Tryz.underlying283 h
  obtain ⟨i, e0, e0', _⟩ := DataW.trod_int Tryz.underlying21 h0
  obtain ⟨j, e1, e1', _⟩ := DataW.trod_int Tryz.underlying21 h1
  rw [e0', e1'] at hx
  simp at hx
  rw [l12cells1] at e0 e1
  simp at e0 e1
  exact ⟨by rw [e0, hx.1.1], by rw [e1, hx.1.2]⟩
theorem script_of {c d : Value} {a b : Int} {q : List MemPlace} (h : DataW.trod enc Tryz.prog w base spare held m 278 [c, d] = some (.agg [.lit (.int .i32 a), .lit (.int .i32 b)], q)) : c = .int .i32 a ∧ d = .int .i32 b := by
  obtain ⟨y0, y1, n, hx, _, h0, h1⟩ := trod_struct2 Tryz.underlying278 h
  obtain ⟨i, e0, e0', _⟩ := DataW.trod_int Tryz.underlying21 h0
  obtain ⟨j, e1, e1', _⟩ := DataW.trod_int Tryz.underlying21 h1
  rw [e0', e1'] at hx
  simp at hx
  rw [l12cells1] at e0 e1
  simp at e0 e1
  exact ⟨by rw [e0, hx.1.1], by rw [e1, hx.1.2]⟩
theorem text_of {c : Value} {l : List UInt8} {q : List MemPlace} (h : DataW.trod enc Tryz.prog w base spare held m 9 [c] = some (.lit (.string l), q)) : c = .string ⟨l.toArray⟩ := by
  obtain ⟨s, e0, e1, _⟩ := DataW.trod_string Tryz.underlying9 h
  simp at e0 e1
  rw [e0, e1.1]
end

theorem lay_of {W : World} {cs : Array Value} {fuel : Nat} {p : List MemPlace} (hv : W.var? Tryz.prog (nm12 3) = some cs) (hd : DataW.trod (fun _ => ()) Tryz.prog W 0 (fun _ => true) false fuel 284 cs.toList = some (Rows.laid_toponym_hangul_parts, p)) : Lay W := by
  obtain ⟨xs, m1, rfl, hx1, hlen, hn3, hel⟩ := DataW.trod_array Tryz.underlying284 hd
  have hc := fun j => World.var?_cell l12g0 hv j
  obtain ⟨l1⟩ := cs
  rw [l12cellsH3] at hlen
  match l1, hlen with
  | [c0, c1, c2, c3, c4, c5], _ =>
    match xs, hn3, hx1, hel with
    | [x0, x1, x2], _, hx1, hel =>
      have e0 := hel 0 (by decide)
      have e1 := hel 1 (by decide)
      have e2 := hel 2 (by decide)
      rw [l12cellsH] at e0 e1 e2
      simp only [Prod.mk.injEq, Rows.laid_toponym_hangul_parts, DataW.agg.injEq, List.map_cons, List.map_nil, List.cons.injEq, and_true] at hx1
      obtain ⟨y0, z0⟩ := x0
      obtain ⟨y1, z1⟩ := x1
      obtain ⟨y2, z2⟩ := x2
      obtain ⟨⟨k0, k1, k2⟩, _⟩ := hx1
      dsimp only at k0 k1 k2
      subst k0 k1 k2
      obtain ⟨rfl, rfl⟩ := stretch_of (show DataW.trod _ _ _ _ _ _ _ _ [c0, c1] = some _ from e0)
      obtain ⟨rfl, rfl⟩ := stretch_of (show DataW.trod _ _ _ _ _ _ _ _ [c2, c3] = some _ from e1)
      obtain ⟨rfl, rfl⟩ := stretch_of (show DataW.trod _ _ _ _ _ _ _ _ [c4, c5] = some _ from e2)
      refine ⟨?_, ?_, ?_, ?_, ?_, ?_⟩
      · simpa using hc 0
      · simpa using hc 1
      · simpa using hc 2
      · simpa using hc 3
      · simpa using hc 4
      · simpa using hc 5
theorem scr_of {W : World} {cs : Array Value} {fuel : Nat} {p : List MemPlace} (hd : DataW.trod (fun _ => ()) Tryz.prog W 0 (fun _ => true) false fuel 279 cs.toList = some (Rows.laid_toponym_compose_scripts, p)) : cs = scrs := by
  obtain ⟨xs, m1, rfl, hx1, hlen, hn3, hel⟩ := DataW.trod_array Tryz.underlying279 hd
  obtain ⟨l1⟩ := cs
  rw [l12cellsS4] at hlen
  match l1, hlen with
  | [c0, c1, c2, c3, c4, c5, c6, c7], _ =>
    match xs, hn3, hx1, hel with
    | [x0, x1, x2, x3], _, hx1, hel =>
      have e0 := hel 0 (by decide)
      have e1 := hel 1 (by decide)
      have e2 := hel 2 (by decide)
      have e3 := hel 3 (by decide)
      rw [l12cellsS] at e0 e1 e2 e3
      simp only [Prod.mk.injEq, Rows.laid_toponym_compose_scripts, DataW.agg.injEq, List.map_cons, List.map_nil, List.cons.injEq, and_true] at hx1
      obtain ⟨y0, z0⟩ := x0
      obtain ⟨y1, z1⟩ := x1
      obtain ⟨y2, z2⟩ := x2
      obtain ⟨y3, z3⟩ := x3
      obtain ⟨⟨k0, k1, k2, k3⟩, _⟩ := hx1
      dsimp only at k0 k1 k2 k3
      subst k0 k1 k2 k3
      obtain ⟨rfl, rfl⟩ := script_of (show DataW.trod _ _ _ _ _ _ _ _ [c0, c1] = some _ from e0)
      obtain ⟨rfl, rfl⟩ := script_of (show DataW.trod _ _ _ _ _ _ _ _ [c2, c3] = some _ from e1)
      obtain ⟨rfl, rfl⟩ := script_of (show DataW.trod _ _ _ _ _ _ _ _ [c4, c5] = some _ from e2)
      obtain ⟨rfl, rfl⟩ := script_of (show DataW.trod _ _ _ _ _ _ _ _ [c6, c7] = some _ from e3)
      rfl
theorem lig_of {W : World} {cs : Array Value} {fuel : Nat} {p : List MemPlace} (hd : DataW.trod (fun _ => ()) Tryz.prog W 0 (fun _ => true) false fuel 276 cs.toList = some (Rows.laid_toponym_decomp_ligatures, p)) : cs = ligs := by
  obtain ⟨xs, m1, rfl, hx1, hlen, hn3, hel⟩ := DataW.trod_array Tryz.underlying276 hd
  obtain ⟨l1⟩ := cs
  rw [l12cellsT6] at hlen
  match l1, hlen with
  | [c0, c1, c2, c3, c4, c5], _ =>
    match xs, hn3, hx1, hel with
    | [x0, x1, x2, x3, x4, x5], _, hx1, hel =>
      have e0 := hel 0 (by decide)
      have e1 := hel 1 (by decide)
      have e2 := hel 2 (by decide)
      have e3 := hel 3 (by decide)
      have e4 := hel 4 (by decide)
      have e5 := hel 5 (by decide)
      rw [l12cellsT] at e0 e1 e2 e3 e4 e5
      simp only [Prod.mk.injEq, Rows.laid_toponym_decomp_ligatures, DataW.agg.injEq, List.map_cons, List.map_nil, List.cons.injEq, and_true] at hx1
      obtain ⟨y0, z0⟩ := x0
      obtain ⟨y1, z1⟩ := x1
      obtain ⟨y2, z2⟩ := x2
      obtain ⟨y3, z3⟩ := x3
      obtain ⟨y4, z4⟩ := x4
      obtain ⟨y5, z5⟩ := x5
      obtain ⟨⟨k0, k1, k2, k3, k4, k5⟩, _⟩ := hx1
      dsimp only at k0 k1 k2 k3 k4 k5
      subst k0 k1 k2 k3 k4 k5
      obtain rfl := text_of (show DataW.trod _ _ _ _ _ _ _ _ [c0] = some _ from e0)
      obtain rfl := text_of (show DataW.trod _ _ _ _ _ _ _ _ [c1] = some _ from e1)
      obtain rfl := text_of (show DataW.trod _ _ _ _ _ _ _ _ [c2] = some _ from e2)
      obtain rfl := text_of (show DataW.trod _ _ _ _ _ _ _ _ [c3] = some _ from e3)
      obtain rfl := text_of (show DataW.trod _ _ _ _ _ _ _ _ [c4] = some _ from e4)
      obtain rfl := text_of (show DataW.trod _ _ _ _ _ _ _ _ [c5] = some _ from e5)
      rfl
theorem st_all {W : World} {cs : Array Value} {fuel : Nat} {p : List MemPlace} (hd : DataW.trod (fun _ => ()) Tryz.prog W 0 (fun _ => true) false fuel 234 cs.toList = some (Rows.laid_toponym_fold_stretches, p)) : cs = arr9 := by
  obtain ⟨xs, m1, rfl, hx1, hlen, hn, hel⟩ := DataW.trod_array Tryz.underlying234 hd
  rw [l12cells56] at hlen
  rw [laid_is] at hx1
  have hxs : sts9.map lit4 = xs.map (·.1) := by
    have := congrArg Prod.fst hx1
    simpa using this
  have hcs : cs.toList = sts9.flatMap foc4 := by
    refine flat_of sts9 _ (by rw [hlen]; rfl) fun i hi => ?_
    have hi' : i < 14 := hi
    have e := hel i hi'
    rw [l12cells4] at e
    have hxi : i < xs.length := by omega
    have ei : (xs[i]).1 = lit4 (sts9.getD i fo0) := by
      have h1 : (xs.map (·.1))[i]? = some (lit4 (sts9.getD i fo0)) := by rw [← hxs]; simp [List.getD, hi]
      simpa [hxi] using h1
    rw [List.getElem?_eq_getElem hxi] at e
    refine st_of (q := (xs[i]).2) (e.trans ?_)
    rw [← ei]
  unfold arr9
  rw [← hcs]
theorem of_laid12 {W : World} (h : laidMetH Tryz.prog lst W) : L12 W := by
  rw [MakeChecks.laidMetH_plain _ _ _ (by kernel_rfl)] at h
  obtain ⟨ps, hv, _, _⟩ := h
  obtain ⟨ga, ta, ca, fa, pa, a1, a2, a3, a4⟩ := laid_at hv l12at0
  obtain ⟨gb, tb, cb, fb, pb, b1, b2, b3, b4⟩ := laid_at hv l12at2
  obtain ⟨gc, tc, cc, fc, pc, c1, c2, c3, c4⟩ := laid_at hv l12at4
  obtain ⟨gd, td, cd, fd, pd, d1, d2, d3, d4⟩ := laid_at hv l12at5
  obtain rfl := Option.some.inj (l12g0.symm.trans a1)
  obtain rfl := Option.some.inj (l12ty0.symm.trans a2)
  obtain rfl := Option.some.inj (l12g2.symm.trans b1)
  obtain rfl := Option.some.inj (l12ty2.symm.trans b2)
  obtain rfl := Option.some.inj (l12g4.symm.trans c1)
  obtain rfl := Option.some.inj (l12ty4.symm.trans c2)
  obtain rfl := Option.some.inj (l12g5.symm.trans d1)
  obtain rfl := Option.some.inj (l12ty5.symm.trans d2)
  obtain rfl := st_all b4
  obtain rfl := lig_of c4
  obtain rfl := scr_of d4
  exact ⟨block_of b1 b3, lay_of a3 a4, block_of c1 c3, block_of d1 d3⟩
theorem l17at : lst[2]? = some (nm12 2, Lib.tabData .u64 Lib.pow10Tab) := by kernel_rfl
theorem l17g : Tryz.prog.globalNamed (nm12 2) = some 3 := by kernel_rfl
theorem l17ty : (Tryz.prog.globals[3]?).map (·.type) = some 149 := by kernel_rfl
theorem l17rg : Tryz.prog.globalNamed (nm12 5) = some 2 := by kernel_rfl
theorem l17rt : (Tryz.prog.globals[2]?).map (·.type) = some 59 := by kernel_rfl
theorem l17sg : Tryz.prog.globalNamed (nm12 6) = some 1 := by kernel_rfl
theorem l17st : (Tryz.prog.globals[1]?).map (·.type) = some 59 := by kernel_rfl
theorem l17r : ∃ n d, lst[5]? = some (nm12 5, DataW.iface n d) := ⟨_, _, rfl⟩
theorem l17s : ∃ n d, lst[6]? = some (nm12 6, DataW.iface n d) := ⟨_, _, rfl⟩
theorem err_of {W : World} {ps : List MemPlace} (hv : DataW.LaidVars Tryz.prog W lst ps) {k g : Nat} (hl : ∃ n d, lst[k]? = some (nm12 k, DataW.iface n d)) (hg : Tryz.prog.globalNamed (nm12 k) = some g) (ht : (Tryz.prog.globals[g]?).map (·.type) = some 59) : S17.Err g W := by
  obtain ⟨n, d, hl⟩ := hl
  obtain ⟨g', t, cs, fuel, p, a1, a2, a3, a4⟩ := laid_at hv hl
  obtain rfl := Option.some.inj (hg.symm.trans a1)
  obtain rfl := Option.some.inj (ht.symm.trans a2)
  obtain ⟨_, u, v, e, _, _⟩ := iface_of_trod Tryz.underlying59 a4
  have hc : cs = #[.iface u v] := by cases cs; simpa using e
  subst hc
  obtain ⟨t, fr, hb⟩ := block_of hg a3
  refine ⟨u, v, ?_⟩
  unfold World.cell?
  rw [show W.heap[(⟨g, 0, none⟩ : Addr).block]? = W.heap[g]? from rfl, hb]
  rfl
theorem of_laid17 {W : World} (h : laidMetH Tryz.prog lst W) : S17.Ly W := by
  rw [MakeChecks.laidMetH_plain _ _ _ (by kernel_rfl)] at h
  obtain ⟨ps, hv, _, _⟩ := h
  refine ⟨?_, err_of hv l17s l17sg l17st, err_of hv l17r l17rg l17rt⟩
  obtain ⟨g, t, cs, fuel, p, a1, a2, a3, a4⟩ := laid_at hv l17at
  obtain rfl := Option.some.inj (l17g.symm.trans a1)
  obtain rfl := Option.some.inj (l17ty.symm.trans a2)
  have e := Lib.cells_of_tab Tryz.underlying149 Tryz.underlying116 (by kernel_rfl) (by kernel_rfl) a4
  have hc : cs = (Lib.pow10Tab.map fun z => Value.int .u64 z).toArray := by rw [← e]
  subst hc
  exact block_of l17g a3
theorem l22at : lst[11]? = some (nm12 11, Rows.laid_toponym_rules_words) := by kernel_rfl
theorem l22g : Tryz.prog.globalNamed (nm12 11) = some 0 := by kernel_rfl
theorem l22ty : (Tryz.prog.globals[0]?).map (·.type) = some 48 := by kernel_rfl
theorem l22cells : Tryz.prog.cellsOf 48 = 12 := by kernel_rfl
theorem wds_of {W : World} {cs : Array Value} {fuel : Nat} {p : List MemPlace} (hd : DataW.trod (fun _ => ()) Tryz.prog W 0 (fun _ => true) false fuel 48 cs.toList = some (Rows.laid_toponym_rules_words, p)) : cs = wds22 := by
  obtain ⟨xs, m1, rfl, hx1, hlen, hn3, hel⟩ := DataW.trod_array Tryz.underlying48 hd
  obtain ⟨l1⟩ := cs
  rw [l22cells] at hlen
  match l1, hlen with
  | [c0, c1, c2, c3, c4, c5, c6, c7, c8, c9, c10, c11], _ =>
    match xs, hn3, hx1, hel with
    | [x0, x1, x2, x3, x4, x5, x6, x7, x8, x9, x10, x11], _, hx1, hel =>
      have e0 := hel 0 (by decide)
      have e1 := hel 1 (by decide)
      have e2 := hel 2 (by decide)
      have e3 := hel 3 (by decide)
      have e4 := hel 4 (by decide)
      have e5 := hel 5 (by decide)
      have e6 := hel 6 (by decide)
      have e7 := hel 7 (by decide)
      have e8 := hel 8 (by decide)
      have e9 := hel 9 (by decide)
      have e10 := hel 10 (by decide)
      have e11 := hel 11 (by decide)
      rw [l12cellsT] at e0 e1 e2 e3 e4 e5 e6 e7 e8 e9 e10 e11
      simp only [Prod.mk.injEq, Rows.laid_toponym_rules_words, DataW.agg.injEq, List.map_cons, List.map_nil, List.cons.injEq, and_true] at hx1
      obtain ⟨y0, z0⟩ := x0
      obtain ⟨y1, z1⟩ := x1
      obtain ⟨y2, z2⟩ := x2
      obtain ⟨y3, z3⟩ := x3
      obtain ⟨y4, z4⟩ := x4
      obtain ⟨y5, z5⟩ := x5
      obtain ⟨y6, z6⟩ := x6
      obtain ⟨y7, z7⟩ := x7
      obtain ⟨y8, z8⟩ := x8
      obtain ⟨y9, z9⟩ := x9
      obtain ⟨y10, z10⟩ := x10
      obtain ⟨y11, z11⟩ := x11
      obtain ⟨⟨k0, k1, k2, k3, k4, k5, k6, k7, k8, k9, k10, k11⟩, _⟩ := hx1
      dsimp only at k0 k1 k2 k3 k4 k5 k6 k7 k8 k9 k10 k11
      subst k0 k1 k2 k3 k4 k5 k6 k7 k8 k9 k10 k11
      obtain rfl := text_of (show DataW.trod _ _ _ _ _ _ _ _ [c0] = some _ from e0)
      obtain rfl := text_of (show DataW.trod _ _ _ _ _ _ _ _ [c1] = some _ from e1)
      obtain rfl := text_of (show DataW.trod _ _ _ _ _ _ _ _ [c2] = some _ from e2)
      obtain rfl := text_of (show DataW.trod _ _ _ _ _ _ _ _ [c3] = some _ from e3)
      obtain rfl := text_of (show DataW.trod _ _ _ _ _ _ _ _ [c4] = some _ from e4)
      obtain rfl := text_of (show DataW.trod _ _ _ _ _ _ _ _ [c5] = some _ from e5)
      obtain rfl := text_of (show DataW.trod _ _ _ _ _ _ _ _ [c6] = some _ from e6)
      obtain rfl := text_of (show DataW.trod _ _ _ _ _ _ _ _ [c7] = some _ from e7)
      obtain rfl := text_of (show DataW.trod _ _ _ _ _ _ _ _ [c8] = some _ from e8)
      obtain rfl := text_of (show DataW.trod _ _ _ _ _ _ _ _ [c9] = some _ from e9)
      obtain rfl := text_of (show DataW.trod _ _ _ _ _ _ _ _ [c10] = some _ from e10)
      obtain rfl := text_of (show DataW.trod _ _ _ _ _ _ _ _ [c11] = some _ from e11)
      rfl
theorem of_laid22 {W : World} (h : laidMetH Tryz.prog lst W) : Lw W := by
  rw [MakeChecks.laidMetH_plain _ _ _ (by kernel_rfl)] at h
  obtain ⟨ps, hv, _, _⟩ := h
  obtain ⟨ga, ta, ca, fa, pa, a1, a2, a3, a4⟩ := laid_at hv l22at
  obtain rfl := Option.some.inj (l22g.symm.trans a1)
  obtain rfl := Option.some.inj (l22ty.symm.trans a2)
  obtain rfl := wds_of a4
  exact block_of l22g a3
theorem of_laid {W : World} (h : laidMetH Tryz.prog lst W) : L12 W ∧ S17.Ly W ∧ Lw W := ⟨of_laid12 h, of_laid17 h, of_laid22 h⟩
/-- A world that meets the condition. -/
theorem door_met (os : Os) (args : Array Value) : laidMetH Tryz.prog lst ((World.laidAll Tryz.prog os lst).forCall (fun _ _ => 0) ⟨#[], args, []⟩).memory := by
  rw [MakeChecks.laidMetH_plain _ _ _ (by kernel_rfl)]
  exact laidMet_laidAll _ (by kernel_rfl) (by kernel_rfl)
/-- The wrap that hands on the row's condition and the world's shape. -/
theorem change_and_shaped {H : Type} {enc : TypeId × Value → H} {a : Assume} {C : Checked} {os : Os} {f : FuncId} {fn : Func} {s : ChangeSpec} {conds : List PathCond} {apart fresh handsOn again : Bool} {X : World → Array Value → Prop}
    (hX : ∀ (w w' : World) (args : Array Value), w.heap = w'.heap → X w args → X w' args)
    (own : ownKnob C.prog.godebug = none) (started : os.Started) (noInit : C.prog.inits.idxOf? f = none) (hfn : C.prog.funcs[f]? = some fn)
    (witness : ∃ (w : World) (tape : Tape) (i : Input), w.os = os ∧ (w.forCall tape i).Shaped C.prog ∧ i.vars = [] ∧ Input.okWide C.prog (w.forCall tape i) .any w.heap.size f i ∧
      ((s.pre enc C.prog fn conds apart (w.forCall tape i).memory i.args ∧ X (w.forCall tape i).memory i.args) ∧ sizedMet enc C.prog fn (OpenSpec.ofChange s) apart (w.forCall tape i).memory i.args) ∧ a.holds C.prog (lone (Frame.enter C.prog f i.args .normal) [] (w.forCall tape i)))
    (contract : ∀ (W : World) (base : Nat) (args : Array Value) (ds gs : List (DataW H)) (before : List MemPlace),
      (∀ (j : Nat) t v, fn.params[j]? = some t → args[j]? = some v → Value.okWide C.prog W .any base t v) →
      DataW.Whole enc C.prog fn.params.toList s.vars apart W args.toList ds gs before → (DataW.weightsEach C.prog (fn.params.toList ++ s.plain.varTypes C.prog) (ds ++ gs)).all (· ≤ reachBytes) = true → X W args → W.ShapedOpen C.prog →
      Calls C.prog f args W fun e W' => ∃ v, e = .returned v ∧ s.post enc C.prog fn apart fresh handsOn again W args v W') :
    ReturnsInHanded a C os f .any (fun w args => (s.pre enc C.prog fn conds apart w args ∧ X w args) ∧ sizedMet enc C.prog fn (OpenSpec.ofChange s) apart w args) (s.post enc C.prog fn apart fresh handsOn again) := by
  refine returnsInHanded_of_calls own started noInit witness ?_
  intro w tape i _ hsh _ hok hpre _
  obtain ⟨_, _, _, fn', hfn', _, _, _, _, hval⟩ := hok
  obtain rfl : fn' = fn := Option.some.inj (hfn'.symm.trans hfn)
  obtain ⟨⟨⟨ds, gs, before, hw, _⟩, hx⟩, hz⟩ := hpre
  refine (contract (w.forCall tape i) w.heap.size i.args ds gs before hval (DataW.Whole.of_heap (w' := w.forCall tape i) (by rfl) hw) (hz.weights hw) (hX _ _ _ (by rfl) hx) hsh).mono fun e W' ⟨v, he, hp⟩ => ?_
  subst he
  exact ChangeSpec.post_blind hp
end Go.Proofs.YtefobkgifigclaaGreatDoor
