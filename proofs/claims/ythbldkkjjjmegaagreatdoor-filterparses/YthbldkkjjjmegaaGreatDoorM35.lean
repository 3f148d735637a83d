/- From what the row lists to the walks' fact: the library's error of a wrong text. -/
import Derived.Test.YthbldkkjjjmegaaGreatDoorM16
import Derived.Test.YthbldkkjjjmegaaGreatDoorRows
import Derived.ProofKit
import Derived.LaidMore
import Derived.Lay
import Derived.OpenShut
import Derived.ChangeSame
import Derived.ChangeArms
import Derived.Stop.Joined
import Derived.SizedLaws
import Derived.Lib.LaidTab
import Derived.LaidLaws
namespace Go.Proofs.YthbldkkjjjmegaaGreatDoor
set_option maxRecDepth 100000
open Go.ChangeShapes Go.WideShapes Go.ChangeAt Go.RowKit

def lst : List (String × DataW Unit) := Rows.filterShowsRow.laid
def nm24 (k : Nat) : String := (lst.map (·.1)).getD k ""
theorem laid_at {P : Program} {w : World} : ∀ {l : List (String × DataW Unit)} {ps : List MemPlace}, DataW.LaidVars P w l ps → ∀ {k : Nat} {n : String} {d : DataW Unit}, l[k]? = some (n, d) →
    ∃ g t cs fuel p, P.globalNamed n = some g ∧ (P.globals[g]?).map (·.type) = some t ∧ w.var? P n = some cs ∧ DataW.trod (fun _ => ()) P w 0 (fun _ => true) false fuel t cs.toList = some (d, p)
  | [], _, _, _, _, _, h => by simp at h
  | (n0, d0) :: r, ps, hl, k, n, d, h => by
    obtain ⟨g, t, cs, fuel, p, q, h1, h2, h3, h4, h5, _⟩ := hl
    cases k with
    | zero =>
      simp only [List.getElem?_cons_zero, Option.some.injEq, Prod.mk.injEq] at h
      obtain ⟨rfl, rfl⟩ := h
      exact ⟨g, t, cs, fuel, p, h1, h2, h3, h4⟩
    | succ k =>
      rw [List.getElem?_cons_succ] at h
      exact laid_at h5 h
theorem block_of {P : Program} {w : World} {n : String} {g : Nat} {cs : Array Value} (hg : P.globalNamed n = some g) (hv : w.var? P n = some cs) : ∃ t fr, w.heap[g]? = some (.cells cs t fr) := by
  simp only [World.var?, hg, Option.bind_some] at hv
  cases hw : w.heap[g]? with
  | none => rw [hw] at hv; cases hv
  | some ob =>
    rw [hw] at hv
    cases ob with
    | cells c t fr =>
      dsimp only at hv
      obtain rfl := Option.some.inj hv
      exact ⟨t, fr, rfl⟩
    | _ => cases hv
theorem l24sg : Tryz.prog.globalNamed (nm24 5) = some 2 := by kernel_rfl
theorem l24st : (Tryz.prog.globals[2]?).map (·.type) = some 100 := by kernel_rfl
theorem l24s : ∃ n d, lst[5]? = some (nm24 5, DataW.iface n d) := ⟨_, _, rfl⟩
theorem err_of {W : World} {ps : List MemPlace} (hv : DataW.LaidVars Tryz.prog W lst ps) {k g : Nat} (hl : ∃ n d, lst[k]? = some (nm24 k, DataW.iface n d)) (hg : Tryz.prog.globalNamed (nm24 k) = some g) (ht : (Tryz.prog.globals[g]?).map (·.type) = some 100) : Err g W := by
  obtain ⟨n, d, hl⟩ := hl
  obtain ⟨g', t, cs, fuel, p, a1, a2, a3, a4⟩ := laid_at hv hl
  obtain rfl := Option.some.inj (hg.symm.trans a1)
  obtain rfl := Option.some.inj (ht.symm.trans a2)
  obtain ⟨_, u, v, e, _, _⟩ := iface_of_trod Tryz.underlying100 a4
  have hc : cs = #[.iface u v] := by cases cs; simpa using e
  subst hc
  obtain ⟨t, fr, hb⟩ := block_of hg a3
  refine ⟨u, v, ?_⟩
  unfold World.cell?
  rw [show W.heap[(⟨g, 0, none⟩ : Addr).block]? = W.heap[g]? from rfl, hb]
  rfl
theorem l24gg : Tryz.prog.globalNamed (nm24 6) = some 0 := by kernel_rfl
theorem l24gt : (Tryz.prog.globals[0]?).map (·.type) = some 86 := by kernel_rfl
theorem l24g : lst[6]? = some (nm24 6, Rows.laid_toponym_filter_signs) := rfl
theorem l24cells2 : Tryz.prog.cellsOf 85 = 2 := by kernel_rfl
theorem l24cells10 : Tryz.prog.cellsOf 86 = 10 := by kernel_rfl
theorem l24cellsT : Tryz.prog.cellsOf 9 = 1 := by kernel_rfl
theorem l24cellsI : Tryz.prog.cellsOf 3 = 1 := by kernel_rfl
section
variable {H : Type} {enc : TypeId × Value → H} {w : World} {base : Nat} {spare : Nat → Bool} {held : Bool} {m : Nat}
theorem sign_of {c d : Value} {l : List UInt8} {b : Int} {q : List MemPlace} (h : DataW.trod enc Tryz.prog w base spare held m 85 [c, d] = some (.agg [.lit (.string l), .lit (.int .i64 b)], q)) : c = .string ⟨l.toArray⟩ ∧ d = .int .i64 b := by
  obtain ⟨y0, y1, n, hx, _, h0, h1⟩ := trod_struct2 Tryz.underlying85 h
  obtain ⟨s, e0, e0', _⟩ := DataW.trod_string Tryz.underlying9 h0
  obtain ⟨j, e1, e1', _⟩ := DataW.trod_int Tryz.underlying3 h1
  rw [e0', e1'] at hx
  simp at hx
  rw [show Tryz.prog.cellsOf _ = 1 from l24cellsT] at e0
  rw [show Tryz.prog.cellsOf _ = 1 from l24cellsI] at e1
  simp at e0 e1
  refine ⟨?_, by rw [e1, hx.1.2]⟩
  rw [e0, hx.1.1]
end
theorem sgs_of {W : World} {cs : Array Value} {fuel : Nat} {p : List MemPlace} (hd : DataW.trod (fun _ => ()) Tryz.prog W 0 (fun _ => true) false fuel 86 cs.toList = some (Rows.laid_toponym_filter_signs, p)) : cs = sgs24 := by
  obtain ⟨xs, m1, rfl, hx1, hlen, hn3, hel⟩ := DataW.trod_array Tryz.underlying86 hd
  obtain ⟨l1⟩ := cs
  rw [l24cells10] at hlen
  match l1, hlen with
  | [c0, c1, c2, c3, c4, c5, c6, c7, c8, c9], _ =>
    match xs, hn3, hx1, hel with
    | [x0, x1, x2, x3, x4], _, hx1, hel =>
      have e0 := hel 0 (by decide)
      have e1 := hel 1 (by decide)
      have e2 := hel 2 (by decide)
      have e3 := hel 3 (by decide)
      have e4 := hel 4 (by decide)
      rw [l24cells2] at e0 e1 e2 e3 e4
      simp only [Prod.mk.injEq, Rows.laid_toponym_filter_signs, DataW.agg.injEq, List.map_cons, List.map_nil, List.cons.injEq, and_true] at hx1
      obtain ⟨y0, z0⟩ := x0
      obtain ⟨y1, z1⟩ := x1
      obtain ⟨y2, z2⟩ := x2
      obtain ⟨y3, z3⟩ := x3
      obtain ⟨y4, z4⟩ := x4
      obtain ⟨⟨k0, k1, k2, k3, k4⟩, _⟩ := hx1
      dsimp only at k0 k1 k2 k3 k4
      subst k0 k1 k2 k3 k4
      obtain ⟨rfl, rfl⟩ := sign_of (show DataW.trod _ _ _ _ _ _ _ _ [c0, c1] = some _ from e0)
      obtain ⟨rfl, rfl⟩ := sign_of (show DataW.trod _ _ _ _ _ _ _ _ [c2, c3] = some _ from e1)
      obtain ⟨rfl, rfl⟩ := sign_of (show DataW.trod _ _ _ _ _ _ _ _ [c4, c5] = some _ from e2)
      obtain ⟨rfl, rfl⟩ := sign_of (show DataW.trod _ _ _ _ _ _ _ _ [c6, c7] = some _ from e3)
      obtain ⟨rfl, rfl⟩ := sign_of (show DataW.trod _ _ _ _ _ _ _ _ [c8, c9] = some _ from e4)
      rfl
/-- What internal bytealg's bound holds: some int. -/
theorem bound_of24 {w : World} (h : w.ShapedOpen Tryz.prog) : ∃ m, w.cell? ⟨1, 0, none⟩ = some (.int .i64 m) :=
  cell_of_shapedOpen_int (zero := #[.int .i64 0]) (t := 3) h (of_decide_eq_true (by kernel_rfl)) (by kernel_rfl) rfl (by kernel_rfl) (by kernel_rfl) Tryz.underlying3
theorem of_laid {W : World} (h : laidMetH Tryz.prog lst W) (hSh : W.ShapedOpen Tryz.prog) : Ly W := by
  rw [MakeChecks.laidMetH_plain _ _ _ (by kernel_rfl)] at h
  obtain ⟨ps, hv, _, _⟩ := h
  obtain ⟨gb, tb, cb, fb, pb, b1, b2, b3, b4⟩ := laid_at hv l24g
  obtain rfl := Option.some.inj (l24gg.symm.trans b1)
  obtain rfl := Option.some.inj (l24gt.symm.trans b2)
  obtain rfl := sgs_of b4
  exact ⟨err_of hv l24s l24sg l24st, block_of b1 b3, bound_of24 hSh⟩
/-- A world that meets the condition. -/
theorem door_met (os : Os) (args : Array Value) : laidMetH Tryz.prog lst ((World.laidAll Tryz.prog os lst).forCall (fun _ _ => 0) ⟨#[], args, []⟩).memory := by
  rw [MakeChecks.laidMetH_plain _ _ _ (by kernel_rfl)]
  exact laidMet_laidAll _ (by kernel_rfl) (by kernel_rfl)
/-- The wrap that hands on the row's condition and the world's shape. -/
theorem change_and_shaped {H : Type} {enc : TypeId × Value → H} {a : Assume} {C : Checked} {os : Os} {f : FuncId} {fn : Func} {s : ChangeSpec} {conds : List PathCond} {apart fresh handsOn again : Bool} {X : World → Array Value → Prop}
    (hX : ∀ (w w' : World) (args : Array Value), w.heap = w'.heap → X w args → X w' args)
    (own : ownKnob C.prog.godebug = none) (started : os.Started) (noInit : C.prog.inits.idxOf? f = none) (hfn : C.prog.funcs[f]? = some fn)
    (witness : ∃ (w : World) (tape : Tape) (i : Input), w.os = os ∧ (w.forCall tape i).Shaped C.prog ∧ i.vars = [] ∧ Input.okWide C.prog (w.forCall tape i) .any w.heap.size f i ∧
      ((s.pre enc C.prog fn conds apart (w.forCall tape i).memory i.args ∧ X (w.forCall tape i).memory i.args) ∧ sizedMet enc C.prog fn (OpenSpec.ofChange s) apart (w.forCall tape i).memory i.args) ∧ a.holds C.prog (lone (Frame.enter C.prog f i.args .normal) [] (w.forCall tape i)))
    (contract : ∀ (W : World) (base : Nat) (args : Array Value) (ds gs : List (DataW H)) (before : List MemPlace),
      (∀ (j : Nat) t v, fn.params[j]? = some t → args[j]? = some v → Value.okWide C.prog W .any base t v) →
      DataW.Whole enc C.prog fn.params.toList s.vars apart W args.toList ds gs before → (DataW.weightsEach C.prog (fn.params.toList ++ s.plain.varTypes C.prog) (ds ++ gs)).all (· ≤ reachBytes) = true → X W args → W.ShapedOpen C.prog →
      Calls C.prog f args W fun e W' => ∃ v, e = .returned v ∧ s.post enc C.prog fn apart fresh handsOn again W args v W') :
    ReturnsInHanded a C os f .any (fun w args => (s.pre enc C.prog fn conds apart w args ∧ X w args) ∧ sizedMet enc C.prog fn (OpenSpec.ofChange s) apart w args) (s.post enc C.prog fn apart fresh handsOn again) := by
  refine returnsInHanded_of_calls own started noInit witness ?_
  intro w tape i _ hsh _ hok hpre _
  obtain ⟨_, _, _, fn', hfn', _, _, _, _, hval⟩ := hok
  obtain rfl : fn' = fn := Option.some.inj (hfn'.symm.trans hfn)
  obtain ⟨⟨⟨ds, gs, before, hw, _⟩, hx⟩, hz⟩ := hpre
  refine (contract (w.forCall tape i) w.heap.size i.args ds gs before hval (DataW.Whole.of_heap (w' := w.forCall tape i) (by rfl) hw) (hz.weights hw) (hX _ _ _ (by rfl) hx) hsh).mono fun e W' ⟨v, he, hp⟩ => ?_
  subst he
  exact ChangeSpec.post_blind hp
end Go.Proofs.YthbldkkjjjmegaaGreatDoor
