/- From what the row lists to the walks' fact: the library's error of a wrong text. -/
import Derived.Test.YtnhojjheoafhaaaDoorShelf18
import Derived.Test.YtnhojjheoafhaaaDoorRows
import Derived.ProofKit
import Derived.LaidMore
import Derived.Lay
import Derived.OpenShut
import Derived.ChangeSame
import Derived.ChangeArms
import Derived.Stop.Joined
import Derived.SizedLaws
import Derived.Lib.LaidTab
import Derived.LaidLaws
namespace Go.Proofs.YtnhojjheoafhaaaDoor
set_option maxRecDepth 100000
open Go.ChangeShapes Go.WideShapes Go.ChangeAt Go.RowKit

def lst : List (String × DataW Unit) := Rows.dnParsesRow.laid
def nm18 (k : Nat) : String := (lst.map (·.1)).getD k ""
theorem laid_at {P : Program} {w : World} : ∀ {l : List (String × DataW Unit)} {ps : List MemPlace}, DataW.LaidVars P w l ps → ∀ {k : Nat} {n : String} {d : DataW Unit}, l[k]? = some (n, d) →
    ∃ g t cs fuel p, P.globalNamed n = some g ∧ (P.globals[g]?).map (·.type) = some t ∧ w.var? P n = some cs ∧ DataW.trod (fun _ => ()) P w 0 (fun _ => true) false fuel t cs.toList = some (d, p)
  | [], _, _, _, _, _, h => by simp at h
  | (n0, d0) :: r, ps, hl, k, n, d, h => by
    obtain ⟨g, t, cs, fuel, p, q, h1, h2, h3, h4, h5, _⟩ := hl
    cases k with
    | zero =>
      simp only [List.getElem?_cons_zero, Option.some.injEq, Prod.mk.injEq] at h
      obtain ⟨rfl, rfl⟩ := h
      exact ⟨g, t, cs, fuel, p, h1, h2, h3, h4⟩
    | succ k =>
      rw [List.getElem?_cons_succ] at h
      exact laid_at h5 h
theorem block_of {P : Program} {w : World} {n : String} {g : Nat} {cs : Array Value} (hg : P.globalNamed n = some g) (hv : w.var? P n = some cs) : ∃ t fr, w.heap[g]? = some (.cells cs t fr) := by
  simp only [World.var?, hg, Option.bind_some] at hv
  cases hw : w.heap[g]? with
  | none => rw [hw] at hv; cases hv
  | some ob =>
    rw [hw] at hv
    cases ob with
    | cells c t fr =>
      dsimp only at hv
      obtain rfl := Option.some.inj hv
      exact ⟨t, fr, rfl⟩
    | _ => cases hv
theorem l18sg : Tryd.prog.globalNamed (nm18 4) = some 1 := by kernel_rfl
theorem l18st : (Tryd.prog.globals[1]?).map (·.type) = some 77 := by kernel_rfl
theorem l18s : ∃ n d, lst[4]? = some (nm18 4, DataW.iface n d) := ⟨_, _, rfl⟩
theorem err_of {W : World} {ps : List MemPlace} (hv : DataW.LaidVars Tryd.prog W lst ps) {k g : Nat} (hl : ∃ n d, lst[k]? = some (nm18 k, DataW.iface n d)) (hg : Tryd.prog.globalNamed (nm18 k) = some g) (ht : (Tryd.prog.globals[g]?).map (·.type) = some 77) : Err g W := by
  obtain ⟨n, d, hl⟩ := hl
  obtain ⟨g', t, cs, fuel, p, a1, a2, a3, a4⟩ := laid_at hv hl
  obtain rfl := Option.some.inj (hg.symm.trans a1)
  obtain rfl := Option.some.inj (ht.symm.trans a2)
  obtain ⟨_, u, v, e, _, _⟩ := iface_of_trod Tryd.underlying77 a4
  have hc : cs = #[.iface u v] := by cases cs; simpa using e
  subst hc
  obtain ⟨t, fr, hb⟩ := block_of hg a3
  refine ⟨u, v, ?_⟩
  unfold World.cell?
  rw [show W.heap[(⟨g, 0, none⟩ : Addr).block]? = W.heap[g]? from rfl, hb]
  rfl
theorem of_laid {W : World} (h : laidMetH Tryd.prog lst W) : Ly W := by
  rw [MakeChecks.laidMetH_plain _ _ _ (by kernel_rfl)] at h
  obtain ⟨ps, hv, _, _⟩ := h
  exact err_of hv l18s l18sg l18st
/-- A world that meets the condition. -/
theorem door_met (os : Os) (args : Array Value) : laidMetH Tryd.prog lst ((World.laidAll Tryd.prog os lst).forCall (fun _ _ => 0) ⟨#[], args, []⟩).memory := by
  rw [MakeChecks.laidMetH_plain _ _ _ (by kernel_rfl)]
  exact laidMet_laidAll _ (by kernel_rfl) (by kernel_rfl)
/-- The wrap that hands on the row's condition and the world's shape. -/
theorem change_and_shaped {H : Type} {enc : TypeId × Value → H} {a : Assume} {C : Checked} {os : Os} {f : FuncId} {fn : Func} {s : ChangeSpec} {conds : List PathCond} {apart fresh handsOn again : Bool} {X : World → Array Value → Prop}
    (hX : ∀ (w w' : World) (args : Array Value), w.heap = w'.heap → X w args → X w' args)
    (own : ownKnob C.prog.godebug = none) (started : os.Started) (noInit : C.prog.inits.idxOf? f = none) (hfn : C.prog.funcs[f]? = some fn)
    (witness : ∃ (w : World) (tape : Tape) (i : Input), w.os = os ∧ (w.forCall tape i).Shaped C.prog ∧ i.vars = [] ∧ Input.okWide C.prog (w.forCall tape i) .any w.heap.size f i ∧
      ((s.pre enc C.prog fn conds apart (w.forCall tape i).memory i.args ∧ X (w.forCall tape i).memory i.args) ∧ sizedMet enc C.prog fn (OpenSpec.ofChange s) apart (w.forCall tape i).memory i.args) ∧ a.holds C.prog (lone (Frame.enter C.prog f i.args .normal) [] (w.forCall tape i)))
    (contract : ∀ (W : World) (base : Nat) (args : Array Value) (ds gs : List (DataW H)) (before : List MemPlace),
      (∀ (j : Nat) t v, fn.params[j]? = some t → args[j]? = some v → Value.okWide C.prog W .any base t v) →
      DataW.Whole enc C.prog fn.params.toList s.vars apart W args.toList ds gs before → (DataW.weightsEach C.prog (fn.params.toList ++ s.plain.varTypes C.prog) (ds ++ gs)).all (· ≤ reachBytes) = true → X W args → W.ShapedOpen C.prog →
      Calls C.prog f args W fun e W' => ∃ v, e = .returned v ∧ s.post enc C.prog fn apart fresh handsOn again W args v W') :
    ReturnsInHanded a C os f .any (fun w args => (s.pre enc C.prog fn conds apart w args ∧ X w args) ∧ sizedMet enc C.prog fn (OpenSpec.ofChange s) apart w args) (s.post enc C.prog fn apart fresh handsOn again) := by
  refine returnsInHanded_of_calls own started noInit witness ?_
  intro w tape i _ hsh _ hok hpre _
  obtain ⟨_, _, _, fn', hfn', _, _, _, _, hval⟩ := hok
  obtain rfl : fn' = fn := Option.some.inj (hfn'.symm.trans hfn)
  obtain ⟨⟨⟨ds, gs, before, hw, _⟩, hx⟩, hz⟩ := hpre
  refine (contract (w.forCall tape i) w.heap.size i.args ds gs before hval (DataW.Whole.of_heap (w' := w.forCall tape i) (by rfl) hw) (hz.weights hw) (hX _ _ _ (by rfl) hx) hsh).mono fun e W' ⟨v, he, hp⟩ => ?_
  subst he
  exact ChangeSpec.post_blind hp
end Go.Proofs.YtnhojjheoafhaaaDoor
