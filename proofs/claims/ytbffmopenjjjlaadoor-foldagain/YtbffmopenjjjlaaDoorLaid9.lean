/- From what the row lists to the walks' fact: the table of what is folded. -/
import Derived.Test.YtbffmopenjjjlaaDoorPutW9
import Derived.Test.YtbffmopenjjjlaaDoorRows
import Derived.ProofKit
import Derived.LaidMore
import Derived.OpenShut
import Derived.ChangeSame
import Derived.Stop.Joined
namespace Go.Proofs.YtbffmopenjjjlaaDoor
open Go.ChangeShapes Go.WideShapes Go.ChangeAt Go.RowKit

/-- The list, and its one name. -/
def lst : List (String × DataW Unit) := Rows.foldOnesRow.laid
def lname : String := (lst.map (·.1)).headD ""
theorem gSts : Tryd.prog.globalNamed lname = some 0 := by kernel_rfl
theorem tSts : (Tryd.prog.globals[0]?).map (·.type) = some 44 := by kernel_rfl
theorem cells1 : Tryd.prog.cellsOf 21 = 1 := by kernel_rfl
theorem cells4 : Tryd.prog.cellsOf 43 = 4 := by kernel_rfl
theorem cells56 : Tryd.prog.cellsOf 44 = 56 := by kernel_rfl

/-- The door's own heap meets the condition. -/
theorem door_met (os : Os) (args : Array Value) : laidMetH Tryd.prog lst ((World.doorLaid Tryd.prog 400 os).forCall (fun _ _ => 0) ⟨#[], args, []⟩).memory :=
  laidMetH_of_parts3 (fuel := 8) (laidMet_of_run' 8 (by kernel_rfl) (by kernel_rfl)) (by kernel_rfl) (by kernel_rfl)

def lit4 {H : Type} (o : Fo) : DataW H := .agg [.lit (.int .i32 o.f), .lit (.int .i32 o.t), .lit (.int .i32 o.s), .lit (.int .i32 o.u)]
theorem laid_is : (Rows.laid_toponym_fold_stretches : DataW Unit) = .agg (sts9.map lit4) := by kernel_rfl

theorem len4 {α : Type} (l : List α) (h : l.length = 4) : ∃ a b c d, l = [a, b, c, d] := by
  match l, h with
  | [a, b, c, d], _ => exact ⟨a, b, c, d, rfl⟩
/-- One element of the table. -/
theorem st_of {H : Type} {enc : TypeId × Value → H} {w : World} {base : Nat} {spare : Nat → Bool} {held : Bool} {m : Nat} {cs : List Value} {o : Fo} {q : List MemPlace}
    (h : DataW.trod enc Tryd.prog w base spare held m 43 cs = some (lit4 o, q)) : cs = foc4 o := by
  obtain ⟨xs, n, _, hx, hl, hlen, hf⟩ := DataW.trod_struct Tryd.underlying43 h
  rw [cells4] at hl
  obtain ⟨c0, c1, c2, c3, rfl⟩ := len4 cs hl
  obtain ⟨y0, y1, y2, y3, rfl⟩ := len4 xs hlen
  have h0 : DataW.trod enc Tryd.prog w base spare held n 21 (([c0, c1, c2, c3].drop 0).take (Tryd.prog.cellsOf 21)) = some y0 := hf 0 _ rfl
  have h1 : DataW.trod enc Tryd.prog w base spare held n 21 (([c0, c1, c2, c3].drop 1).take (Tryd.prog.cellsOf 21)) = some y1 := hf 1 _ rfl
  have h2 : DataW.trod enc Tryd.prog w base spare held n 21 (([c0, c1, c2, c3].drop 2).take (Tryd.prog.cellsOf 21)) = some y2 := hf 2 _ rfl
  have h3 : DataW.trod enc Tryd.prog w base spare held n 21 (([c0, c1, c2, c3].drop 3).take (Tryd.prog.cellsOf 21)) = some y3 := hf 3 _ rfl
  obtain ⟨i0, e0, e0', _⟩ := DataW.trod_int Tryd.underlying21 h0
  obtain ⟨i1, e1, e1', _⟩ := DataW.trod_int Tryd.underlying21 h1
  obtain ⟨i2, e2, e2', _⟩ := DataW.trod_int Tryd.underlying21 h2
  obtain ⟨i3, e3, e3', _⟩ := DataW.trod_int Tryd.underlying21 h3
  subst e0' e1' e2' e3'
  rw [cells1] at e0 e1 e2 e3
  simp [lit4] at hx
  simp at e0 e1 e2 e3
  unfold foc4
  rw [e0, e1, e2, e3, hx.1.1, hx.1.2.1, hx.1.2.2.1, hx.1.2.2.2]
theorem flat_of (L : List Fo) : ∀ l : List Value, l.length = 4 * L.length → (∀ i, i < L.length → (l.drop (i * 4)).take 4 = foc4 (L.getD i fo0)) → l = L.flatMap foc4 := by
  induction L with
  | nil => intro l hl _; exact List.eq_nil_of_length_eq_zero hl
  | cons o L ih =>
    intro l hl h
    have h0 := h 0 (by simp)
    rw [Nat.zero_mul, List.drop_zero] at h0
    have e0 : (o :: L).getD 0 fo0 = o := rfl
    rw [e0] at h0
    rw [List.flatMap_cons, ← h0, ← ih (l.drop 4) (by rw [List.length_drop, hl, List.length_cons]; omega) (fun i hi => ?_), List.take_append_drop]
    have h1 := h (i + 1) (by simpa using hi)
    have e1 : (o :: L).getD (i + 1) fo0 = L.getD i fo0 := rfl
    rw [e1] at h1
    rw [List.drop_drop, show 4 + i * 4 = (i + 1) * 4 by omega]
    exact h1
theorem of_laid {W : World} (h : laidMetH Tryd.prog lst W) : Ly W := by
  rw [MakeChecks.laidMetH_plain _ _ _ (by kernel_rfl)] at h
  obtain ⟨ps, ⟨g0, t0, cs0, f0, p0, q0, hg0, ht0, hv0, hd0, _, _⟩, _, _⟩ := h
  obtain rfl := Option.some.inj (gSts.symm.trans hg0)
  obtain rfl := Option.some.inj (tSts.symm.trans ht0)
  obtain ⟨xs, m1, rfl, hx1, hlen, hn, hel⟩ := DataW.trod_array Tryd.underlying44 hd0
  rw [cells56] at hlen
  rw [laid_is] at hx1
  have hxs : sts9.map lit4 = xs.map (·.1) := by
    have := congrArg Prod.fst hx1
    simpa using this
  have hcs : cs0.toList = sts9.flatMap foc4 := by
    refine flat_of sts9 _ (by rw [hlen]; rfl) fun i hi => ?_
    have hi' : i < 14 := hi
    have e := hel i hi'
    rw [cells4] at e
    have hxi : i < xs.length := by omega
    have ei : (xs[i]).1 = lit4 (sts9.getD i fo0) := by
      have h1 : (xs.map (·.1))[i]? = some (lit4 (sts9.getD i fo0)) := by rw [← hxs]; simp [List.getD, hi]
      simpa [hxi] using h1
    rw [List.getElem?_eq_getElem hxi] at e
    refine st_of (q := (xs[i]).2) (e.trans ?_)
    rw [← ei]
  simp only [World.var?, hg0, Option.bind_some] at hv0
  cases hw : W.heap[0]? with
  | none => rw [hw] at hv0; cases hv0
  | some ob =>
    rw [hw] at hv0
    cases ob with
    | cells cs t fr =>
      dsimp only at hv0
      have : cs = arr9 := by
        have e := Option.some.inj hv0
        unfold arr9
        rw [← hcs, ← e]
      subst this
      exact ⟨t, fr, hw⟩
    | _ => cases hv0
end Go.Proofs.YtbffmopenjjjlaaDoor
