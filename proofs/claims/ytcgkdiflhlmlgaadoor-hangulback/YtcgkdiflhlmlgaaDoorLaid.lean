/- From what the row lists to the walks' fact: the table of the leads, the vowels and the tails. -/
import Derived.Test.YtcgkdiflhlmlgaaDoorBase
import Derived.ProofKit
import Derived.LaidMore
import Derived.OpenShut
import Derived.ChangeSame
import Derived.Stop.Joined
namespace Go.Proofs.YtcgkdiflhlmlgaaDoor
open Go.ChangeShapes Go.WideShapes Go.ChangeAt Go.RowKit

/-- The list, and its one name. -/
def lst : List (String × DataW Unit) := Rows.hangulPartsRow.laid
def lname : String := (lst.map (·.1)).headD ""
theorem gParts : Tryd.prog.globalNamed lname = some 0 := by kernel_rfl
theorem tParts : (Tryd.prog.globals[0]?).map (·.type) = some 36 := by kernel_rfl
theorem cells1 : Tryd.prog.cellsOf 21 = 1 := by kernel_rfl
theorem cells2 : Tryd.prog.cellsOf 35 = 2 := by kernel_rfl
theorem cells6 : Tryd.prog.cellsOf 36 = 6 := by kernel_rfl

/-- The door's own heap meets the condition. -/
theorem door_met (os : Os) (args : Array Value) : laidMetH Tryd.prog lst ((World.doorLaid Tryd.prog 400 os).forCall (fun _ _ => 0) ⟨#[], args, []⟩).memory :=
  laidMetH_of_parts3 (fuel := 8) (laidMet_of_run' 8 (by kernel_rfl) (by kernel_rfl)) (by kernel_rfl) (by kernel_rfl)

/-- One element of the table. -/
theorem stretch_of {H : Type} {enc : TypeId × Value → H} {w : World} {base : Nat} {spare : Nat → Bool} {held : Bool} {m : Nat} {c d : Value} {a b : Int} {q : List MemPlace}
    (h : DataW.trod enc Tryd.prog w base spare held m 35 [c, d] = some (.agg [.lit (.int .i32 a), .lit (.int .i32 b)], q)) : c = .int .i32 a ∧ d = .int .i32 b := by
  obtain ⟨y0, y1, n, hx, _, h0, h1⟩ := trod_struct2 Tryd.underlying35 h
  obtain ⟨i, e0, e0', _⟩ := DataW.trod_int Tryd.underlying21 h0
  obtain ⟨j, e1, e1', _⟩ := DataW.trod_int Tryd.underlying21 h1
  rw [e0', e1'] at hx
  simp at hx
  rw [cells1] at e0 e1
  simp at e0 e1
  exact ⟨by rw [e0, hx.1.1], by rw [e1, hx.1.2]⟩

theorem of_laid {W : World} (h : laidMetH Tryd.prog lst W) : Lay W := by
  rw [MakeChecks.laidMetH_plain _ _ _ (by kernel_rfl)] at h
  obtain ⟨ps, ⟨g0, t0, cs0, f0, p0, q0, hg0, ht0, hv0, hd0, _, _⟩, _, _⟩ := h
  obtain rfl := Option.some.inj (gParts.symm.trans hg0)
  obtain rfl := Option.some.inj (tParts.symm.trans ht0)
  obtain ⟨xs, m1, rfl, hx1, hlen, hn3, hel⟩ := DataW.trod_array Tryd.underlying36 hd0
  have hc := fun j => World.var?_cell hg0 hv0 j
  obtain ⟨l1⟩ := cs0
  rw [cells6] at hlen
  match l1, hlen with
  | [c0, c1, c2, c3, c4, c5], _ =>
    match xs, hn3, hx1, hel with
    | [x0, x1, x2], _, hx1, hel =>
      have e0 := hel 0 (by decide)
      have e1 := hel 1 (by decide)
      have e2 := hel 2 (by decide)
      rw [cells2] at e0 e1 e2
      simp only [Prod.mk.injEq, Rows.laid_toponym_hangul_parts, DataW.agg.injEq, List.map_cons, List.map_nil, List.cons.injEq, and_true] at hx1
      obtain ⟨y0, z0⟩ := x0
      obtain ⟨y1, z1⟩ := x1
      obtain ⟨y2, z2⟩ := x2
      obtain ⟨⟨k0, k1, k2⟩, _⟩ := hx1
      dsimp only at k0 k1 k2
      subst k0 k1 k2
      obtain ⟨rfl, rfl⟩ := stretch_of (show DataW.trod _ _ _ _ _ _ _ _ [c0, c1] = some _ from e0)
      obtain ⟨rfl, rfl⟩ := stretch_of (show DataW.trod _ _ _ _ _ _ _ _ [c2, c3] = some _ from e1)
      obtain ⟨rfl, rfl⟩ := stretch_of (show DataW.trod _ _ _ _ _ _ _ _ [c4, c5] = some _ from e2)
      refine ⟨?_, ?_, ?_, ?_, ?_, ?_⟩
      · simpa using hc 0
      · simpa using hc 1
      · simpa using hc 2
      · simpa using hc 3
      · simpa using hc 4
      · simpa using hc 5
end Go.Proofs.YtcgkdiflhlmlgaaDoor
