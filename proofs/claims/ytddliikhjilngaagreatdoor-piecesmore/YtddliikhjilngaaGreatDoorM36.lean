/- What comes in: pieces, cuts. -/
import Derived.Test.YtddliikhjilngaaGreatDoorM34
import Derived.Test.YtddliikhjilngaaGreatDoorRows
import Derived.SliceStrings
import Derived.ProofKit
import Derived.OpenShut
namespace Go.Proofs.YtddliikhjilngaaGreatDoor
set_option maxRecDepth 100000
open Go.RowKit Go.ChangeShapes Go.WideShapes

section
variable {H : Type} {enc : TypeId × Value → H} {W : World} {fuel : Nat} {cs : List Value} {x : DataW H × List MemPlace}
theorem texts_of (h : DataW.trod enc Tryz.prog W 0 (fun _ => true) true fuel 27 cs = some x) : ∃ ad cap, ∃ ss : List ByteArray, cs = [.slice ad ss.length cap] ∧ Txs W (.slice ad ss.length cap) ss ∧ ss.length ≤ cap := by
  rcases open_strings Tryz.underlying27 Tryz.underlying9 (by kernel_rfl) h with ⟨hcs, _⟩ | ⟨a, len, cap, zs, hcs, _, hl, hm, hz, _, hcell, _⟩
  · exact ⟨none, 0, [], hcs, Txs.nil W none 0, Nat.le_refl _⟩
  · have hz' : zs.length = cap := by simpa using hz
    have hlen : (zs.take len).length = len := by simp; omega
    refine ⟨some a, cap, zs.take len, by rw [hlen]; exact hcs, ⟨some a, cap, rfl, by unfold maxLen at hm; omega, fun hi => ?_⟩, by omega⟩
    rw [hlen] at hi
    obtain ⟨b, off, spot⟩ := a
    have h0 := hcell 0 (by omega)
    have hspot : spot = none := by simpa [Addr.add] using World.cell?_spot h0
    subst hspot
    refine ⟨b, off, rfl, fun j hj => ?_⟩
    rw [hlen] at hj
    have hc := hcell j (by omega)
    rw [add_off] at hc
    rw [hc]
    simp [List.getD, hj]
theorem pc_fields : ∃ f0 f1 f2 f3 f4 : Field, Tryz.prog.underlying 29 = some (.struct #[f0, f1, f2, f3, f4]) ∧ f0.offset = 0 ∧ f1.offset = 1 ∧ f2.offset = 2 ∧ f3.offset = 3 ∧ f4.offset = 4 ∧ f0.type = 9 ∧ f1.type = 27 ∧ f2.type = 9 ∧ f3.type = 4 ∧ f4.type = 4 := by
  refine ⟨_, _, _, _, _, Tryz.underlying29, rfl, rfl, rfl, rfl, rfl, rfl, rfl, rfl, rfl, rfl⟩
theorem pcs_of (h : DataW.trod enc Tryz.prog W 0 (fun _ => true) true fuel 29 cs = some x) : ∃ (a b : ByteArray) (hi hf : Bool) (ad : Option Addr) (cap : Nat) (ss : List ByteArray), cs = [.string a, .slice ad ss.length cap, .string b, .bool hi, .bool hf] ∧ Txs W (.slice ad ss.length cap) ss ∧ ss.length ≤ cap := by
  obtain ⟨f0, f1, f2, f3, f4, hu, o0, o1, o2, o3, o4, t0, t1, t2, t3, t4⟩ := pc_fields
  have cb : Tryz.prog.cellsOf 4 = 1 := by kernel_rfl
  have cS : Tryz.prog.cellsOf 9 = 1 := by kernel_rfl
  have cl : Tryz.prog.cellsOf 27 = 1 := by kernel_rfl
  have ce : Tryz.prog.cellsOf 29 = 5 := by kernel_rfl
  obtain ⟨xs, k, hk, _, hlen, hxl, hff⟩ := DataW.trod_struct hu h
  rw [ce] at hlen
  match xs, hxl, cs, hlen with
  | [y0, y1, y2, y3, y4], _, [v0, v1, v2, v3, v4], _ =>
    have g0 := hff 0 f0 rfl
    have g1 := hff 1 f1 rfl
    have g2 := hff 2 f2 rfl
    have g3 := hff 3 f3 rfl
    have g4 := hff 4 f4 rfl
    rw [o0, t0, cS] at g0
    rw [o1, t1, cl] at g1
    rw [o2, t2, cS] at g2
    rw [o3, t3, cb] at g3
    rw [o4, t4, cb] at g4
    simp at g0 g1 g2 g3 g4
    obtain ⟨n0, e0, _, _⟩ := DataW.trod_string Tryz.underlying9 g0
    obtain ⟨ad, cap, ss, e1, hT, hc⟩ := texts_of g1
    obtain ⟨n2, e2, _, _⟩ := DataW.trod_string Tryz.underlying9 g2
    obtain ⟨n3, e3, _⟩ := DataW.trod_bool Tryz.underlying4 g3
    obtain ⟨n4, e4, _⟩ := DataW.trod_bool Tryz.underlying4 g4
    simp at e0 e1 e2 e3 e4
    subst e0 e1 e2 e3 e4
    exact ⟨n0, n2, n3, n4, ad, cap, ss, rfl, hT, hc⟩
end
end Go.Proofs.YtddliikhjilngaaGreatDoor
