/- What comes in: cuts. -/
import Derived.Test.YtddliikhjilngaaGreatDoorRows
import Derived.ProofKit
import Derived.OpenShut
namespace Go.Proofs.YtddliikhjilngaaGreatDoor
set_option maxRecDepth 100000
open Go.RowKit Go.ChangeShapes Go.WideShapes

theorem cu_fields : ∃ f0 f1 f2 f3 f4 f5 f6 : Field, Tryz.prog.underlying 23 = some (.struct #[f0, f1, f2, f3, f4, f5, f6]) ∧ f0.offset = 0 ∧ f1.offset = 1 ∧ f2.offset = 2 ∧ f3.offset = 3 ∧ f4.offset = 4 ∧ f5.offset = 5 ∧ f6.offset = 6 ∧ f0.type = 3 ∧ f1.type = 3 ∧ f2.type = 3 ∧ f3.type = 3 ∧ f4.type = 4 ∧ f5.type = 4 ∧ f6.type = 4 := by
  refine ⟨_, _, _, _, _, _, _, Tryz.underlying23, rfl, rfl, rfl, rfl, rfl, rfl, rfl, rfl, rfl, rfl, rfl, rfl, rfl, rfl⟩
theorem cuts_of {H : Type} {enc : TypeId × Value → H} {W : World} {fuel : Nat} {cs : List Value} {x : DataW H × List MemPlace} (h : DataW.trod enc Tryz.prog W 0 (fun _ => true) true fuel 23 cs = some x) : ∃ (a b c d : Int) (f0 f1 f2 : Bool), cs = [.int .i64 a, .int .i64 b, .int .i64 c, .int .i64 d, .bool f0, .bool f1, .bool f2] := by
  obtain ⟨f0, f1, f2, f3, f4, f5, f6, hu, o0, o1, o2, o3, o4, o5, o6, t0, t1, t2, t3, t4, t5, t6⟩ := cu_fields
  have cb : Tryz.prog.cellsOf 4 = 1 := by kernel_rfl
  have ci : Tryz.prog.cellsOf 3 = 1 := by kernel_rfl
  have ce : Tryz.prog.cellsOf 23 = 7 := by kernel_rfl
  obtain ⟨xs, k, hk, _, hlen, hxl, hff⟩ := DataW.trod_struct hu h
  rw [ce] at hlen
  match xs, hxl, cs, hlen with
  | [y0, y1, y2, y3, y4, y5, y6], _, [v0, v1, v2, v3, v4, v5, v6], _ =>
    have g0 := hff 0 f0 rfl
    have g1 := hff 1 f1 rfl
    have g2 := hff 2 f2 rfl
    have g3 := hff 3 f3 rfl
    have g4 := hff 4 f4 rfl
    have g5 := hff 5 f5 rfl
    have g6 := hff 6 f6 rfl
    rw [o0, t0, ci] at g0
    rw [o1, t1, ci] at g1
    rw [o2, t2, ci] at g2
    rw [o3, t3, ci] at g3
    rw [o4, t4, cb] at g4
    rw [o5, t5, cb] at g5
    rw [o6, t6, cb] at g6
    simp at g0 g1 g2 g3 g4 g5 g6
    obtain ⟨n0, e0, _, _⟩ := DataW.trod_int Tryz.underlying3 g0
    obtain ⟨n1, e1, _, _⟩ := DataW.trod_int Tryz.underlying3 g1
    obtain ⟨n2, e2, _, _⟩ := DataW.trod_int Tryz.underlying3 g2
    obtain ⟨n3, e3, _, _⟩ := DataW.trod_int Tryz.underlying3 g3
    obtain ⟨n4, e4, _⟩ := DataW.trod_bool Tryz.underlying4 g4
    obtain ⟨n5, e5, _⟩ := DataW.trod_bool Tryz.underlying4 g5
    obtain ⟨n6, e6, _⟩ := DataW.trod_bool Tryz.underlying4 g6
    simp at e0 e1 e2 e3 e4 e5 e6
    subst e0 e1 e2 e3 e4 e5 e6
    exact ⟨n0, n1, n2, n3, n4, n5, n6, rfl⟩
end Go.Proofs.YtddliikhjilngaaGreatDoor
