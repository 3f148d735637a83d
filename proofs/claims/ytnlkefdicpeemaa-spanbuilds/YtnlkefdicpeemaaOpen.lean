/- A slice of spans that comes in, opened. -/
import Derived.Test.YtnlkefdicpeemaaBase
import Derived.Test.YtnlkefdicpeemaaRows
import Derived.Deep.Slices
import Derived.ProofKit
import Derived.OpenShut
namespace Go.Proofs.Ytnlkefdicpeemaa
open Go.RowKit Go.Deep Go.ChangeShapes Go.WideShapes

/-- The numbers of spans are numbers of their types. -/
def SpOk (l : List Sp) : Prop := ∀ s, s ∈ l → -2147483648 ≤ s.f ∧ s.f ≤ 2147483647 ∧ -2147483648 ≤ s.t ∧ s.t ≤ 2147483647

theorem span_fields : ∃ f0 f1 f2 : Field, Try.prog.underlying 37 = some (.struct #[f0, f1, f2]) ∧ f0.offset = 0 ∧ f1.offset = 1 ∧ f2.offset = 2 ∧ f0.type = 21 ∧ f1.type = 21 ∧ f2.type = 3 := by
  refine ⟨_, _, _, Try.underlying37, rfl, rfl, rfl, rfl, rfl, rfl⟩

theorem spans_of {H : Type} {enc : TypeId × Value → H} {W : World} {fuel : Nat} {a : Option Addr} {len cap : Nat} {x : DataW H × List MemPlace}
    (hf : DataW.trod enc Try.prog W 0 (fun _ => true) true fuel 22 [.slice a len cap] = some x) : ∃ zs : List Sp, Tab W (.slice a len cap) zs ∧ SpOk zs := by
  rcases open_slice Try.underlying22 hf with ⟨hcs, _⟩ | ⟨ad, l9, c9, m, n, D, Pl, hcs, _, hl, _, hm, _, hx⟩
  · simp at hcs
    obtain ⟨rfl, rfl, rfl⟩ := hcs
    exact ⟨[], Tab.nil _ _ _, fun s hs => by cases hs⟩
  · simp at hcs
    obtain ⟨rfl, rfl, rfl⟩ := hcs
    simp only [if_true] at hm
    subst hm
    obtain ⟨f0, f1, f2, hu, o0, o1, o2, t0, t1, t2⟩ := span_fields
    have c0 : Try.prog.cellsOf 21 = 1 := by kernel_rfl
    have c2 : Try.prog.cellsOf 3 = 1 := by kernel_rfl
    have ce : Try.prog.cellsOf 37 = 3 := by kernel_rfl
    have each : ∀ i, i < m → ∃ s : Sp, (W.cell? (ad.add (i * 3)) = some (.int .i32 s.f) ∧ W.cell? (ad.add (i * 3 + 1)) = some (.int .i32 s.t) ∧ W.cell? (ad.add (i * 3 + 2)) = some (.int .i64 s.h)) ∧ -2147483648 ≤ s.f ∧ s.f ≤ 2147483647 ∧ -2147483648 ≤ s.t ∧ s.t ≤ 2147483647 := by
      intro i hi
      obtain ⟨cs', h1, h2⟩ := hx i hi
      rw [ce] at h1
      obtain ⟨_, hlen, hcell⟩ := World.cells?_some h1
      obtain ⟨xs, k, hk, hxy, _, hxl, hff⟩ := DataW.trod_struct hu h2
      match xs, hxl, cs', hlen with
      | [y0, y1, y2], _, [v0, v1, v2], _ =>
        have g0 := hff 0 f0 rfl
        have g1 := hff 1 f1 rfl
        have g2 := hff 2 f2 rfl
        rw [o0, t0, c0] at g0
        rw [o1, t1, c0] at g1
        rw [o2, t2, c2] at g2
        simp at g0 g1 g2
        obtain ⟨n0, e0, _, w0⟩ := DataW.trod_int Try.underlying21 g0
        obtain ⟨n1, e1, _, w1⟩ := DataW.trod_int Try.underlying21 g1
        obtain ⟨n2, e2, _, _⟩ := DataW.trod_int Try.underlying3 g2
        simp at e0 e1 e2
        subst e0 e1 e2
        have d0 := hcell 0 (by omega)
        have d1 := hcell 1 (by omega)
        have d2 := hcell 2 (by omega)
        rw [add_add] at d0 d1 d2
        simp [Lit.wf, IntKind.min, IntKind.max, IntKind.signed, IntKind.bits] at w0 w1
        exact ⟨⟨n0, n1, n2⟩, ⟨by simpa using d0, by simpa using d1, by simpa using d2⟩, by dsimp only; omega, by dsimp only; omega, by dsimp only; omega, by dsimp only; omega⟩
    have ne : Inhabited Sp := ⟨sp0⟩
    obtain ⟨sf, hsf⟩ := choose_lt each
    refine ⟨(List.range len).map sf, ⟨some ad, m, by simp, fun h0 => ?_⟩, fun s hs => ?_⟩
    · obtain ⟨b, off, spot⟩ := ad
      simp at h0
      have hspot : spot = none := by
        have := (hsf 0 (by omega)).1.1
        simpa [Addr.add] using World.cell?_spot this
      subst hspot
      refine ⟨b, off, rfl, fun j hj => ?_⟩
      simp at hj
      have hg : ((List.range len).map sf).getD j sp0 = sf j := by simp [List.getD, hj]
      rw [hg]
      have hadd : ∀ q, (⟨b, off, none⟩ : Addr).add q = ⟨b, off + q, none⟩ := fun q => by unfold Addr.add; split <;> simp_all
      obtain ⟨e1, e2, e3⟩ := (hsf j (by omega)).1
      rw [hadd] at e1 e2 e3
      exact ⟨e1, by rw [Nat.add_assoc]; exact e2, by rw [Nat.add_assoc]; exact e3⟩
    · simp at hs
      obtain ⟨j, hj, rfl⟩ := hs
      exact (hsf j (by omega)).2
end Go.Proofs.Ytnlkefdicpeemaa
