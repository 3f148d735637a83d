/- For every schema and every two slices of texts the law ClassesFit returns true, and all read as before. No condition. -/
import Derived.Test.YtjjildpdelkejaaM32
import Derived.Test.YtjjildpdelkejaaRows
import Derived.Test.YtjjildpdelkejaaM33
import Derived.ProofKit
import Derived.OpenShut
import Derived.ShutString
import Derived.ChangeOld
import Derived.SizedLaws
namespace Go.Proofs.Ytjjildpdelkejaa.prfClassesFit
open Go.ChangeShapes Go.WideShapes Go.ChangeAt Go.RowKit
open Go.ChangeMaps (open_string shut_string)
set_option linter.unusedVariables false

theorem own : ownKnob Try.prog.godebug = none := by kernel_rfl
theorem laidOut : laidOutB Try.prog = true := by kernel_rfl

set_option maxRecDepth 100000 in
theorem lifted (os : Os) (started : os.Started) (H : Type) (enc : TypeId × Value → H) :
    ReturnsInHanded {} Try.checked os 5 .any (Rows.classesFitSpec.pre6 enc Try.prog Try.f5 Rows.classesFitRow.domain false) (Rows.classesFitSpec.post enc Try.prog Try.f5 false true false false) := by
  refine returnsInHanded_of_change (C := Try.checked) own started (by kernel_rfl) Try.func5
    (ChangeSpec.witness6 (enc := enc) (C := Try.checked) false ⟨#[], #[.agg #[.slice none 0 0, .slice none 0 0], .slice none 0 0, .slice none 0 0], []⟩ 8 (by kernel_rfl) (by kernel_rfl) (by kernel_rfl) (by kernel_rfl)) ?_
  intro W base args ds gs before hval0 hW hcnd _
  have hval : ∀ (j : Nat) t v, Try.f5.params[j]? = some t → args[j]? = some v → Value.okWide Try.prog W .any base t v := hval0
  have hW' := hW
  obtain ⟨p, q, hA0, hV, rfl, hfz, hnd⟩ := hW
  have hA : DataW.TrodAll enc Try.prog W 0 (fun _ => true) true Try.f5.params.toList args.toList ds p := hA0
  rw [Try.params5] at hA hval
  obtain ⟨v0, vs0, d0, ds0, p0, q0, hargs, rfl, rfl, h0, r0⟩ := trodAll_cons hA
  obtain ⟨v1, vs1, d1, ds1, p1, q1, rfl, rfl, rfl, h1, r1⟩ := trodAll_cons r0
  obtain ⟨v2, vs2, d2, ds2, p2, q2, rfl, rfl, rfl, h2, r2⟩ := trodAll_cons r1
  obtain ⟨rfl, rfl, rfl⟩ := trodAll_nil r2
  obtain rfl : args = #[v0, v1, v2] := by cases args; simp_all
  obtain ⟨rfl, rfl⟩ := trodVars_none hV
  have k0 := h0
  have lt0 : ∀ x ∈ p0, x.block < W.heap.size := by obtain ⟨m, hm⟩ := k0; exact DataW.trod_lt m _ _ _ hm
  obtain ⟨va0, vc0, z0, y0, e0, w0, u0⟩ : ∃ va vc, ∃ (l : List Ty) (m : List Cl), v0 = .agg #[va, vc] ∧ TysV W va l ∧ ClsV W vc m := by
    obtain ⟨cs9, hv9, _⟩ := okWide_struct Try.underlying25 (hval 0 25 v0 rfl rfl)
    subst hv9
    obtain ⟨fuel, hf⟩ := h0
    obtain ⟨va, vc, l, m, hcs, h1, h2⟩ := schema_of hf
    have : cs9 = #[va, vc] := by cases cs9; simpa [Value.cells] using hcs
    subst this
    exact ⟨va, vc, l, m, rfl, h1, h2⟩
  subst e0
  have k1 := h1
  have lt1 : ∀ x ∈ p1, x.block < W.heap.size := by obtain ⟨m, hm⟩ := k1; exact DataW.trod_lt m _ _ _ hm
  obtain ⟨z1, w1⟩ : ∃ zs : List ByteArray, TsV W v1 zs := by
    obtain ⟨a9, len9, cap9, rfl⟩ := okWide_slice Try.underlying32 (hval 1 32 v1 rfl rfl)
    obtain ⟨fuel, hf⟩ := h1
    obtain ⟨v9, z9, hc9, h9⟩ := names_of hf
    have e9 : v9 = .slice a9 len9 cap9 := by simpa [Value.cells] using hc9.symm
    subst e9
    exact ⟨z9, h9⟩
  have k2 := h2
  have lt2 : ∀ x ∈ p2, x.block < W.heap.size := by obtain ⟨m, hm⟩ := k2; exact DataW.trod_lt m _ _ _ hm
  obtain ⟨z2, w2⟩ : ∃ zs : List ByteArray, TsV W v2 zs := by
    obtain ⟨a9, len9, cap9, rfl⟩ := okWide_slice Try.underlying32 (hval 2 32 v2 rfl rfl)
    obtain ⟨fuel, hf⟩ := h2
    obtain ⟨v9, z9, hc9, h9⟩ := names_of hf
    have e9 : v9 = .slice a9 len9 cap9 := by simpa [Value.cells] using hc9.symm
    subst e9
    exact ⟨z9, h9⟩
  clear hA0 hval0
  refine (fit21_law va0 vc0 v1 v2 z0 y0 z1 z2 W trivial w0 u0 w1 w2).mono fun e W' ⟨he, bel⟩ => ?_
  subst he
  exact ⟨_, rfl, _, _, _, [], _, [], hW', trodAll_mk1 (shut_bool Try.underlying4 _), (trodAll_cons_mk (Below.trod laidOut (by kernel_rfl) (of_decide_eq_true (by kernel_rfl)) k0 bel lt0) (trodAll_cons_mk (Below.trod laidOut (by kernel_rfl) (of_decide_eq_true (by kernel_rfl)) k1 bel lt1) (trodAll_cons_mk (Below.trod laidOut (by kernel_rfl) (of_decide_eq_true (by kernel_rfl)) k2 bel lt2) trodAll_mk0))), rfl, bel.frame _, fun h => by cases h⟩

theorem over : Rows.classesFitRow.holds Try.pinned (OpenSpec.ofChange Rows.classesFitSpec) :=
  OpenClaim.holds_of_wide 5 Try.f5 rfl rfl rfl rfl rfl rfl rfl ⟨rfl, rfl, rfl, rfl, rfl⟩ rfl rfl rfl rfl rfl (by kernel_rfl) Try.func5 (by kernel_rfl)
    (of_decide_eq_true (by kernel_rfl)) (by unfold Func.isWrapper; first | (rw [if_pos (by decide +kernel)]; kernel_rfl) | (rw [if_neg (by decide +kernel)]; exact ⟨rfl, rfl⟩))
    (fun os started H enc _ => lifted os started H enc)
end Go.Proofs.Ytjjildpdelkejaa.prfClassesFit
namespace Go.Proofs.Ytjjildpdelkejaa

/-- The statement. -/
theorem classesFit_holds : Rows.ClassesFitSaid := prfClassesFit.over
#print axioms classesFit_holds
end Go.Proofs.Ytjjildpdelkejaa
