/- A name that comes in, and a part, opened. -/
import Derived.Test.YtpfpaponlmfofaaDoorNm18
import Derived.Test.YtpfpaponlmfofaaDoorRows
import Derived.Deep.Slices
import Derived.ProofKit
import Derived.OpenShut
namespace Go.Proofs.YtpfpaponlmfofaaDoor
set_option maxRecDepth 100000
open Go.RowKit Go.Deep Go.ChangeShapes Go.WideShapes

theorem add_off18 (b off q : Nat) : (⟨b, off, none⟩ : Addr).add q = ⟨b, off + q, none⟩ := by unfold Addr.add; split <;> simp_all
theorem pair_fields : ∃ f0 f1 : Field, Tryd.prog.underlying 53 = some (.struct #[f0, f1]) ∧ f0.offset = 0 ∧ f1.offset = 1 ∧ f0.type = 9 ∧ f1.type = 9 := by
  refine ⟨_, _, Tryd.underlying53, rfl, rfl, rfl, rfl⟩
section
variable {H : Type} {enc : TypeId × Value → H} {W : World}
theorem pair_of {fuel : Nat} {cs : List Value} {x : DataW H × List MemPlace} (h : DataW.trod enc Tryd.prog W 0 (fun _ => true) true fuel 53 cs = some x) : ∃ p : Pr, cs = [.string p.nam, .string p.val] := by
  obtain ⟨f0, f1, hu, o0, o1, t0, t1⟩ := pair_fields
  have cS : Tryd.prog.cellsOf 9 = 1 := by kernel_rfl
  have ce : Tryd.prog.cellsOf 53 = 2 := by kernel_rfl
  obtain ⟨xs, k, hk, _, hlen, hxl, hff⟩ := DataW.trod_struct hu h
  rw [ce] at hlen
  match xs, hxl, cs, hlen with
  | [y0, y1], _, [v0, v1], _ =>
    have g0 := hff 0 f0 rfl
    have g1 := hff 1 f1 rfl
    rw [o0, t0, cS] at g0
    rw [o1, t1, cS] at g1
    simp at g0 g1
    obtain ⟨n0, e0, _, _⟩ := DataW.trod_string Tryd.underlying9 g0
    obtain ⟨n1, e1, _, _⟩ := DataW.trod_string Tryd.underlying9 g1
    simp at e0 e1
    subst e0 e1
    exact ⟨⟨n0, n1⟩, rfl⟩
theorem rdn_of {fuel : Nat} {cs : List Value} {x : DataW H × List MemPlace} (h : DataW.trod enc Tryd.prog W 0 (fun _ => true) true fuel 40 cs = some x) : ∃ v r, cs = [v] ∧ PsV W v r := by
  have ce : Tryd.prog.cellsOf 53 = 2 := by kernel_rfl
  rcases DataW.trod_slice Tryd.underlying40 h with ⟨hcs, _⟩ | ⟨a, len, cap, elems, rest, n, hfu, hcs, _, _, hl, hm, hlen, hel, _, _⟩
  · exact ⟨_, [], hcs, PsV.nil _ _ _⟩
  · have hm' : len ≤ 9223372036854775807 := by unfold maxLen at hm; omega
    by_cases h0 : len = 0
    · subst h0
      exact ⟨_, [], hcs, PsV.nil _ _ _⟩
    · have hx : ∀ i, i < len → ∃ p : Pr, W.cell? (a.add (i * 2)) = some (.string p.nam) ∧ W.cell? (a.add (i * 2 + 1)) = some (.string p.val) := fun i hi => by
        have h1 := hel i hi
        rw [ce, List.getElem?_eq_getElem (by omega)] at h1
        obtain ⟨cs', hc', ht'⟩ := Option.bind_eq_some_iff.1 h1
        obtain ⟨p, rfl⟩ := pair_of ht'
        obtain ⟨_, _, hcell⟩ := World.cells?_some hc'
        have d0 := hcell 0 (by omega)
        have d1 := hcell 1 (by omega)
        rw [add_add] at d0 d1
        exact ⟨p, by simpa using d0, by simpa using d1⟩
      have ne : Inhabited Pr := ⟨pr0⟩
      obtain ⟨f, hf⟩ := choose_lt hx
      obtain ⟨b, off, spot⟩ := a
      have hspot : spot = none := by simpa [Addr.add] using World.cell?_spot (hf 0 (by omega)).1
      subst hspot
      refine ⟨_, (List.range len).map f, hcs, some ⟨b, off, none⟩, cap, by simp, by simpa using hm', fun _ => ⟨b, off, rfl, fun j hj => ?_⟩⟩
      simp at hj
      have hg : ((List.range len).map f).getD j pr0 = f j := by simp [List.getD, hj]
      rw [hg]
      have := hf j hj
      rw [add_off18, add_off18] at this
      exact ⟨this.1, by rw [Nat.add_assoc]; exact this.2⟩
theorem name_of {fuel : Nat} {cs : List Value} {x : DataW H × List MemPlace} (h : DataW.trod enc Tryd.prog W 0 (fun _ => true) true fuel 23 cs = some x) : ∃ v n, cs = [v] ∧ NmV W v n := by
  have ce : Tryd.prog.cellsOf 40 = 1 := by kernel_rfl
  rcases DataW.trod_slice Tryd.underlying23 h with ⟨hcs, _⟩ | ⟨a, len, cap, elems, rest, n, hfu, hcs, _, _, hl, hm, hlen, hel, _, _⟩
  · exact ⟨_, [], hcs, NmV.nil _ _ _⟩
  · have hm' : len ≤ 9223372036854775807 := by unfold maxLen at hm; omega
    by_cases h0 : len = 0
    · subst h0
      exact ⟨_, [], hcs, NmV.nil _ _ _⟩
    · have hx : ∀ i, i < len → ∃ r : List Pr, ∃ v, W.cell? (a.add i) = some v ∧ PsV W v r := fun i hi => by
        have h1 := hel i hi
        rw [ce, Nat.mul_one, List.getElem?_eq_getElem (by omega)] at h1
        obtain ⟨cs', hc', ht'⟩ := Option.bind_eq_some_iff.1 h1
        obtain ⟨v, r, rfl, hv⟩ := rdn_of ht'
        obtain ⟨_, _, hcell⟩ := World.cells?_some hc'
        have d0 := hcell 0 (by omega)
        rw [add_add] at d0
        exact ⟨r, v, by simpa using d0, hv⟩
      obtain ⟨f, hf⟩ := choose_lt hx
      obtain ⟨b, off, spot⟩ := a
      have hspot : spot = none := by
        obtain ⟨v, hv, _⟩ := hf 0 (by omega)
        simpa [Addr.add] using World.cell?_spot hv
      subst hspot
      refine ⟨_, (List.range len).map f, hcs, some ⟨b, off, none⟩, cap, by simp, by simpa using hl, by simpa using hm', fun _ => ⟨b, off, rfl, fun j hj => ?_⟩⟩
      simp at hj
      have hg : ((List.range len).map f).getD j [] = f j := by simp [List.getD, hj]
      rw [hg]
      obtain ⟨v, h1, h2⟩ := hf j hj
      rw [add_off18] at h1
      exact ⟨v, h1, h2⟩
end
end Go.Proofs.YtpfpaponlmfofaaDoor
