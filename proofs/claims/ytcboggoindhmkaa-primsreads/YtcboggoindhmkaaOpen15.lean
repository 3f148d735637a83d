/- An element that comes in, and a slice of some, opened. -/
import Derived.Test.YtcboggoindhmkaaEl
import Derived.Test.YtcboggoindhmkaaRows
import Derived.Deep.Slices
import Derived.ProofKit
import Derived.OpenShut
namespace Go.Proofs.Ytcboggoindhmkaa
open Go.RowKit Go.Deep Go.ChangeShapes Go.WideShapes

theorem el_fields : ∃ f0 f1 f2 f3 f4 : Field, Try.prog.underlying 26 = some (.struct #[f0, f1, f2, f3, f4]) ∧ f0.offset = 0 ∧ f1.offset = 1 ∧ f2.offset = 2 ∧ f3.offset = 3 ∧ f4.offset = 4 ∧ f0.type = 3 ∧ f1.type = 4 ∧ f2.type = 3 ∧ f3.type = 9 ∧ f4.type = 24 := by
  refine ⟨_, _, _, _, _, Try.underlying26, rfl, rfl, rfl, rfl, rfl, rfl, rfl, rfl, rfl, rfl⟩
theorem els_at_of {W : World} {g : Nat} : ∀ (l : List El) (off : Nat), (∀ i, i < l.length → ∃ a0 a1 a2 a3 a4, W.cell? ⟨g, off + i * 5, none⟩ = some a0 ∧ W.cell? ⟨g, off + i * 5 + 1, none⟩ = some a1 ∧ W.cell? ⟨g, off + i * 5 + 2, none⟩ = some a2 ∧ W.cell? ⟨g, off + i * 5 + 3, none⟩ = some a3 ∧ W.cell? ⟨g, off + i * 5 + 4, none⟩ = some a4 ∧ ElV W (l.getD i el0) (.agg #[a0, a1, a2, a3, a4])) → ElV.L W l g off
  | [], _, _ => by simp only [ElV.L]
  | e :: t, off, h => by
    simp only [ElV.L]
    refine ⟨by simpa using h 0 (by simp), els_at_of t (off + 5) fun i hi => ?_⟩
    have := h (i + 1) (by simpa using hi)
    rw [show off + (i + 1) * 5 = off + 5 + i * 5 by omega] at this
    simpa using this
theorem els_of_each {W : World} {ad : Option Addr} {len cap : Nat} (hl : len ≤ maxLen) (h : len = 0 ∨ ∃ a : Addr, ad = some a ∧ ∀ i, i < len → ∃ (e : El) (a0 a1 a2 a3 a4 : Value), W.cell? (a.add (i * 5)) = some a0 ∧ W.cell? (a.add (i * 5 + 1)) = some a1 ∧ W.cell? (a.add (i * 5 + 2)) = some a2 ∧ W.cell? (a.add (i * 5 + 3)) = some a3 ∧ W.cell? (a.add (i * 5 + 4)) = some a4 ∧ ElV W e (.agg #[a0, a1, a2, a3, a4])) : ∃ l : List El, len = l.length ∧ ElsV W (.slice ad len cap) l := by
  have hl' : len ≤ 9223372036854775807 := by unfold maxLen at hl; omega
  by_cases h0 : len = 0
  · subst h0
    exact ⟨[], rfl, ad, cap, rfl, Nat.zero_le _, .inl rfl⟩
  · obtain ⟨a, rfl, hx⟩ := h.resolve_left h0
    have ne : Inhabited El := ⟨el0⟩
    obtain ⟨f, hf⟩ := choose_lt hx
    refine ⟨(List.range len).map f, by simp, some a, cap, by simp, by simpa using hl', .inr ?_⟩
    obtain ⟨b, off, spot⟩ := a
    have hspot : spot = none := by
      obtain ⟨a0, _, _, _, _, hc, _⟩ := hf 0 (by omega)
      simpa [Addr.add] using World.cell?_spot hc
    subst hspot
    have hadd : ∀ q, (⟨b, off, none⟩ : Addr).add q = ⟨b, off + q, none⟩ := fun q => by unfold Addr.add; split <;> simp_all
    refine ⟨b, off, rfl, els_at_of _ _ fun i hi => ?_⟩
    simp at hi
    have hg : ((List.range len).map f).getD i el0 = f i := by simp [List.getD, hi]
    rw [hg]
    obtain ⟨a0, a1, a2, a3, a4, e0, e1, e2, e3, e4, hv⟩ := hf i hi
    rw [hadd] at e0 e1 e2 e3 e4
    exact ⟨a0, a1, a2, a3, a4, e0, by rw [Nat.add_assoc]; exact e1, by rw [Nat.add_assoc]; exact e2, by rw [Nat.add_assoc]; exact e3, by rw [Nat.add_assoc]; exact e4, hv⟩
section
variable {H : Type} {enc : TypeId × Value → H} {W : World}
/-- A slice of elements, over what its elements are. -/
theorem els_of_step {fuel : Nat} (ih : ∀ m, m < fuel → ∀ cs (x : DataW H × List MemPlace), DataW.trod enc Try.prog W 0 (fun _ => true) true m 26 cs = some x → ∃ (e : El) (a0 a1 a2 a3 a4 : Value), cs = [a0, a1, a2, a3, a4] ∧ ElV W e (.agg #[a0, a1, a2, a3, a4]))
    {cs : List Value} {x : DataW H × List MemPlace} (h : DataW.trod enc Try.prog W 0 (fun _ => true) true fuel 24 cs = some x) : ∃ ad len cap, cs = [.slice ad len cap] ∧ ∃ l : List El, len = l.length ∧ ElsV W (.slice ad len cap) l := by
  have ce : Try.prog.cellsOf 26 = 5 := by kernel_rfl
  rcases DataW.trod_slice Try.underlying24 h with ⟨hcs, _⟩ | ⟨a, len, cap, elems, rest, n, hfu, hcs, _, _, hl, hm, hlen, hel, _, _⟩
  · exact ⟨none, 0, 0, hcs, els_of_each (Nat.zero_le _) (.inl rfl)⟩
  · refine ⟨some a, len, cap, hcs, els_of_each (Nat.le_trans hl hm) (.inr ⟨a, rfl, fun i hi => ?_⟩)⟩
    have h1 := hel i hi
    rw [ce, List.getElem?_eq_getElem (by omega)] at h1
    obtain ⟨cs', hc', ht'⟩ := Option.bind_eq_some_iff.1 h1
    obtain ⟨e, a0, a1, a2, a3, a4, rfl, hv⟩ := ih n (by omega) cs' _ ht'
    obtain ⟨_, _, hcell⟩ := World.cells?_some hc'
    have d0 := hcell 0 (by omega)
    have d1 := hcell 1 (by omega)
    have d2 := hcell 2 (by omega)
    have d3 := hcell 3 (by omega)
    have d4 := hcell 4 (by omega)
    rw [add_add] at d0 d1 d2 d3 d4
    exact ⟨e, a0, a1, a2, a3, a4, by simpa using d0, by simpa using d1, by simpa using d2, by simpa using d3, by simpa using d4, hv⟩
theorem el_of : ∀ (fuel : Nat) (cs : List Value) (x : DataW H × List MemPlace), DataW.trod enc Try.prog W 0 (fun _ => true) true fuel 26 cs = some x → ∃ (e : El) (a0 a1 a2 a3 a4 : Value), cs = [a0, a1, a2, a3, a4] ∧ ElV W e (.agg #[a0, a1, a2, a3, a4]) := by
  intro fuel
  induction fuel using Nat.strongRecOn with
  | _ fuel ih =>
    intro cs x h
    obtain ⟨f0, f1, f2, f3, f4, hu, o0, o1, o2, o3, o4, t0, t1, t2, t3, t4⟩ := el_fields
    have ci : Try.prog.cellsOf 3 = 1 := by kernel_rfl
    have cb : Try.prog.cellsOf 4 = 1 := by kernel_rfl
    have cS : Try.prog.cellsOf 9 = 1 := by kernel_rfl
    have cl : Try.prog.cellsOf 24 = 1 := by kernel_rfl
    have ce : Try.prog.cellsOf 26 = 5 := by kernel_rfl
    obtain ⟨xs, k, hk, _, hlen, hxl, hff⟩ := DataW.trod_struct hu h
    rw [ce] at hlen
    match xs, hxl, cs, hlen with
    | [y0, y1, y2, y3, y4], _, [v0, v1, v2, v3, v4], _ =>
      have g0 := hff 0 f0 rfl
      have g1 := hff 1 f1 rfl
      have g2 := hff 2 f2 rfl
      have g3 := hff 3 f3 rfl
      have g4 := hff 4 f4 rfl
      rw [o0, t0, ci] at g0
      rw [o1, t1, cb] at g1
      rw [o2, t2, ci] at g2
      rw [o3, t3, cS] at g3
      rw [o4, t4, cl] at g4
      simp at g0 g1 g2 g3 g4
      obtain ⟨n0, e0, _, _⟩ := DataW.trod_int Try.underlying3 g0
      obtain ⟨n1, e1, _⟩ := DataW.trod_bool Try.underlying4 g1
      obtain ⟨n2, e2, _, _⟩ := DataW.trod_int Try.underlying3 g2
      obtain ⟨n3, e3, _, _⟩ := DataW.trod_string Try.underlying9 g3
      obtain ⟨ad, len, cap, e4, l, hl, hV⟩ := els_of_step (fun m hm => ih m (by omega)) g4
      simp at e0 e1 e2 e3 e4
      subst e0 e1 e2 e3 e4 hl
      refine ⟨.mk n0 n1 n2 n3 l, _, _, _, _, _, rfl, ?_⟩
      obtain ⟨ad', cap', hv, hn, hc⟩ := hV
      cases hv
      simp only [ElV]
      exact ⟨ad, cap, rfl, hn, hc⟩
theorem els_of {fuel : Nat} {ad : Option Addr} {len cap : Nat} {x : DataW H × List MemPlace} (h : DataW.trod enc Try.prog W 0 (fun _ => true) true fuel 24 [.slice ad len cap] = some x) : ∃ l : List El, ElsV W (.slice ad len cap) l := by
  obtain ⟨ad', len', cap', e, l, _, hV⟩ := els_of_step (fun m _ => el_of m) h
  simp at e
  obtain ⟨rfl, rfl, rfl⟩ := e
  exact ⟨l, hV⟩
end
end Go.Proofs.Ytcboggoindhmkaa
