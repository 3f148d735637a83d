/- What comes in: types, texts. -/
import Derived.Test.YtjjildpdelkejaaM05
import Derived.Test.YtjjildpdelkejaaRows
import Derived.Deep.Slices
import Derived.SliceStrings
import Derived.ProofKit
import Derived.OpenShut
import Derived.Test.YtjjildpdelkejaaM08
namespace Go.Proofs.Ytjjildpdelkejaa
open Go.RowKit Go.Deep Go.ChangeShapes Go.WideShapes

theorem add_off20 (b off q : Nat) : (⟨b, off, none⟩ : Addr).add q = ⟨b, off + q, none⟩ := by unfold Addr.add; split <;> simp_all
theorem attr_fields : ∃ f0 f1 f2 f3 f4 f5 : Field, Try.prog.underlying 65 = some (.struct #[f0, f1, f2, f3, f4, f5]) ∧ (f0.offset = 0 ∧ f1.offset = 1 ∧ f2.offset = 2 ∧ f3.offset = 3 ∧ f4.offset = 4 ∧ f5.offset = 5) ∧ f0.type = 9 ∧ f1.type = 9 ∧ f2.type = 3 ∧ f3.type = 3 ∧ f4.type = 4 ∧ f5.type = 4 := by
  refine ⟨_, _, _, _, _, _, Try.underlying65, ⟨rfl, rfl, rfl, rfl, rfl, rfl⟩, rfl, rfl, rfl, rfl, rfl, rfl⟩
section
variable {H : Type} {enc : TypeId × Value → H} {W : World}
set_option maxRecDepth 100000 in
theorem ty_of {fuel : Nat} {cs : List Value} {x : DataW H × List MemPlace} (h : DataW.trod enc Try.prog W 0 (fun _ => true) true fuel 65 cs = some x) : ∃ t : Ty, cs = [.string t.nam, .string t.abv, .int .i64 t.syn, .int .i64 t.rul, .bool t.sgl, .bool t.cls] := by
  obtain ⟨f0, f1, f2, f3, f4, f5, hu, ⟨o0, o1, o2, o3, o4, o5⟩, t0, t1, t2, t3, t4, t5⟩ := attr_fields
  have cS : Try.prog.cellsOf 9 = 1 := by kernel_rfl
  have cI : Try.prog.cellsOf 3 = 1 := by kernel_rfl
  have cB : Try.prog.cellsOf 4 = 1 := by kernel_rfl
  have ce : Try.prog.cellsOf 65 = 6 := by kernel_rfl
  obtain ⟨xs, k, hk, _, hlen, hxl, hff⟩ := DataW.trod_struct hu h
  rw [ce] at hlen
  match xs, hxl, cs, hlen with
  | [y0, y1, y2, y3, y4, y5], _, [v0, v1, v2, v3, v4, v5], _ =>
    have g0 := hff 0 f0 rfl
    have g1 := hff 1 f1 rfl
    have g2 := hff 2 f2 rfl
    have g3 := hff 3 f3 rfl
    have g4 := hff 4 f4 rfl
    have g5 := hff 5 f5 rfl
    rw [o0, t0, cS] at g0
    rw [o1, t1, cS] at g1
    rw [o2, t2, cI] at g2
    rw [o3, t3, cI] at g3
    rw [o4, t4, cB] at g4
    rw [o5, t5, cB] at g5
    simp at g0 g1 g2 g3 g4 g5
    obtain ⟨n0, e0, _, _⟩ := DataW.trod_string Try.underlying9 g0
    obtain ⟨n1, e1, _, _⟩ := DataW.trod_string Try.underlying9 g1
    obtain ⟨n2, e2, _⟩ := DataW.trod_int Try.underlying3 g2
    obtain ⟨n3, e3, _⟩ := DataW.trod_int Try.underlying3 g3
    obtain ⟨n4, e4, _⟩ := DataW.trod_bool Try.underlying4 g4
    obtain ⟨n5, e5, _⟩ := DataW.trod_bool Try.underlying4 g5
    simp at e0 e1 e2 e3 e4 e5
    subst e0 e1 e2 e3 e4 e5
    exact ⟨⟨n0, n1, n2, n3, n4, n5⟩, rfl⟩
theorem attrs_of {fuel : Nat} {cs : List Value} {x : DataW H × List MemPlace} (h : DataW.trod enc Try.prog W 0 (fun _ => true) true fuel 22 cs = some x) : ∃ v l, cs = [v] ∧ TysV W v l := by
  have ce : Try.prog.cellsOf 65 = 6 := by kernel_rfl
  rcases DataW.trod_slice Try.underlying22 h with ⟨hcs, _⟩ | ⟨a, len, cap, elems, rest, n, hfu, hcs, _, _, hl, hm, hlen, hel, _, _⟩
  · exact ⟨_, [], hcs, none, 0, rfl, ⟨Nat.le_refl _, Nat.zero_le _⟩, fun h => absurd h (Nat.lt_irrefl _)⟩
  · have hm' : len ≤ 9223372036854775807 := by unfold maxLen at hm; omega
    by_cases h0 : len = 0
    · subst h0
      exact ⟨_, [], hcs, _, _, rfl, ⟨Nat.zero_le _, Nat.zero_le _⟩, fun h => absurd h (Nat.lt_irrefl _)⟩
    · have hx : ∀ i, i < len → ∃ t : Ty, W.cell? (a.add (i * 6)) = some (.string t.nam) ∧ W.cell? (a.add (i * 6 + 1)) = some (.string t.abv) ∧ W.cell? (a.add (i * 6 + 2)) = some (.int .i64 t.syn) ∧ W.cell? (a.add (i * 6 + 3)) = some (.int .i64 t.rul) ∧ W.cell? (a.add (i * 6 + 4)) = some (.bool t.sgl) ∧ W.cell? (a.add (i * 6 + 5)) = some (.bool t.cls) := fun i hi => by
        have h1 := hel i hi
        rw [ce, List.getElem?_eq_getElem (by omega)] at h1
        obtain ⟨cs', hc', ht'⟩ := Option.bind_eq_some_iff.1 h1
        obtain ⟨t, rfl⟩ := ty_of ht'
        obtain ⟨_, _, hcell⟩ := World.cells?_some hc'
        have d0 := hcell 0 (by omega)
        have d1 := hcell 1 (by omega)
        have d2 := hcell 2 (by omega)
        have d3 := hcell 3 (by omega)
        have d4 := hcell 4 (by omega)
        have d5 := hcell 5 (by omega)
        rw [add_add] at d0 d1 d2 d3 d4 d5
        exact ⟨t, by simpa using d0, by simpa using d1, by simpa using d2, by simpa using d3, by simpa using d4, by simpa using d5⟩
      have ne : Inhabited Ty := ⟨ty0⟩
      obtain ⟨f, hf⟩ := choose_lt hx
      obtain ⟨b, off, spot⟩ := a
      have hspot : spot = none := by simpa [Addr.add] using World.cell?_spot (hf 0 (by omega)).1
      subst hspot
      refine ⟨_, (List.range len).map f, hcs, some ⟨b, off, none⟩, cap, by simp, ⟨by simpa using hl, by simpa using hm'⟩, fun _ => ⟨b, off, rfl, fun j hj => ?_⟩⟩
      simp at hj
      have hg : ((List.range len).map f).getD j ty0 = f j := by simp [List.getD, hj]
      rw [hg]
      have := hf j hj
      simp only [add_off20, ← Nat.add_assoc] at this
      exact this
theorem names_of {fuel : Nat} {cs : List Value} {x : DataW H × List MemPlace} (h : DataW.trod enc Try.prog W 0 (fun _ => true) true fuel 32 cs = some x) : ∃ v ss, cs = [v] ∧ TsV W v ss := by
  rcases open_strings Try.underlying32 Try.underlying9 (by kernel_rfl) h with ⟨hcs, _⟩ | ⟨a, len, cap, zs, hcs, _, hl, hm, hz, _, hcell, _⟩
  · exact ⟨_, [], hcs, none, 0, rfl, ⟨Nat.le_refl _, Nat.zero_le _⟩, fun h => absurd h (Nat.lt_irrefl _)⟩
  · have hz' : zs.length = cap := by simpa using hz
    have hlen : (zs.take len).length = len := by simp; omega
    refine ⟨_, zs.take len, hcs, some a, cap, by rw [hlen], ⟨by omega, by unfold maxLen at hm; omega⟩, fun hi => ?_⟩
    rw [hlen] at hi
    obtain ⟨b, off, spot⟩ := a
    have h0 := hcell 0 (by omega)
    have hspot : spot = none := by simpa [Addr.add] using World.cell?_spot h0
    subst hspot
    refine ⟨b, off, rfl, fun j hj => ?_⟩
    rw [hlen] at hj
    have hc := hcell j (by omega)
    rw [add_off20] at hc
    rw [hc]
    simp [List.getD, hj]
    rfl
end
end Go.Proofs.Ytjjildpdelkejaa
/- What comes in: schemas. -/
namespace Go.Proofs.Ytjjildpdelkejaa
open Go.RowKit Go.Deep Go.ChangeShapes Go.WideShapes

theorem class_fields : ∃ f0 f1 f2 f3 f4 : Field, Try.prog.underlying 49 = some (.struct #[f0, f1, f2, f3, f4]) ∧ (f0.offset = 0 ∧ f1.offset = 1 ∧ f2.offset = 2 ∧ f3.offset = 3 ∧ f4.offset = 4) ∧ f0.type = 9 ∧ f1.type = 9 ∧ f2.type = 4 ∧ f3.type = 32 ∧ f4.type = 32 := by
  refine ⟨_, _, _, _, _, Try.underlying49, ⟨rfl, rfl, rfl, rfl, rfl⟩, rfl, rfl, rfl, rfl, rfl⟩
theorem schema_fields : ∃ f0 f1 : Field, Try.prog.underlying 25 = some (.struct #[f0, f1]) ∧ (f0.offset = 0 ∧ f1.offset = 1) ∧ f0.type = 22 ∧ f1.type = 23 := by
  refine ⟨_, _, Try.underlying25, ⟨rfl, rfl⟩, rfl, rfl⟩
section
variable {H : Type} {enc : TypeId × Value → H} {W : World}
set_option maxRecDepth 100000 in
theorem class_of {fuel : Nat} {cs : List Value} {x : DataW H × List MemPlace} (h : DataW.trod enc Try.prog W 0 (fun _ => true) true fuel 49 cs = some x) : ∃ (c : Cl) (vm vy : Value), cs = [.string c.nam, .string c.abv, .bool c.bar, vm, vy] ∧ TsV W vm c.mus ∧ TsV W vy c.may := by
  obtain ⟨f0, f1, f2, f3, f4, hu, ⟨o0, o1, o2, o3, o4⟩, t0, t1, t2, t3, t4⟩ := class_fields
  have cS : Try.prog.cellsOf 9 = 1 := by kernel_rfl
  have cB : Try.prog.cellsOf 4 = 1 := by kernel_rfl
  have cL : Try.prog.cellsOf 32 = 1 := by kernel_rfl
  have ce : Try.prog.cellsOf 49 = 5 := by kernel_rfl
  obtain ⟨xs, k, hk, _, hlen, hxl, hff⟩ := DataW.trod_struct hu h
  rw [ce] at hlen
  match xs, hxl, cs, hlen with
  | [y0, y1, y2, y3, y4], _, [v0, v1, v2, v3, v4], _ =>
    have g0 := hff 0 f0 rfl
    have g1 := hff 1 f1 rfl
    have g2 := hff 2 f2 rfl
    have g3 := hff 3 f3 rfl
    have g4 := hff 4 f4 rfl
    rw [o0, t0, cS] at g0
    rw [o1, t1, cS] at g1
    rw [o2, t2, cB] at g2
    rw [o3, t3, cL] at g3
    rw [o4, t4, cL] at g4
    simp at g0 g1 g2 g3 g4
    obtain ⟨n0, e0, _, _⟩ := DataW.trod_string Try.underlying9 g0
    obtain ⟨n1, e1, _, _⟩ := DataW.trod_string Try.underlying9 g1
    obtain ⟨n2, e2, _⟩ := DataW.trod_bool Try.underlying4 g2
    obtain ⟨u3, s3, e3, h3⟩ := names_of g3
    obtain ⟨u4, s4, e4, h4⟩ := names_of g4
    simp at e0 e1 e2 e3 e4
    subst e0 e1 e2 e3 e4
    exact ⟨⟨n0, n1, n2, s3, s4⟩, _, _, rfl, h3, h4⟩
theorem classes_of {fuel : Nat} {cs : List Value} {x : DataW H × List MemPlace} (h : DataW.trod enc Try.prog W 0 (fun _ => true) true fuel 23 cs = some x) : ∃ v l, cs = [v] ∧ ClsV W v l := by
  have ce : Try.prog.cellsOf 49 = 5 := by kernel_rfl
  rcases DataW.trod_slice Try.underlying23 h with ⟨hcs, _⟩ | ⟨a, len, cap, elems, rest, n, hfu, hcs, _, _, hl, hm, hlen, hel, _, _⟩
  · exact ⟨_, [], hcs, none, 0, rfl, ⟨Nat.le_refl _, Nat.zero_le _⟩, fun h => absurd h (Nat.lt_irrefl _)⟩
  · have hm' : len ≤ 9223372036854775807 := by unfold maxLen at hm; omega
    by_cases h0 : len = 0
    · subst h0
      exact ⟨_, [], hcs, _, _, rfl, ⟨Nat.zero_le _, Nat.zero_le _⟩, fun h => absurd h (Nat.lt_irrefl _)⟩
    · have hx : ∀ i, i < len → ∃ c : Cl, W.cell? (a.add (i * 5)) = some (.string c.nam) ∧ W.cell? (a.add (i * 5 + 1)) = some (.string c.abv) ∧ W.cell? (a.add (i * 5 + 2)) = some (.bool c.bar) ∧ (∃ vm, W.cell? (a.add (i * 5 + 3)) = some vm ∧ TsV W vm c.mus) ∧ (∃ vy, W.cell? (a.add (i * 5 + 4)) = some vy ∧ TsV W vy c.may) := fun i hi => by
        have h1 := hel i hi
        rw [ce, List.getElem?_eq_getElem (by omega)] at h1
        obtain ⟨cs', hc', ht'⟩ := Option.bind_eq_some_iff.1 h1
        obtain ⟨c, vm, vy, rfl, hvm, hvy⟩ := class_of ht'
        obtain ⟨_, _, hcell⟩ := World.cells?_some hc'
        have d0 := hcell 0 (by omega)
        have d1 := hcell 1 (by omega)
        have d2 := hcell 2 (by omega)
        have d3 := hcell 3 (by omega)
        have d4 := hcell 4 (by omega)
        rw [add_add] at d0 d1 d2 d3 d4
        exact ⟨c, by simpa using d0, by simpa using d1, by simpa using d2, ⟨vm, by simpa using d3, hvm⟩, ⟨vy, by simpa using d4, hvy⟩⟩
      have ne : Inhabited Cl := ⟨cl0⟩
      obtain ⟨f, hf⟩ := choose_lt hx
      obtain ⟨b, off, spot⟩ := a
      have hspot : spot = none := by simpa [Addr.add] using World.cell?_spot (hf 0 (by omega)).1
      subst hspot
      refine ⟨_, (List.range len).map f, hcs, some ⟨b, off, none⟩, cap, by simp, ⟨by simpa using hl, by simpa using hm'⟩, fun _ => ⟨b, off, rfl, fun j hj => ?_⟩⟩
      simp at hj
      have hg : ((List.range len).map f).getD j cl0 = f j := by simp [List.getD, hj]
      rw [hg]
      have := hf j hj
      simp only [add_off20, ← Nat.add_assoc] at this
      exact this
set_option maxRecDepth 100000 in
theorem schema_of {fuel : Nat} {cs : List Value} {x : DataW H × List MemPlace} (h : DataW.trod enc Try.prog W 0 (fun _ => true) true fuel 25 cs = some x) : ∃ va vc l m, cs = [va, vc] ∧ TysV W va l ∧ ClsV W vc m := by
  obtain ⟨f0, f1, hu, ⟨o0, o1⟩, t0, t1⟩ := schema_fields
  have cA : Try.prog.cellsOf 22 = 1 := by kernel_rfl
  have cC : Try.prog.cellsOf 23 = 1 := by kernel_rfl
  have ce : Try.prog.cellsOf 25 = 2 := by kernel_rfl
  obtain ⟨xs, k, hk, _, hlen, hxl, hff⟩ := DataW.trod_struct hu h
  rw [ce] at hlen
  match xs, hxl, cs, hlen with
  | [y0, y1], _, [v0, v1], _ =>
    have g0 := hff 0 f0 rfl
    have g1 := hff 1 f1 rfl
    rw [o0, t0, cA] at g0
    rw [o1, t1, cC] at g1
    simp at g0 g1
    obtain ⟨u0, l, e0, h0⟩ := attrs_of g0
    obtain ⟨u1, m, e1, h1⟩ := classes_of g1
    simp at e0 e1
    subst e0 e1
    exact ⟨_, _, l, m, rfl, h0, h1⟩
end
end Go.Proofs.Ytjjildpdelkejaa
