/- A filter that comes in, opened. (By gen_op.py.) -/
import Derived.Test.YthbldkkjjjmegaaGreatDoorM03
import Derived.Test.YthbldkkjjjmegaaGreatDoorM04
import Derived.Test.YthbldkkjjjmegaaGreatDoorRows
import Derived.Deep.Slices
import Derived.SliceStrings
import Derived.ProofKit
import Derived.OpenShut
namespace Go.Proofs.YthbldkkjjjmegaaGreatDoor
set_option maxRecDepth 100000
open Go.RowKit Go.Deep Go.ChangeShapes Go.WideShapes

theorem add_off24 (b off q : Nat) : (⟨b, off, none⟩ : Addr).add q = ⟨b, off + q, none⟩ := by unfold Addr.add; split <;> simp_all
theorem pcs_fields : ∃ f0 f1 f2 f3 f4 : Field, Tryz.prog.underlying 24 = some (.struct #[f0, f1, f2, f3, f4]) ∧ (f0.offset = 0 ∧ f1.offset = 1 ∧ f2.offset = 2 ∧ f3.offset = 3 ∧ f4.offset = 4) ∧ f0.type = 9 ∧ f1.type = 22 ∧ f2.type = 9 ∧ f3.type = 4 ∧ f4.type = 4 := by
  refine ⟨_, _, _, _, _, Tryz.underlying24, ⟨rfl, rfl, rfl, rfl, rfl⟩, rfl, rfl, rfl, rfl, rfl⟩
theorem fil_fields : ∃ f0 f1 f2 f3 f4 f5 f6 : Field, Tryz.prog.underlying 27 = some (.struct #[f0, f1, f2, f3, f4, f5, f6]) ∧ (f0.offset = 0 ∧ f1.offset = 1 ∧ f2.offset = 2 ∧ f3.offset = 3 ∧ f4.offset = 8 ∧ f5.offset = 9 ∧ f6.offset = 10) ∧ f0.type = 3 ∧ f1.type = 9 ∧ f2.type = 9 ∧ f3.type = 24 ∧ f4.type = 9 ∧ f5.type = 4 ∧ f6.type = 25 := by
  refine ⟨_, _, _, _, _, _, _, Tryz.underlying27, ⟨rfl, rfl, rfl, rfl, rfl, rfl, rfl⟩, rfl, rfl, rfl, rfl, rfl, rfl, rfl⟩
theorem fl_at_of {W : World} {g : Nat} : ∀ (l : List Fl) (off : Nat), (∀ i, i < l.length → ∃ a0 a1 a2 a3 a4 a5 a6 a7 a8 a9 a10, W.cell? ⟨g, off + i * 11, none⟩ = some a0 ∧ W.cell? ⟨g, off + i * 11 + 1, none⟩ = some a1 ∧ W.cell? ⟨g, off + i * 11 + 2, none⟩ = some a2 ∧ W.cell? ⟨g, off + i * 11 + 3, none⟩ = some a3 ∧ W.cell? ⟨g, off + i * 11 + 4, none⟩ = some a4 ∧ W.cell? ⟨g, off + i * 11 + 5, none⟩ = some a5 ∧ W.cell? ⟨g, off + i * 11 + 6, none⟩ = some a6 ∧ W.cell? ⟨g, off + i * 11 + 7, none⟩ = some a7 ∧ W.cell? ⟨g, off + i * 11 + 8, none⟩ = some a8 ∧ W.cell? ⟨g, off + i * 11 + 9, none⟩ = some a9 ∧ W.cell? ⟨g, off + i * 11 + 10, none⟩ = some a10 ∧ FlV W (l.getD i fl0) (.agg #[a0, a1, a2, a3, a4, a5, a6, a7, a8, a9, a10])) → FlV.L W l g off
  | [], _, _ => by simp only [FlV.L]
  | e :: t, off, h => by
    simp only [FlV.L]
    refine ⟨by simpa using h 0 (by simp), fl_at_of t (off + 11) fun i hi => ?_⟩
    have := h (i + 1) (by simpa using hi)
    rw [show off + (i + 1) * 11 = off + 11 + i * 11 by omega] at this
    simpa using this
theorem fls_of_each {W : World} {ad : Option Addr} {len cap : Nat} (hl : len ≤ maxLen) (h : len = 0 ∨ ∃ a : Addr, ad = some a ∧ ∀ i, i < len → ∃ (e : Fl) (a0 a1 a2 a3 a4 a5 a6 a7 a8 a9 a10 : Value), W.cell? (a.add (i * 11)) = some a0 ∧ W.cell? (a.add (i * 11 + 1)) = some a1 ∧ W.cell? (a.add (i * 11 + 2)) = some a2 ∧ W.cell? (a.add (i * 11 + 3)) = some a3 ∧ W.cell? (a.add (i * 11 + 4)) = some a4 ∧ W.cell? (a.add (i * 11 + 5)) = some a5 ∧ W.cell? (a.add (i * 11 + 6)) = some a6 ∧ W.cell? (a.add (i * 11 + 7)) = some a7 ∧ W.cell? (a.add (i * 11 + 8)) = some a8 ∧ W.cell? (a.add (i * 11 + 9)) = some a9 ∧ W.cell? (a.add (i * 11 + 10)) = some a10 ∧ FlV W e (.agg #[a0, a1, a2, a3, a4, a5, a6, a7, a8, a9, a10])) : ∃ l : List Fl, len = l.length ∧ FlsV W (.slice ad len cap) l := by
  have hl' : len ≤ 9223372036854775807 := by unfold maxLen at hl; omega
  by_cases h0 : len = 0
  · subst h0
    exact ⟨[], rfl, ad, cap, rfl, Nat.zero_le _, .inl rfl⟩
  · obtain ⟨a, rfl, hx⟩ := h.resolve_left h0
    have ne : Inhabited Fl := ⟨fl0⟩
    obtain ⟨f, hf⟩ := choose_lt hx
    refine ⟨(List.range len).map f, by simp, some a, cap, by simp, by simpa using hl', .inr ?_⟩
    obtain ⟨b, off, spot⟩ := a
    have hspot : spot = none := by
      obtain ⟨a0, _, _, _, _, _, _, _, _, _, _, hc, _⟩ := hf 0 (by omega)
      simpa [Addr.add] using World.cell?_spot hc
    subst hspot
    refine ⟨b, off, rfl, fl_at_of _ _ fun i hi => ?_⟩
    simp at hi
    have hg : ((List.range len).map f).getD i fl0 = f i := by simp [List.getD, hi]
    rw [hg]
    obtain ⟨a0, a1, a2, a3, a4, a5, a6, a7, a8, a9, a10, e0, e1, e2, e3, e4, e5, e6, e7, e8, e9, e10, hv⟩ := hf i hi
    rw [add_off24] at e0 e1 e2 e3 e4 e5 e6 e7 e8 e9 e10
    exact ⟨a0, a1, a2, a3, a4, a5, a6, a7, a8, a9, a10, e0, by rw [Nat.add_assoc]; exact e1, by rw [Nat.add_assoc]; exact e2, by rw [Nat.add_assoc]; exact e3, by rw [Nat.add_assoc]; exact e4, by rw [Nat.add_assoc]; exact e5, by rw [Nat.add_assoc]; exact e6, by rw [Nat.add_assoc]; exact e7, by rw [Nat.add_assoc]; exact e8, by rw [Nat.add_assoc]; exact e9, by rw [Nat.add_assoc]; exact e10, hv⟩
section
variable {H : Type} {enc : TypeId × Value → H} {W : World}
theorem txs_of24 {fuel : Nat} {cs : List Value} {x : DataW H × List MemPlace} (h : DataW.trod enc Tryz.prog W 0 (fun _ => true) true fuel 22 cs = some x) : ∃ (ad : Option Addr) (cap : Nat) (ss : List ByteArray), cs = [.slice ad ss.length cap] ∧ TxC W ad ss := by
  rcases open_strings Tryz.underlying22 Tryz.underlying9 (by kernel_rfl) h with ⟨hcs, _⟩ | ⟨a, len, cap, zs, hcs, _, hl, hm, hz, _, hcell, _⟩
  · exact ⟨none, 0, [], hcs, TxC.nil _ _⟩
  · have hz' : zs.length = cap := by simpa using hz
    have hlen : (zs.take len).length = len := by simp; omega
    refine ⟨some a, cap, zs.take len, by rw [hlen]; exact hcs, by rw [hlen]; unfold maxLen at hm; omega, ?_⟩
    rw [hlen]
    by_cases hi : len = 0
    · exact .inl hi
    · obtain ⟨b, off, spot⟩ := a
      have h0 := hcell 0 (by omega)
      have hspot : spot = none := by simpa [Addr.add] using World.cell?_spot h0
      subst hspot
      refine .inr ⟨b, off, rfl, fun j hj => ?_⟩
      have hc := hcell j (by omega)
      rw [add_off24] at hc
      rw [hc]
      simp [List.getD, hj]
      rfl
set_option maxRecDepth 100000 in
theorem pcs_of24 {fuel : Nat} {cs : List Value} {x : DataW H × List MemPlace} (h : DataW.trod enc Tryz.prog W 0 (fun _ => true) true fuel 24 cs = some x) : ∃ (i : ByteArray) (ad : Option Addr) (cap : Nat) (l : List ByteArray) (f : ByteArray) (hi hf : Bool), cs = [.string i, .slice ad l.length cap, .string f, .bool hi, .bool hf] ∧ TxC W ad l := by
  obtain ⟨f0, f1, f2, f3, f4, hu, ⟨o0, o1, o2, o3, o4⟩, t0, t1, t2, t3, t4⟩ := pcs_fields
  have cS : Tryz.prog.cellsOf 9 = 1 := by kernel_rfl
  have cB : Tryz.prog.cellsOf 4 = 1 := by kernel_rfl
  have cL : Tryz.prog.cellsOf 22 = 1 := by kernel_rfl
  have ce : Tryz.prog.cellsOf 24 = 5 := by kernel_rfl
  obtain ⟨xs, k, hk, _, hlen, hxl, hff⟩ := DataW.trod_struct hu h
  rw [ce] at hlen
  match xs, hxl, cs, hlen with
  | [y0, y1, y2, y3, y4], _, [v0, v1, v2, v3, v4], _ =>
    have g0 := hff 0 f0 rfl
    have g1 := hff 1 f1 rfl
    have g2 := hff 2 f2 rfl
    have g3 := hff 3 f3 rfl
    have g4 := hff 4 f4 rfl
    rw [o0, t0, cS] at g0
    rw [o1, t1, cL] at g1
    rw [o2, t2, cS] at g2
    rw [o3, t3, cB] at g3
    rw [o4, t4, cB] at g4
    simp at g0 g1 g2 g3 g4
    obtain ⟨n0, e0, _, _⟩ := DataW.trod_string Tryz.underlying9 g0
    obtain ⟨ad, cap, l, e1, ht⟩ := txs_of24 g1
    obtain ⟨n2, e2, _, _⟩ := DataW.trod_string Tryz.underlying9 g2
    obtain ⟨n3, e3, _⟩ := DataW.trod_bool Tryz.underlying4 g3
    obtain ⟨n4, e4, _⟩ := DataW.trod_bool Tryz.underlying4 g4
    simp at e0 e1 e2 e3 e4
    subst e0 e1 e2 e3 e4
    exact ⟨n0, ad, cap, l, n2, n3, n4, rfl, ht⟩
/-- A slice of filters, over what its filters are. -/
theorem fls_of_step {fuel : Nat} (ih : ∀ m, m < fuel → ∀ cs (x : DataW H × List MemPlace), DataW.trod enc Tryz.prog W 0 (fun _ => true) true m 27 cs = some x → ∃ (e : Fl) (a0 a1 a2 a3 a4 a5 a6 a7 a8 a9 a10 : Value), cs = [a0, a1, a2, a3, a4, a5, a6, a7, a8, a9, a10] ∧ FlV W e (.agg #[a0, a1, a2, a3, a4, a5, a6, a7, a8, a9, a10]))
    {cs : List Value} {x : DataW H × List MemPlace} (h : DataW.trod enc Tryz.prog W 0 (fun _ => true) true fuel 25 cs = some x) : ∃ ad len cap, cs = [.slice ad len cap] ∧ ∃ l : List Fl, len = l.length ∧ FlsV W (.slice ad len cap) l := by
  have ce : Tryz.prog.cellsOf 27 = 11 := by kernel_rfl
  rcases DataW.trod_slice Tryz.underlying25 h with ⟨hcs, _⟩ | ⟨a, len, cap, elems, rest, n, hfu, hcs, _, _, hl, hm, hlen, hel, _, _⟩
  · exact ⟨none, 0, 0, hcs, fls_of_each (Nat.zero_le _) (.inl rfl)⟩
  · refine ⟨some a, len, cap, hcs, fls_of_each (Nat.le_trans hl hm) (.inr ⟨a, rfl, fun i hi => ?_⟩)⟩
    have h1 := hel i hi
    rw [ce, List.getElem?_eq_getElem (by omega)] at h1
    obtain ⟨cs', hc', ht'⟩ := Option.bind_eq_some_iff.1 h1
    obtain ⟨e, a0, a1, a2, a3, a4, a5, a6, a7, a8, a9, a10, rfl, hv⟩ := ih n (by omega) cs' _ ht'
    obtain ⟨_, _, hcell⟩ := World.cells?_some hc'
    have d0 := hcell 0 (by omega)
    have d1 := hcell 1 (by omega)
    have d2 := hcell 2 (by omega)
    have d3 := hcell 3 (by omega)
    have d4 := hcell 4 (by omega)
    have d5 := hcell 5 (by omega)
    have d6 := hcell 6 (by omega)
    have d7 := hcell 7 (by omega)
    have d8 := hcell 8 (by omega)
    have d9 := hcell 9 (by omega)
    have d10 := hcell 10 (by omega)
    rw [add_add] at d0 d1 d2 d3 d4 d5 d6 d7 d8 d9 d10
    exact ⟨e, a0, a1, a2, a3, a4, a5, a6, a7, a8, a9, a10, by simpa using d0, by simpa using d1, by simpa using d2, by simpa using d3, by simpa using d4, by simpa using d5, by simpa using d6, by simpa using d7, by simpa using d8, by simpa using d9, by simpa using d10, hv⟩
set_option maxRecDepth 100000 in
theorem fil_of : ∀ (fuel : Nat) (cs : List Value) (x : DataW H × List MemPlace), DataW.trod enc Tryz.prog W 0 (fun _ => true) true fuel 27 cs = some x → ∃ (e : Fl) (a0 a1 a2 a3 a4 a5 a6 a7 a8 a9 a10 : Value), cs = [a0, a1, a2, a3, a4, a5, a6, a7, a8, a9, a10] ∧ FlV W e (.agg #[a0, a1, a2, a3, a4, a5, a6, a7, a8, a9, a10]) := by
  intro fuel
  induction fuel using Nat.strongRecOn with
  | _ fuel ih =>
    intro cs x h
    obtain ⟨f0, f1, f2, f3, f4, f5, f6, hu, ⟨o0, o1, o2, o3, o4, o5, o6⟩, t0, t1, t2, t3, t4, t5, t6⟩ := fil_fields
    have ci : Tryz.prog.cellsOf 3 = 1 := by kernel_rfl
    have cb : Tryz.prog.cellsOf 4 = 1 := by kernel_rfl
    have cS : Tryz.prog.cellsOf 9 = 1 := by kernel_rfl
    have cP : Tryz.prog.cellsOf 24 = 5 := by kernel_rfl
    have cl : Tryz.prog.cellsOf 25 = 1 := by kernel_rfl
    have ce : Tryz.prog.cellsOf 27 = 11 := by kernel_rfl
    obtain ⟨xs, k, hk, _, hlen, hxl, hff⟩ := DataW.trod_struct hu h
    rw [ce] at hlen
    match xs, hxl, cs, hlen with
    | [y0, y1, y2, y3, y4, y5, y6], _, [v0, v1, v2, v3, v4, v5, v6, v7, v8, v9, v10], _ =>
      have g0 := hff 0 f0 rfl
      have g1 := hff 1 f1 rfl
      have g2 := hff 2 f2 rfl
      have g3 := hff 3 f3 rfl
      have g4 := hff 4 f4 rfl
      have g5 := hff 5 f5 rfl
      have g6 := hff 6 f6 rfl
      rw [o0, t0, ci] at g0
      rw [o1, t1, cS] at g1
      rw [o2, t2, cS] at g2
      rw [o3, t3, cP] at g3
      rw [o4, t4, cS] at g4
      rw [o5, t5, cb] at g5
      rw [o6, t6, cl] at g6
      simp at g0 g1 g2 g3 g4 g5 g6
      obtain ⟨n0, e0, _, _⟩ := DataW.trod_int Tryz.underlying3 g0
      obtain ⟨n1, e1, _, _⟩ := DataW.trod_string Tryz.underlying9 g1
      obtain ⟨n2, e2, _, _⟩ := DataW.trod_string Tryz.underlying9 g2
      obtain ⟨pi, pad, pcap, pl, pf, phi, phf, e3, pt⟩ := pcs_of24 g3
      obtain ⟨n4, e4, _, _⟩ := DataW.trod_string Tryz.underlying9 g4
      obtain ⟨n5, e5, _⟩ := DataW.trod_bool Tryz.underlying4 g5
      obtain ⟨ad, len, cap, e6, l, hl, hV⟩ := fls_of_step (fun m hm => ih m (by omega)) g6
      simp at e0 e1 e2 e3 e4 e5 e6
      obtain ⟨e30, e31, e32, e33, e34⟩ := e3
      subst e0 e1 e2 e30 e31 e32 e33 e34 e4 e5 e6 hl
      refine ⟨.mk n0 n1 n2 pi pl pf phi phf n4 n5 l, _, _, _, _, _, _, _, _, _, _, _, rfl, ?_⟩
      obtain ⟨ad', cap', hv, hn, hc⟩ := hV
      cases hv
      simp only [FlV]
      exact ⟨pad, pcap, ad, cap, rfl, pt, hn, hc⟩
end
end Go.Proofs.YthbldkkjjjmegaaGreatDoor
