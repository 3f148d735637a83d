/- The contracts of package oid, in the laws' form. -/
import Derived.Test.YtifalmpcjkpodaaDoorDe17
namespace Go.Proofs.YtifalmpcjkpodaaDoor
set_option maxRecDepth 100000
open Go.RowKit

theorem ocheck_any (v : Value) (l : List Int) (w : World) (_ : Ly w) (hn : l.length ≤ 5000) (hR : Row w v l) : Calls Tryd.prog 12 #[v] w fun e w' => e = .returned (.int .i64 (chkO l)) ∧ Below w.heap.size w w' :=
  (ocheck_w v l w (by omega) hR).mono fun _ _ ⟨he, hw⟩ => ⟨he, hw ▸ Below.refl _ _⟩
theorem oshow_any (v : Value) (l : List Int) (w : World) (hL : Ly w) (hn : l.length ≤ 5000) (hR : Row w v l) : Calls Tryd.prog 10 #[v] w fun e w' => e = .returned (.tuple #[.string (shS l), .int .i64 (chkO l)]) ∧ Below w.heap.size w w' :=
  oshow_w v l w hL (by omega) hR
theorem oparse_any (s : ByteArray) (w : World) (hL : Ly w) (hs : s.size ≤ 281474976710656) : Calls Tryd.prog 17 #[.string s] w fun e w' => ∃ v, e = .returned (.tuple #[v, .int .i64 (parE (nums s))]) ∧ Row w' v (parO (nums s)) ∧ Fits v ∧ Below w.heap.size w w' :=
  (oparse_w s w hL hs).mono fun _ _ ⟨v, he, hr, hb⟩ => ⟨v, he, hr.row, hr.fits, hb⟩
theorem ocmp_any (v1 v2 : Value) (l m : List Int) (w : World) (_ : Ly w) (hl : l.length ≤ 5000) (hm : m.length ≤ 5000) (h1 : Row w v1 l) (h2 : Row w v2 m) : Calls Tryd.prog 19 #[v1, v2] w fun e w' => e = .returned (.int .i64 (cmpL l m)) ∧ Below w.heap.size w w' :=
  (ocmp_w v1 v2 l m w (by omega) (by omega) h1 h2).mono fun _ _ ⟨he, hw⟩ => ⟨he, hw ▸ Below.refl _ _⟩
theorem runder_v (v1 v2 : Value) (l m : List Int) (w : World) (hl : l.length ≤ 5000) (hm : m.length ≤ 5000) (h1 : Row w v1 l) (h2 : Row w v2 m) (f1 : Fits v1) : Calls Tryd.prog 22 #[v1, v2] w fun e w' => e = .returned (.bool (underO l m)) ∧ Gr w w' := by
  obtain ⟨a, c, rfl⟩ := h1.shape
  obtain ⟨b, d, rfl⟩ := h2.shape
  exact runder_any a b l m c d w h1 h2 (f1 _ _ _ rfl) (by omega) (by omega)
theorem rabove_v (v : Value) (l : List Int) (w : World) (hl : l.length ≤ 5000) (h1 : Row w v l) (f1 : Fits v) : Calls Tryd.prog 16 #[v] w fun e w' => ∃ v', e = .returned v' ∧ Rn w.heap.size v' (aboveO l) w' ∧ Below w.heap.size w w' := by
  obtain ⟨a, c, rfl⟩ := h1.shape
  exact rabove_any a c l w h1 (f1 _ _ _ rfl) (by omega)
theorem same17_v (v1 v2 : Value) (l m : List Int) (w : World) (hl : l.length ≤ 5000) (hm : m.length ≤ 5000) (h1 : Row w v1 l) (h2 : Row w v2 m) : Calls Tryd.prog 14 #[v1, v2] w fun e w' => e = .returned (.bool (decide (l = m))) ∧ Below w.heap.size w w' := by
  obtain ⟨a, c, rfl⟩ := h1.shape
  obtain ⟨b, d, rfl⟩ := h2.shape
  exact (same17_any a b l m c d w h1 h2 (by omega) (by omega)).mono fun _ _ ⟨he, hg⟩ => ⟨he, hg.below⟩
theorem ounder_any (v1 v2 : Value) (l m : List Int) (w : World) (_ : Ly w) (hl : l.length ≤ 5000) (hm : m.length ≤ 5000) (h1 : Row w v1 l) (h2 : Row w v2 m) (f1 : Fits v1) (_ : Fits v2) : Calls Tryd.prog 21 #[v1, v2] w fun e w' => e = .returned (.bool (underO l m)) ∧ Below w.heap.size w w' := by
  obtain ⟨a, c, rfl⟩ := h1.shape
  obtain ⟨b, d, rfl⟩ := h2.shape
  exact ounder_w a b l m c d w h1 h2 (f1 _ _ _ rfl) (by omega) (by omega)
theorem oabove_any (v : Value) (l : List Int) (w : World) (_ : Ly w) (hl : l.length ≤ 5000) (h1 : Row w v l) (f1 : Fits v) : Calls Tryd.prog 15 #[v] w fun e w' => ∃ v', e = .returned v' ∧ Row w' v' (aboveO l) ∧ Fits v' ∧ Below w.heap.size w w' := by
  obtain ⟨a, c, rfl⟩ := h1.shape
  exact (oabove_w a c l w h1 (f1 _ _ _ rfl) (by omega)).mono fun _ _ ⟨v, he, hr, hb⟩ => ⟨v, he, hr.row, hr.fits, hb⟩
end Go.Proofs.YtifalmpcjkpodaaDoor
