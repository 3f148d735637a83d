/- Names in memory: slices of pairs, slices of parts. -/
import Derived.Test.YtoaoplfbnjajiaaMath18
namespace Go.Proofs.Ytoaoplfbnjajiaa
open Go.RowKit

/-- A slice that holds the pairs l. -/
def PsV (w : World) (v : Value) (l : List Pr) : Prop :=
  ∃ a cap, v = .slice a l.length cap ∧ l.length ≤ 9223372036854775807 ∧ (0 < l.length → ∃ b off, a = some ⟨b, off, none⟩ ∧ ∀ j, j < l.length →
    w.cell? ⟨b, off + j * 2, none⟩ = some (.string (l.getD j pr0).nam) ∧ w.cell? ⟨b, off + j * 2 + 1, none⟩ = some (.string (l.getD j pr0).val))
theorem PsV.below {w w2 : World} {v : Value} {l : List Pr} (h : PsV w v l) (hb : Below w.heap.size w w2) : PsV w2 v l := by
  obtain ⟨a, cap, rfl, hn, hc⟩ := h
  refine ⟨a, cap, rfl, hn, fun i => ?_⟩
  obtain ⟨b, off, rfl, hcc⟩ := hc i
  refine ⟨b, off, rfl, fun j hj => ?_⟩
  obtain ⟨h1, h2⟩ := hcc j hj
  exact ⟨(hb.cell (p := ⟨b, off + j * 2, none⟩) (cell_lt h1)).trans h1, (hb.cell (p := ⟨b, off + j * 2 + 1, none⟩) (cell_lt h2)).trans h2⟩
theorem PsV.nil (w : World) (a : Option Addr) (c : Nat) : PsV w (.slice a 0 c) [] := ⟨a, c, rfl, by simp, fun h => absurd h (Nat.lt_irrefl _)⟩
theorem PsV.shape {w : World} {v : Value} {l : List Pr} (h : PsV w v l) : ∃ a c, v = .slice a l.length c := by
  obtain ⟨a, c, h, _⟩ := h
  exact ⟨a, c, h⟩
/-- A slice that holds the parts n. -/
def NmV (w : World) (v : Value) (n : List (List Pr)) : Prop :=
  ∃ a cap, v = .slice a n.length cap ∧ n.length ≤ cap ∧ n.length ≤ 9223372036854775807 ∧ (0 < n.length → ∃ b off, a = some ⟨b, off, none⟩ ∧ ∀ j, j < n.length → ∃ rv, w.cell? ⟨b, off + j, none⟩ = some rv ∧ PsV w rv (n.getD j []))
theorem NmV.below {w w2 : World} {v : Value} {n : List (List Pr)} (h : NmV w v n) (hb : Below w.heap.size w w2) : NmV w2 v n := by
  obtain ⟨a, cap, rfl, hn, hm, hc⟩ := h
  refine ⟨a, cap, rfl, hn, hm, fun i => ?_⟩
  obtain ⟨b, off, rfl, hcc⟩ := hc i
  refine ⟨b, off, rfl, fun j hj => ?_⟩
  obtain ⟨rv, h1, h2⟩ := hcc j hj
  exact ⟨rv, (hb.cell (p := ⟨b, off + j, none⟩) (cell_lt h1)).trans h1, h2.below hb⟩
theorem NmV.nil (w : World) (a : Option Addr) (c : Nat) : NmV w (.slice a 0 c) [] := ⟨a, c, rfl, Nat.zero_le _, by simp, fun h => absurd h (Nat.lt_irrefl _)⟩
theorem NmV.shape {w : World} {v : Value} {n : List (List Pr)} (h : NmV w v n) : ∃ a c, v = .slice a n.length c := by
  obtain ⟨a, c, h, _⟩ := h
  exact ⟨a, c, h⟩
theorem getD_memR (n : List (List Pr)) (k : Nat) (h : k < n.length) : n.getD k [] ∈ n := by simp [List.getD, h]
theorem getD_memP (n : List Pr) (k : Nat) (h : k < n.length) : n.getD k pr0 ∈ n := by simp [List.getD, h]
theorem drop_consR (l : List (List Pr)) (i : Nat) (h : i < l.length) : l.drop i = l.getD i [] :: l.drop (i + 1) := by
  rw [List.drop_eq_getElem_cons h]
  simp [List.getD, h]
theorem drop_consP (l : List Pr) (i : Nat) (h : i < l.length) : l.drop i = l.getD i pr0 :: l.drop (i + 1) := by
  rw [List.drop_eq_getElem_cons h]
  simp [List.getD, h]
theorem drop_consI (l : List Int) (i : Nat) (h : i < l.length) : l.drop i = l.getD i 0 :: l.drop (i + 1) := by
  rw [List.drop_eq_getElem_cons h]
  simp [List.getD, h]
/-- All in a list are so, told place by place. -/
theorem all_of {α : Type} (p : α → Bool) (d : α) (l : List α) (h : ∀ k, k < l.length → p (l.getD k d) = true) : l.all p = true := by
  rw [List.all_eq_true]
  intro x hx
  obtain ⟨k, hk, rfl⟩ := List.getElem_of_mem hx
  have := h k hk
  simpa [List.getD, hk] using this
theorem all_at {α : Type} {p : α → Bool} {d : α} {l : List α} (h : l.all p = true) (k : Nat) (hk : k < l.length) : p (l.getD k d) = true := by
  rw [List.all_eq_true] at h
  exact h _ (by simp [List.getD, hk])
theorem chk_yes {n : List (List Pr)} (h : okN n = true) : chkN n = 0 := by unfold chkN; rw [if_pos h]
theorem chk_no {n : List (List Pr)} (h : okN n = false) : chkN n = 220 := by unfold chkN; rw [h]; rfl
end Go.Proofs.Ytoaoplfbnjajiaa
