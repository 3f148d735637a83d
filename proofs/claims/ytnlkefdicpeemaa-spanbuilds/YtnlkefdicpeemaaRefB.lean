/- The document's Build: what it refuses; the plain step of its loop. -/
import Derived.Test.YtnlkefdicpeemaaRefN
namespace Go.Proofs.Ytnlkefdicpeemaa
open Go.RowKit

/-- What the document's Build has laid up to a number. -/
structure Rb (l : List Sp) (x : Int) (T : List Sp) : Prop where
  lo : 0 ≤ x
  hi : x ≤ 1114112
  tb : isTb T
  bel : ∀ s, s ∈ T → s.t < x
  tell : ∀ r, fnd T r = if r < x then lastV l r else 0
  len : (T.length : Int) ≤ x
theorem Rb.start {l : List Sp} (hm : ∀ s, s ∈ l → 0 ≤ s.f) : Rb l 0 [] :=
  ⟨Int.le_refl _, by omega, rfl, fun s hs => by simp at hs, fun r => by
    simp only [fnd]
    split
    · rename_i h
      exact (lastV_zero l r fun s hs => by rw [inS_not]; have := hm s hs; omega).symm
    · rfl, by simp⟩
theorem Nx.const {l : List Sp} {x b : Int} (h : Nx l x l.length b) (r : Int) (h1 : x ≤ r) (h2 : r < b) : lastV l r = lastV l x := by
  refine lastV_congr l _ _ fun s hs => ?_
  obtain ⟨j, hj, he⟩ := mem_getD l s hs
  have e := h.no j hj
  have : (inS (l.getD j sp0) r = true) ↔ (inS (l.getD j sp0) x = true) := by rw [inS_iff, inS_iff]; omega
  cases h3 : inS (l.getD j sp0) r <;> cases h4 : inS (l.getD j sp0) x <;> simp_all
theorem Rb.key {l : List Sp} {x b : Int} (hn : Nx l x l.length b) (r : Int) : (if x ≤ r ∧ r ≤ b - 1 then lastV l x else (if r < x then lastV l r else 0)) = if r < b then lastV l r else 0 := by
  have hlo := hn.lo
  by_cases h1 : r < x
  · rw [if_neg (by omega), if_pos h1, if_pos (by omega)]
  · by_cases h2 : r < b
    · rw [if_pos (by omega), if_pos h2, hn.const r (by omega) h2]
    · rw [if_neg (by omega), if_neg h1, if_neg h2]
theorem Rb.skip {l T : List Sp} {x b : Int} (h : Rb l x T) (hn : Nx l x l.length b) (hz : lastV l x = 0) : Rb l b T := by
  have hlo := hn.lo
  refine ⟨by have := h.lo; omega, hn.hi, h.tb, fun s hs => by have := h.bel s hs; omega, fun r => ?_, by have := h.len; omega⟩
  rw [h.tell r, ← Rb.key hn r, hz]
  by_cases h1 : x ≤ r ∧ r ≤ b - 1
  · rw [if_pos h1, if_neg (by omega)]
  · rw [if_neg h1]
theorem Rb.lay {l T : List Sp} {x b : Int} (h : Rb l x T) (hn : Nx l x l.length b) (hz : lastV l x ≠ 0) : Rb l b (layL T ⟨x, b - 1, lastV l x⟩) := by
  have hlo := hn.lo
  have hhi := hn.hi
  have h0 := h.lo
  obtain ⟨j1, j2, j3⟩ := lay_tb T ⟨x, b - 1, lastV l x⟩ h.tb (by rw [mayS_iff]; dsimp only; omega) hz h.bel
  refine ⟨by omega, hhi, j1, fun s hs => by have := j2 s hs; dsimp only at this; omega, fun r => ?_, ?_⟩
  · rw [j3 r, h.tell r, ← Rb.key hn r]
    by_cases h1 : x ≤ r ∧ r ≤ b - 1
    · rw [if_pos ((inS_iff _ _).2 h1), if_pos h1]
    · rw [if_neg (fun h9 => h1 ((inS_iff _ _).1 h9)), if_neg h1]
  · have := layL_length T ⟨x, b - 1, lastV l x⟩
    have := h.len
    omega
theorem Rb.last {l T : List Sp} (h : Rb l 1114112 T) (hm : ∀ s, s ∈ l → s.t ≤ 1114111) (r : Int) : fnd T r = lastV l r := by
  rw [h.tell r]
  split
  · rfl
  · exact (lastV_zero l r fun s hs => by rw [inS_not]; have := hm s hs; omega).symm

set_option maxHeartbeats 400000 in
theorem rbuild_long (a : Option Addr) (n c : Nat) (w : World) (hl : 200 < n) :
    Calls Try.prog 16 #[.slice a n c] w fun e w' => e = .returned (.tuple #[.slice none 0 0, .int .i64 20]) ∧ Gr w w' := by
  have hz : (200 : Int) < (n : Int) := by omega
  go_enter Try.func16, Try.ntmps16
  go_wp2
  go_ret2
  exact ⟨rfl, Gr.refl _⟩

set_option maxHeartbeats 800000 in
theorem rbuild_bad (b o c : Nat) (l : List Sp) (w : World) (hl : l.length ≤ 200) (hm : allMay l = false) (hc : ∀ j, j < l.length →
    w.cell? ⟨b, o + j * 3, none⟩ = some (.int .i32 (l.getD j sp0).f) ∧ w.cell? ⟨b, o + j * 3 + 1, none⟩ = some (.int .i32 (l.getD j sp0).t) ∧ w.cell? ⟨b, o + j * 3 + 2, none⟩ = some (.int .i64 (l.getD j sp0).h)) :
    Calls Try.prog 16 #[.slice (some ⟨b, o, none⟩) l.length c] w fun e w' => e = .returned (.tuple #[.slice none 0 0, .int .i64 20]) ∧ Gr w w' := by
  have HC := hide hc
  have HM := hide hm
  clear hc hm
  have hln : ¬ (200 : Int) < (l.length : Int) := by omega
  go_enter Try.func16, Try.ntmps16
  go_wp2
  go_loopw [4] (fun x wr => ∃ k : Nat, k ≤ l.length ∧ x = .int .i64 k ∧ Gr w wr ∧ Hid (∀ j, j < k → mayS (l.getD j sp0) = true)) (fun x _ => l.length - (intOf x).toNat)
  case atStart => exact ⟨0, Nat.zero_le _, rfl, Gr.refl _, hide (fun j hj => by omega)⟩
  case round =>
    obtain ⟨k, hk, rfl, hg, HA⟩ := hrel
    by_cases hlt : k < l.length
    · have hzl : (k : Int) < (l.length : Int) := by omega
      have hz0 : (0 : Int) ≤ (k : Int) := by omega
      obtain ⟨g1, g2, g3⟩ := unhide HC k hlt
      replace g1 := hg.cell g1
      replace g2 := hg.cell g2
      replace g3 := hg.cell g3
      have hnx : mayS (l.getD k sp0) = true → Hid (∀ j, j < k + 1 → mayS (l.getD j sp0) = true) := fun he => by
        show ∀ j, j < k + 1 → mayS (l.getD j sp0) = true
        intro j hj
        rcases Nat.lt_succ_iff_lt_or_eq.1 hj with h | rfl
        · exact unhide HA j h
        · exact he
      generalize l.getD k sp0 = s at *
      obtain ⟨f, t, h⟩ := s
      dsimp only at g1 g2 g3
      have hmb := fun w => may_any f t h w
      cases hm : mayS ⟨f, t, h⟩ <;> rw [hm] at hmb
      · have HMB := hide hmb
        clear hmb hm hnx
        go_wp2_with (go_at_call 20; refine (unhide HMB _).mono ?_; rintro e w' ⟨rfl, hg2⟩)
        go_ret2
        exact ⟨rfl, hg.trans hg2⟩
      · have HN := hnx hm
        have HMB := hide hmb
        clear hmb hm hnx
        go_wp2_with (go_at_call 20; refine (unhide HMB _).mono ?_; rintro e w' ⟨rfl, hg2⟩)
        go_roundw
        case rel => exact ⟨k + 1, by omega, by go_num, hg.trans hg2, HN⟩
        case measure => simp [intOf]; omega
    · have hbad : allMay l = true := by
        unfold allMay
        rw [List.all_eq_true]
        intro s hs
        obtain ⟨j, hj, rfl⟩ := mem_getD l s hs
        exact unhide HA j (by omega)
      rw [unhide HM] at hbad
      cases hbad

/-- The document's Build, refused. -/
theorem rbuild_no (v : Value) (l : List Sp) (w : World) (h : Tab w v l) (hno : 200 < l.length ∨ allMay l = false) :
    Calls Try.prog 16 #[v] w fun e w' => e = .returned (.tuple #[.slice none 0 0, .int .i64 20]) ∧ Gr w w' := by
  obtain ⟨a, c, rfl, hc⟩ := h
  by_cases hl : 200 < l.length
  · exact rbuild_long a _ c w hl
  · have hm : allMay l = false := hno.resolve_left hl
    have h0 : 0 < l.length := by
      rcases Nat.eq_zero_or_pos l.length with h0 | h0
      · obtain rfl : l = [] := List.length_eq_zero_iff.1 h0
        cases hm
      · exact h0
    obtain ⟨b, o, rfl, hcc⟩ := hc h0
    exact rbuild_bad b o c l w (by omega) hm hcc
end Go.Proofs.Ytnlkefdicpeemaa
