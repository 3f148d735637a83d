/- The landed readByte of layer 24. -/
import Derived.Test.YthbldkkjjjmegaaGreatDoorM29
import Derived.Test.YthbldkkjjjmegaaGreatDoorM24
import Derived.Test.YthbldkkjjjmegaaGreatDoorM21
namespace Go.Proofs.YthbldkkjjjmegaaGreatDoor
set_option maxRecDepth 100000
open Go.RowKit

theorem ix_r24 (c : Int) (h0 : 0 ≤ c) (h1 : c < 256) : 0 ≤ Lib.indexByte [40, 41, 42, 92, 0] c.toNat.toUInt8 ↔ (c = 0 ∨ (40 ≤ c ∧ c ≤ 42) ∨ c = 92) := by
  have h : ∀ c : Fin 256, decide (0 ≤ Lib.indexByte [40, 41, 42, 92, 0] (c.val : Int).toNat.toUInt8) = decide ((c.val : Int) = 0 ∨ (40 ≤ (c.val : Int) ∧ (c.val : Int) ≤ 42) ∨ (c.val : Int) = 92) := by decide +kernel
  have := h ⟨c.toNat, by omega⟩
  rw [decide_eq_decide] at this
  simpa [Int.toNat_of_nonneg h0] using this
theorem hexG_no {d e : Int} (h : hexG [d, e] 0 = none) : ¬ (unh d < 16 ∧ unh e < 16) := by
  rintro ⟨h1, h2⟩
  unfold hexG hexG hexG at h
  rw [if_pos h1, if_pos h2] at h
  cases h
theorem rdV_bad {l : List Int} (h : l.getD 0 0 = 0 ∨ (40 ≤ l.getD 0 0 ∧ l.getD 0 0 ≤ 42)) : rdV l = (0, 0) := by
  cases l with
  | nil => rfl
  | cons c t => rw [List.getD_cons_zero] at h; unfold rdV; dsimp only; rw [if_pos h]
theorem rdV_bare {l : List Int} (hl : 0 < l.length) (h : ¬ (l.getD 0 0 = 0 ∨ (40 ≤ l.getD 0 0 ∧ l.getD 0 0 ≤ 42))) (h2 : ¬ l.getD 0 0 = 92) : rdV l = (l.getD 0 0, 1) := by
  cases l with
  | nil => simp at hl
  | cons c t => rw [List.getD_cons_zero] at h h2 ⊢; unfold rdV; dsimp only; rw [if_neg h, if_neg h2]
theorem rdV_hex {l : List Int} {x : Int} (h : l.getD 0 0 = 92) (hl : 2 < l.length) (hx : hexG [l.getD 1 0, l.getD 2 0] 0 = some x) : rdV l = (x, 3) := by
  match l, hl with
  | c :: d :: e :: t, _ =>
    simp only [List.getD_cons_zero, List.getD_cons_succ] at h hx
    subst h
    obtain ⟨-, -, h1, h2, h3⟩ := hexG_in hx
    unfold rdV; dsimp only
    rw [if_neg (by omega), if_pos rfl, if_pos ⟨h1, h2⟩, h3]
theorem rdV_none {l : List Int} (h : l.getD 0 0 = 92) (hl : 2 < l.length) (hx : hexG [l.getD 1 0, l.getD 2 0] 0 = none) : rdV l = (0, 0) := by
  match l, hl with
  | c :: d :: e :: t, _ =>
    simp only [List.getD_cons_zero, List.getD_cons_succ] at h hx
    subst h
    unfold rdV; dsimp only
    rw [if_neg (by omega), if_pos rfl, if_neg (hexG_no hx)]
theorem rdV_short {l : List Int} (h : l.getD 0 0 = 92) (hl : ¬ 2 < l.length) : rdV l = (0, 0) := by
  match l, hl with
  | [], _ => rfl
  | [c], _ =>
    simp only [List.getD_cons_zero] at h
    subst h
    rfl
  | [c, d], _ =>
    simp only [List.getD_cons_zero] at h
    subst h
    rfl
  | c :: d :: e :: t, hl => exact absurd (by simp) hl
theorem rdV_in (l : List Int) (hb : byt l) : 0 ≤ (rdV l).1 ∧ (rdV l).1 < 256 := by
  unfold rdV
  cases l with
  | nil => simp
  | cons c t =>
    dsimp only
    split
    · simp
    · split
      · split
        · next d e u =>
          split
          · next h =>
            have := unh_nn d
            have := unh_nn e
            dsimp only
            omega
          · simp
        · simp
      · exact hb c (by simp)
set_option maxHeartbeats 3200000 in
theorem rbyte24_any (s : ByteArray) (w : World) (hL : Ly w) : Calls Tryz.prog 80 #[.string s] w fun e w' => e = .returned (.tuple #[.int .u8 (rdV (nums s)).1, .int .i64 (rdV (nums s)).2]) ∧ Below w.heap.size w w' := by
  have hnl := nums_length s
  by_cases h0 : s.size = 0
  · have he : s.toList.isEmpty = true := by rw [emp_sz, decide_eq_true h0]
    have z2 : ¬ (2 : Int) < (s.size : Int) := by omega
    have hr : rdV (nums s) = (0, 0) := by rw [List.length_eq_zero_iff.1 (by omega : (nums s).length = 0)]; rfl
    rw [hr]
    clear hr hnl h0
    go_enter Tryz.func80, Tryz.ntmps80
    go_wp2
    go_ret2
    exact ⟨rfl, Below.refl _ _⟩
  have hem : s.toList.isEmpty = false := by rw [emp_sz, decide_eq_false h0]
  have hs0 : 0 < s.size := by omega
  have hat := nums_at s 0 hs0
  obtain ⟨c, hc⟩ : ∃ c : Int, (s[0].toNat : Int) = c := ⟨_, rfl⟩
  rw [hc] at hat
  have cb := getD_nums s 0
  rw [hat] at cb
  have z00 : (0 : Int) < (s.size : Int) := by omega
  have hx := ix_r24 c cb.1 cb.2
  have HI := hide (ixb_any ⟨#[40, 41, 42, 92, 0]⟩ c w)
  by_cases h92 : c = 92
  · subst h92
    replace hx := hx.2 (by omega)
    by_cases h2 : 2 < s.size
    · have z2 : (2 : Int) < (s.size : Int) := by omega
      have z3 : (3 : Int) ≤ (s.size : Int) := by omega
      have hz : (s.extract 1 3).size = 2 := by rw [ByteArray.size_extract]; omega
      have hnn : nums (s.extract 1 3) = [(nums s).getD 1 0, (nums s).getD 2 0] := by rw [nums_sub]; exact two_of _ (by omega)
      cases hg : hexG [(nums s).getD 1 0, (nums s).getD 2 0] 0 with
      | none =>
        rw [rdV_none hat (by omega) hg]
        have CP := hide (pu_no (s.extract 1 3) hz w hL (by rw [hnn]; exact hg))
        clear hat hnl hnn hz hg cb h0
        generalize Lib.indexByte _ _ = q at *
        go_enter Tryz.func80, Tryz.ntmps80
        go_wp2_with (first
          | (go_at_call 83; refine (unhide CP).mono ?_; rintro e w4 ⟨t4, p4, rfl, b4⟩)
          | (go_at_call 42; refine (unhide HI).mono ?_; rintro e w3 ⟨rfl, rfl⟩))
        go_ret2
        exact ⟨rfl, b4⟩
      | some x =>
        have x0 := (hexG_in hg).1
        have x1 := (hexG_in hg).2.1
        rw [rdV_hex hat (by omega) hg]
        have CP := hide (pu_yes (s.extract 1 3) hz x w (by rw [hnn]; exact hg))
        have wx : IntKind.u8.wrap x = x := u8w x0 x1
        clear hat hnl hnn hz hg cb h0
        generalize Lib.indexByte _ _ = q at *
        go_enter Tryz.func80, Tryz.ntmps80
        go_wp2_with (first
          | (go_at_call 83; refine (unhide CP).mono ?_; rintro e w4 ⟨rfl, b4⟩)
          | (go_at_call 42; refine (unhide HI).mono ?_; rintro e w3 ⟨rfl, rfl⟩))
        go_ret2
        exact ⟨rfl, b4⟩
    · have z2 : ¬ (2 : Int) < (s.size : Int) := by omega
      rw [rdV_short hat (by omega)]
      clear hat hnl cb h0
      generalize Lib.indexByte _ _ = q at *
      go_enter Tryz.func80, Tryz.ntmps80
      go_wp2_with (go_at_call 42; refine (unhide HI).mono ?_; rintro e w3 ⟨rfl, rfl⟩)
      go_ret2
      exact ⟨rfl, Below.refl _ _⟩
  · have hne : (c == 92) = false := by rw [beq_eq_false_iff_ne]; exact h92
    by_cases hb : c = 0 ∨ (40 ≤ c ∧ c ≤ 42)
    · replace hx := hx.2 (by omega)
      rw [rdV_bad (by rw [hat]; exact hb)]
      by_cases h2 : 2 < s.size
      · have z2 : (2 : Int) < (s.size : Int) := by omega
        clear hat hnl cb h0 hb h92
        generalize Lib.indexByte _ _ = q at *
        go_enter Tryz.func80, Tryz.ntmps80
        go_wp2_with (go_at_call 42; refine (unhide HI).mono ?_; rintro e w3 ⟨rfl, rfl⟩)
        go_ret2
        exact ⟨rfl, Below.refl _ _⟩
      · have z2 : ¬ (2 : Int) < (s.size : Int) := by omega
        clear hat hnl cb h0 hb h92
        generalize Lib.indexByte _ _ = q at *
        go_enter Tryz.func80, Tryz.ntmps80
        go_wp2_with (go_at_call 42; refine (unhide HI).mono ?_; rintro e w3 ⟨rfl, rfl⟩)
        go_ret2
        exact ⟨rfl, Below.refl _ _⟩
    · replace hx := fun h => (show ¬ (c = 0 ∨ (40 ≤ c ∧ c ≤ 42) ∨ c = 92) by omega) (hx.1 h)
      rw [rdV_bare (by omega) (by rw [hat]; exact hb) (by rw [hat]; exact h92), hat]
      clear hat hnl cb h0 hb h92
      generalize Lib.indexByte _ _ = q at *
      go_enter Tryz.func80, Tryz.ntmps80
      go_wp2_with (go_at_call 42; refine (unhide HI).mono ?_; rintro e w3 ⟨rfl, rfl⟩)
      go_ret2
      exact ⟨rfl, Below.refl _ _⟩
end Go.Proofs.YthbldkkjjjmegaaGreatDoor
