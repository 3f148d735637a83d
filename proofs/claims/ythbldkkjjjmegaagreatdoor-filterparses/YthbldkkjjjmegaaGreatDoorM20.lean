/- The landed Word and Check of layer 18. -/
import Derived.Test.YthbldkkjjjmegaaGreatDoorM05
namespace Go.Proofs.YthbldkkjjjmegaaGreatDoor
set_option maxRecDepth 100000
open Go.RowKit

set_option maxHeartbeats 800000 in
theorem letter_any (c : Int) (w : World) : Calls Tryz.prog 52 #[.int .u8 c] w fun e w' => e = .returned (.bool (lowB c)) ∧ w = w' := by
  have e : lowB c = (decide (97 ≤ c) && decide (c ≤ 122)) := by unfold lowB; rw [Bool.eq_iff_iff]; simp
  rw [e]
  clear e
  by_cases h1 : 97 ≤ c <;> by_cases h2 : c ≤ 122 <;> simp only [h1, h2, decide_true, decide_false, Bool.and_true, Bool.and_false]
  all_goals
    go_enter Tryz.func52, Tryz.ntmps52
    go_wp2
    go_ret
    exact ⟨rfl, rfl⟩
set_option maxHeartbeats 800000 in
theorem digit_any (c : Int) (w : World) : Calls Tryz.prog 53 #[.int .u8 c] w fun e w' => e = .returned (.bool (digB c)) ∧ w = w' := by
  have e : digB c = (decide (48 ≤ c) && decide (c ≤ 57)) := by unfold digB; rw [Bool.eq_iff_iff]; simp
  rw [e]
  clear e
  by_cases h1 : 48 ≤ c <;> by_cases h2 : c ≤ 57 <;> simp only [h1, h2, decide_true, decide_false, Bool.and_true, Bool.and_false]
  all_goals
    go_enter Tryz.func53, Tryz.ntmps53
    go_wp2
    go_ret
    exact ⟨rfl, rfl⟩
theorem wrd_first {l : List Int} (h : lowB (l.getD 0 0) = false) : wrdB l = false := by
  unfold wrdB
  rw [h, Bool.false_and, Bool.and_false]
theorem wrd_bad {l : List Int} {k : Nat} (hk : k < l.length) (h : wrdC (l.getD k 0) = false) : wrdB l = false := by
  cases hw : wrdB l
  · rfl
  · unfold wrdB at hw
    simp only [Bool.and_eq_true] at hw
    rw [all_at (d := 0) hw.2.2 k hk] at h
    cases h
theorem wrd_good {l : List Int} (h1 : 1 ≤ l.length) (h2 : l.length ≤ 16) (h0 : lowB (l.getD 0 0) = true) (h : ∀ k, k < l.length → wrdC (l.getD k 0) = true) : wrdB l = true := by
  unfold wrdB
  rw [decide_eq_true ⟨h1, h2⟩, h0, all_of wrdC 0 l h]
  rfl
set_option maxHeartbeats 3200000 in
theorem word_any (s : ByteArray) (w : World) : Calls Tryz.prog 35 #[.string s] w fun e w' => e = .returned (.bool (wrdB (nums s))) ∧ w = w' := by
  have HL := hide letter_any
  have HD := hide digit_any
  by_cases h1 : s.size < 1
  · have z1 : (s.size : Int) < 1 := by omega
    have HE := hide (wrd_long (l := nums s) (by rw [nums_length]; omega))
    generalize wrdB (nums s) = r at *
    go_enter Tryz.func35, Tryz.ntmps35
    go_wp2
    go_ret
    exact ⟨ret_bool (unhide HE).symm, rfl⟩
  by_cases h2 : 16 < s.size
  · have z1 : ¬ (s.size : Int) < 1 := by omega
    have z2 : 16 < (s.size : Int) := by omega
    have HE := hide (wrd_long (l := nums s) (by rw [nums_length]; omega))
    generalize wrdB (nums s) = r at *
    go_enter Tryz.func35, Tryz.ntmps35
    go_wp2
    go_ret
    exact ⟨ret_bool (unhide HE).symm, rfl⟩
  have z1 : ¬ (s.size : Int) < 1 := by omega
  have z2 : ¬ 16 < (s.size : Int) := by omega
  have z00 : (0 : Int) < (s.size : Int) := by omega
  have h00 : 0 < s.size := by omega
  obtain ⟨c0, hc0⟩ : ∃ c : Int, (s[0].toNat : Int) = c := ⟨_, rfl⟩
  have C0 : Hid ((nums s).getD 0 0 = c0) := by show _ = _; rw [nums_at s 0 h00]; exact hc0
  have CL := hide (unhide HL c0 w)
  cases hlow : lowB c0 <;> rw [hlow] at CL
  · have HE := hide (wrd_first (l := nums s) (by rw [unhide C0]; exact hlow))
    clear hlow
    generalize wrdB (nums s) = r at *
    go_enter Tryz.func35, Tryz.ntmps35
    go_wp2_with (go_at_call 52; refine (unhide CL).mono ?_; rintro e w3 ⟨rfl, rfl⟩)
    go_ret
    exact ⟨ret_bool (unhide HE).symm, rfl⟩
  have HLOW : Hid (lowB ((nums s).getD 0 0) = true) := by show _ = _; rw [unhide C0]; exact hlow
  clear hlow
  go_enter Tryz.func35, Tryz.ntmps35
  go_wp2_with (go_at_call 52; refine (unhide CL).mono ?_; rintro e w3 ⟨rfl, rfl⟩)
  clear hc0 CL C0
  go_loopw [20] (fun i wr => ∃ k : Nat, k ≤ s.size ∧ i = .int .i64 k ∧ Hid (∀ j, j < k → wrdC ((nums s).getD j 0) = true) ∧ wr = w) (fun i _ => s.size - (intOf i).toNat)
  case atStart => exact ⟨0, Nat.zero_le _, rfl, fun j hj => absurd hj (Nat.not_lt_zero _), rfl⟩
  case round =>
    obtain ⟨k, hk, rfl, HK, rfl⟩ := hrel
    by_cases hlt : k < s.size
    · have hzl : (k : Int) < (s.size : Int) := by omega
      have hz0 : (0 : Int) ≤ (k : Int) := by omega
      obtain ⟨c, hc⟩ : ∃ c : Int, (s[k].toNat : Int) = c := ⟨_, rfl⟩
      have HQ : Hid ((nums s).getD k 0 = c) := by show _ = _; rw [nums_at s k hlt]; exact hc
      have HN : Hid (wrdC c = false → wrdB (nums s) = false) := fun h => wrd_bad (k := k) (by rw [nums_length]; exact hlt) (by rw [unhide HQ]; exact h)
      have HY : Hid (wrdC c = true → ∀ j, j < k + 1 → wrdC ((nums s).getD j 0) = true) := fun h => ok_next (unhide HK) (by rw [unhide HQ]; exact h)
      have CL := hide (unhide HL c wr)
      have CD := hide (unhide HD c wr)
      have HW : Hid (wrdC c = (lowB c || (digB c || decide (c = 45)))) := rfl
      clear HQ
      by_cases a1 : lowB c = true
      · rw [a1] at CL
        have HE := hide (unhide HY (by rw [unhide HW, a1]; rfl))
        clear a1
        go_wp2_with (go_at_call 52; refine (unhide CL).mono ?_; rintro e w3 ⟨rfl, rfl⟩)
        go_roundw
        case rel => exact ⟨k + 1, by omega, by go_num, unhide HE, trivial⟩
        case measure => simp [intOf]; omega
      rw [Bool.not_eq_true] at a1
      rw [a1] at CL
      by_cases a2 : digB c = true
      · rw [a2] at CD
        have HE := hide (unhide HY (by rw [unhide HW, a1, a2]; rfl))
        clear a1 a2
        go_wp2_with (first | (go_at_call 53; refine (unhide CD).mono ?_; rintro e w3 ⟨rfl, rfl⟩) | (go_at_call 52; refine (unhide CL).mono ?_; rintro e w3 ⟨rfl, rfl⟩))
        go_roundw
        case rel => exact ⟨k + 1, by omega, by go_num, unhide HE, trivial⟩
        case measure => simp [intOf]; omega
      rw [Bool.not_eq_true] at a2
      rw [a2] at CD
      have a5' : (c == 45) = decide (c = 45) := by rfl
      by_cases a3 : c = 45
      · have HE := hide (unhide HY (by rw [unhide HW, a1, a2, decide_eq_true a3]; rfl))
        clear a1 a2 a5'
        subst a3
        go_wp2_with (first | (go_at_call 53; refine (unhide CD).mono ?_; rintro e w3 ⟨rfl, rfl⟩) | (go_at_call 52; refine (unhide CL).mono ?_; rintro e w3 ⟨rfl, rfl⟩))
        go_roundw
        case rel => exact ⟨k + 1, by omega, by go_num, unhide HE, trivial⟩
        case measure => simp [intOf]; omega
      · have HE := hide (unhide HN (by rw [unhide HW, a1, a2, decide_eq_false a3]; rfl))
        clear a1 a2
        go_wp2_with (first | (go_at_call 53; refine (unhide CD).mono ?_; rintro e w3 ⟨rfl, rfl⟩) | (go_at_call 52; refine (unhide CL).mono ?_; rintro e w3 ⟨rfl, rfl⟩))
        go_ret
        exact ⟨ret_bool (unhide HE).symm, rfl⟩
    · have hzl : ¬ (k : Int) < (s.size : Int) := by omega
      have HE : Hid (wrdB (nums s) = true) := wrd_good (by rw [nums_length]; omega) (by rw [nums_length]; omega) (unhide HLOW) (fun j hj => unhide HK j (by rw [nums_length] at hj; omega))
      go_wp2
      go_ret
      exact ⟨ret_bool (unhide HE).symm, rfl⟩
end Go.Proofs.YthbldkkjjjmegaaGreatDoor
