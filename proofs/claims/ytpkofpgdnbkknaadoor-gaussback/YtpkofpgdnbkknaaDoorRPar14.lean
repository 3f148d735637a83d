/- The document's Parse of layer 14. (By gen_parse.py.) -/
import Derived.Test.YtpkofpgdnbkknaaDoorRTak14
namespace Go.Proofs.YtpkofpgdnbkknaaDoor
open Go.RowKit

theorem goD_spec : ∀ (s : List Int) (n : Int), 0 ≤ n → n ≤ 9999999 → (∃ k, k ≤ s.length ∧ (goD s n).2 = s.drop k) ∧ 0 ≤ (goD s n).1 ∧ (goD s n).1 ≤ 9999999
  | [], n, h1, h2 => ⟨⟨0, Nat.le_refl _, rfl⟩, h1, h2⟩
  | c :: s, n, h1, h2 => by
    simp only [goD]
    split
    · rename_i h
      obtain ⟨⟨k, hk, e⟩, b⟩ := goD_spec s (10 * n + c - 48) (by omega) (by omega)
      exact ⟨⟨k + 1, by simp; omega, e⟩, b⟩
    · exact ⟨⟨0, Nat.zero_le _, rfl⟩, h1, h2⟩
theorem takeL_spec (s : List Int) : (∃ k, k ≤ s.length ∧ (takeL s).2 = s.drop k) ∧ -9999999 ≤ (takeL s).1 ∧ (takeL s).1 ≤ 9999999 := by
  unfold takeL
  split
  · rename_i h
    have hl : 1 ≤ s.length := by
      cases s with
      | nil => simp at h
      | cons => simp
    obtain ⟨⟨k, hk, e⟩, b⟩ := goD_spec (s.drop 1) 0 (Int.le_refl _) (by omega)
    refine ⟨⟨k + 1, by rw [List.length_drop] at hk; omega, ?_⟩, by simp only; omega, by simp only; omega⟩
    simp only
    rw [e, List.drop_drop, Nat.add_comm]
  · obtain ⟨⟨k, hk, e⟩, b⟩ := goD_spec s 0 (Int.le_refl _) (by omega)
    exact ⟨⟨k, hk, e⟩, by omega, by omega⟩
/-- take, by its answer. -/
theorem rtake_v (s : ByteArray) (i : Nat) (w : World) (hi : i ≤ s.size) (hs : s.size ≤ 9223372036854775806) {v : Int} {j : Nat} (hj : j ≤ s.size) (h : takeL ((nums s).drop i) = (v, (nums s).drop j)) :
    Calls Tryd.prog 35 #[.string s, .int .i64 i] w fun e w' => e = .returned (.tuple #[.int .i64 v, .int .i64 j]) ∧ w' = w :=
  (rtake_any s i w hi hs).mono fun _ _ ⟨j', v', he, hj', ht, _, _, hw⟩ => by
    rw [h] at ht
    have e1 : v = v' := congrArg Prod.fst ht
    have e2 : (nums s).drop j = (nums s).drop j' := congrArg Prod.snd ht
    have e3 := congrArg List.length e2
    rw [List.length_drop, List.length_drop, nums_length] at e3
    have e4 : j = j' := by omega
    subst e1 e4
    exact ⟨he, hw⟩
theorem ok_of (s : List Int) (a b : Int) (h : cutG s = (a, b)) : okG s = (inZ a && inZ b && decide (txt a b = s)) := by unfold okG; rw [h]
theorem par_no {s : List Int} (h : okG s = false) : parG s = (0, 0) ∧ parF s = 140 := by unfold parG parF; rw [h]; exact ⟨rfl, rfl⟩
theorem par_yes {s : List Int} (h : okG s = true) : parG s = cutG s ∧ parF s = 0 := by unfold parG parF; rw [h]; exact ⟨rfl, rfl⟩
set_option maxHeartbeats 12800000 in
theorem rparse14_any (s : ByteArray) (w : World) (hs : s.size ≤ 9223372036854775806) :
    Calls Tryd.prog 22 #[.string s] w fun e w' => e = .returned (.tuple #[.int .i64 (parG (nums s)).1, .int .i64 (parG (nums s)).2, .int .i64 (parF (nums s))]) ∧ Gr w w' := by
  obtain ⟨⟨j, hj, hr⟩, hx0, hx1⟩ := takeL_spec (nums s)
  rw [nums_length] at hj
  obtain ⟨x, hx⟩ : ∃ x, (takeL (nums s)).1 = x := ⟨_, rfl⟩
  have hT : takeL (nums s) = (x, (nums s).drop j) := by rw [← hx, ← hr]
  rw [hx] at hx0 hx1
  have H1 := hide (fun W => rtake_v s 0 W (Nat.zero_le _) hs hj (by rw [List.drop_zero]; exact hT))
  have j0 : (0 : Int) ≤ (j : Int) := by omega
  by_cases hlt : j < s.size
  · have hzl : (j : Int) < (s.size : Int) := by omega
    have hat := nums_at s j hlt
    have hbb := (s[j]).toNat_lt
    obtain ⟨c, hc⟩ : ∃ c : Int, (s[j].toNat : Int) = c := ⟨_, rfl⟩
    rw [hc] at hat
    have hc0 : 0 ≤ c := by omega
    have hc1 : c < 256 := by omega
    have hne : (nums s).drop j ≠ [] := fun e => by
      have := congrArg List.length e
      rw [List.length_drop, nums_length, List.length_nil] at this
      omega
    have hd : ((nums s).drop j).getD 0 0 = c := by rw [drop_head]; exact hat
    clear hbb
    by_cases c105 : c = 105
    · have HCUT : Hid (cutG (nums s) = (0, x)) := by show _ = _; unfold cutG; rw [hT]; simp only; rw [if_neg hne, hd, if_pos c105]
      have HO := hide (ok_of _ _ _ (unhide HCUT))
      subst c105
      clear hne hd hT hr hx hat
      by_cases r3 : x < -999999
      · obtain ⟨e1, e2⟩ := par_no (s := nums s) (by rw [unhide HO, inZ_lo r3, Bool.and_false, Bool.false_and])
        rw [e1, e2]
        clear e1 e2
        go_enter Tryd.func22, Tryd.ntmps22
        go_wp2_with (first | (go_at_call 35; refine (unhide H1 _).mono ?_; rintro e w1 ⟨rfl, rfl⟩; have q1 : True := trivial))
        go_ret3
        exact ⟨rfl, Gr.refl _⟩
      by_cases r4 : 999999 < x
      · obtain ⟨e1, e2⟩ := par_no (s := nums s) (by rw [unhide HO, inZ_hi r4, Bool.and_false, Bool.false_and])
        rw [e1, e2]
        clear e1 e2
        go_enter Tryd.func22, Tryd.ntmps22
        go_wp2_with (first | (go_at_call 35; refine (unhide H1 _).mono ?_; rintro e w1 ⟨rfl, rfl⟩; have q1 : True := trivial))
        go_ret3
        exact ⟨rfl, Gr.refl _⟩
      have HT := hide (fun W => rtext_any 0 x W (by omega) (by omega) (by omega) (by omega))
      have hcm : ((strOfNums (txt 0 x)).toList == s.toList) = decide (txt 0 x = nums s) := str_same _ (txt_bound _ _) s
      by_cases r5 : txt 0 x = nums s
      · rw [decide_eq_true r5] at hcm
        obtain ⟨e1, e2⟩ := par_yes (s := nums s) (by rw [unhide HO, inZ_yes (by omega) (by omega), inZ_yes (by omega) (by omega), decide_eq_true r5]; rfl)
        rw [e1, e2, unhide HCUT]
        clear e1 e2 r5
        go_enter Tryd.func22, Tryd.ntmps22
        go_wp2_with (first | (go_at_call 29; refine (unhide HT _).mono ?_; rintro e w9 ⟨rfl, g9⟩) | (go_at_call 35; refine (unhide H1 _).mono ?_; rintro e w1 ⟨rfl, rfl⟩; have q1 : True := trivial))
        go_ret3
        exact ⟨rfl, g9⟩
      · rw [decide_eq_false r5] at hcm
        obtain ⟨e1, e2⟩ := par_no (s := nums s) (by rw [unhide HO, decide_eq_false r5, Bool.and_false])
        rw [e1, e2]
        clear e1 e2
        clear r5
        go_enter Tryd.func22, Tryd.ntmps22
        go_wp2_with (first | (go_at_call 29; refine (unhide HT _).mono ?_; rintro e w9 ⟨rfl, g9⟩) | (go_at_call 35; refine (unhide H1 _).mono ?_; rintro e w1 ⟨rfl, rfl⟩; have q1 : True := trivial))
        go_ret3
        exact ⟨rfl, g9⟩
    · have z105 : (c == 105) = false := by simpa using c105
      by_cases c43 : c = 43
      · obtain ⟨⟨k, hk, hr2⟩, hy0, hy1⟩ := takeL_spec ((nums s).drop (j + 1))
        rw [List.length_drop, nums_length] at hk
        obtain ⟨y, hy⟩ : ∃ y, (takeL ((nums s).drop (j + 1))).1 = y := ⟨_, rfl⟩
        have hT2 : takeL ((nums s).drop (j + 1)) = (y, (nums s).drop (j + 1 + k)) := by rw [← hy, show (nums s).drop (j + 1 + k) = ((nums s).drop (j + 1)).drop k by rw [List.drop_drop], ← hr2]
        rw [hy] at hy0 hy1
        have H2 := hide (fun W => rtake_v s (j + 1) W (by omega) hs (by omega) hT2)
        have wj : IntKind.i64.wrap ((j : Int) + 1) = (j : Int) + 1 := wrap_in (by omega) (by omega)
        have HCUT : Hid (cutG (nums s) = (x, y)) := by show _ = _; unfold cutG; rw [hT]; simp only; rw [if_neg hne, hd, if_neg c105, if_pos c43, List.drop_drop, hT2]
        have HO := hide (ok_of _ _ _ (unhide HCUT))
        have ej : (((j + 1 : Nat)) : Int) = (j : Int) + 1 := by omega
        rw [ej] at H2
        subst c43
        clear hne hd hT hr hx hat hr2 hy hT2 ej hk
        generalize ((j + 1 + k : Nat) : Int) = kk at *
        by_cases r1 : x < -999999
        · obtain ⟨e1, e2⟩ := par_no (s := nums s) (by rw [unhide HO, inZ_lo r1, Bool.false_and, Bool.false_and])
          rw [e1, e2]
          clear e1 e2
          go_enter Tryd.func22, Tryd.ntmps22
          go_wp2_with (first | (go_at_call 35; have q2 := q1; refine (unhide H2 _).mono ?_; rintro e w2 ⟨rfl, rfl⟩) | (go_at_call 35; refine (unhide H1 _).mono ?_; rintro e w1 ⟨rfl, rfl⟩; have q1 : True := trivial))
          go_ret3
          exact ⟨rfl, Gr.refl _⟩
        by_cases r2 : 999999 < x
        · obtain ⟨e1, e2⟩ := par_no (s := nums s) (by rw [unhide HO, inZ_hi r2, Bool.false_and, Bool.false_and])
          rw [e1, e2]
          clear e1 e2
          go_enter Tryd.func22, Tryd.ntmps22
          go_wp2_with (first | (go_at_call 35; have q2 := q1; refine (unhide H2 _).mono ?_; rintro e w2 ⟨rfl, rfl⟩) | (go_at_call 35; refine (unhide H1 _).mono ?_; rintro e w1 ⟨rfl, rfl⟩; have q1 : True := trivial))
          go_ret3
          exact ⟨rfl, Gr.refl _⟩
        by_cases r3 : y < -999999
        · obtain ⟨e1, e2⟩ := par_no (s := nums s) (by rw [unhide HO, inZ_lo r3, Bool.and_false, Bool.false_and])
          rw [e1, e2]
          clear e1 e2
          go_enter Tryd.func22, Tryd.ntmps22
          go_wp2_with (first | (go_at_call 35; have q2 := q1; refine (unhide H2 _).mono ?_; rintro e w2 ⟨rfl, rfl⟩) | (go_at_call 35; refine (unhide H1 _).mono ?_; rintro e w1 ⟨rfl, rfl⟩; have q1 : True := trivial))
          go_ret3
          exact ⟨rfl, Gr.refl _⟩
        by_cases r4 : 999999 < y
        · obtain ⟨e1, e2⟩ := par_no (s := nums s) (by rw [unhide HO, inZ_hi r4, Bool.and_false, Bool.false_and])
          rw [e1, e2]
          clear e1 e2
          go_enter Tryd.func22, Tryd.ntmps22
          go_wp2_with (first | (go_at_call 35; have q2 := q1; refine (unhide H2 _).mono ?_; rintro e w2 ⟨rfl, rfl⟩) | (go_at_call 35; refine (unhide H1 _).mono ?_; rintro e w1 ⟨rfl, rfl⟩; have q1 : True := trivial))
          go_ret3
          exact ⟨rfl, Gr.refl _⟩
        have HT := hide (fun W => rtext_any x y W (by omega) (by omega) (by omega) (by omega))
        have hcm : ((strOfNums (txt x y)).toList == s.toList) = decide (txt x y = nums s) := str_same _ (txt_bound _ _) s
        by_cases r5 : txt x y = nums s
        · rw [decide_eq_true r5] at hcm
          obtain ⟨e1, e2⟩ := par_yes (s := nums s) (by rw [unhide HO, inZ_yes (by omega) (by omega), inZ_yes (by omega) (by omega), decide_eq_true r5]; rfl)
          rw [e1, e2, unhide HCUT]
          clear e1 e2 r5
          go_enter Tryd.func22, Tryd.ntmps22
          go_wp2_with (first | (go_at_call 29; refine (unhide HT _).mono ?_; rintro e w9 ⟨rfl, g9⟩) | (go_at_call 35; have q2 := q1; refine (unhide H2 _).mono ?_; rintro e w2 ⟨rfl, rfl⟩) | (go_at_call 35; refine (unhide H1 _).mono ?_; rintro e w1 ⟨rfl, rfl⟩; have q1 : True := trivial))
          go_ret3
          exact ⟨rfl, g9⟩
        · rw [decide_eq_false r5] at hcm
          obtain ⟨e1, e2⟩ := par_no (s := nums s) (by rw [unhide HO, decide_eq_false r5, Bool.and_false])
          rw [e1, e2]
          clear e1 e2
          clear r5
          go_enter Tryd.func22, Tryd.ntmps22
          go_wp2_with (first | (go_at_call 29; refine (unhide HT _).mono ?_; rintro e w9 ⟨rfl, g9⟩) | (go_at_call 35; have q2 := q1; refine (unhide H2 _).mono ?_; rintro e w2 ⟨rfl, rfl⟩) | (go_at_call 35; refine (unhide H1 _).mono ?_; rintro e w1 ⟨rfl, rfl⟩; have q1 : True := trivial))
          go_ret3
          exact ⟨rfl, g9⟩
      · have z43 : (c == 43) = false := by simpa using c43
        obtain ⟨⟨k, hk, hr2⟩, hy0, hy1⟩ := takeL_spec ((nums s).drop j)
        rw [List.length_drop, nums_length] at hk
        obtain ⟨y, hy⟩ : ∃ y, (takeL ((nums s).drop j)).1 = y := ⟨_, rfl⟩
        have hT2 : takeL ((nums s).drop j) = (y, (nums s).drop (j + k)) := by rw [← hy, show (nums s).drop (j + k) = ((nums s).drop j).drop k by rw [List.drop_drop], ← hr2]
        rw [hy] at hy0 hy1
        have H2 := hide (fun W => rtake_v s j W (by omega) hs (by omega) hT2)
        have HCUT : Hid (cutG (nums s) = (x, y)) := by show _ = _; unfold cutG; rw [hT]; simp only; rw [if_neg hne, hd, if_neg c105, if_neg c43, hT2]
        have HO := hide (ok_of _ _ _ (unhide HCUT))
        clear hne hd hT hr hx hat hr2 hy hT2 hk c105 c43
        generalize ((j + k : Nat) : Int) = kk at *
        by_cases r1 : x < -999999
        · obtain ⟨e1, e2⟩ := par_no (s := nums s) (by rw [unhide HO, inZ_lo r1, Bool.false_and, Bool.false_and])
          rw [e1, e2]
          clear e1 e2
          go_enter Tryd.func22, Tryd.ntmps22
          go_wp2_with (first | (go_at_call 35; have q2 := q1; refine (unhide H2 _).mono ?_; rintro e w2 ⟨rfl, rfl⟩) | (go_at_call 35; refine (unhide H1 _).mono ?_; rintro e w1 ⟨rfl, rfl⟩; have q1 : True := trivial))
          go_ret3
          exact ⟨rfl, Gr.refl _⟩
        by_cases r2 : 999999 < x
        · obtain ⟨e1, e2⟩ := par_no (s := nums s) (by rw [unhide HO, inZ_hi r2, Bool.false_and, Bool.false_and])
          rw [e1, e2]
          clear e1 e2
          go_enter Tryd.func22, Tryd.ntmps22
          go_wp2_with (first | (go_at_call 35; have q2 := q1; refine (unhide H2 _).mono ?_; rintro e w2 ⟨rfl, rfl⟩) | (go_at_call 35; refine (unhide H1 _).mono ?_; rintro e w1 ⟨rfl, rfl⟩; have q1 : True := trivial))
          go_ret3
          exact ⟨rfl, Gr.refl _⟩
        by_cases r3 : y < -999999
        · obtain ⟨e1, e2⟩ := par_no (s := nums s) (by rw [unhide HO, inZ_lo r3, Bool.and_false, Bool.false_and])
          rw [e1, e2]
          clear e1 e2
          go_enter Tryd.func22, Tryd.ntmps22
          go_wp2_with (first | (go_at_call 35; have q2 := q1; refine (unhide H2 _).mono ?_; rintro e w2 ⟨rfl, rfl⟩) | (go_at_call 35; refine (unhide H1 _).mono ?_; rintro e w1 ⟨rfl, rfl⟩; have q1 : True := trivial))
          go_ret3
          exact ⟨rfl, Gr.refl _⟩
        by_cases r4 : 999999 < y
        · obtain ⟨e1, e2⟩ := par_no (s := nums s) (by rw [unhide HO, inZ_hi r4, Bool.and_false, Bool.false_and])
          rw [e1, e2]
          clear e1 e2
          go_enter Tryd.func22, Tryd.ntmps22
          go_wp2_with (first | (go_at_call 35; have q2 := q1; refine (unhide H2 _).mono ?_; rintro e w2 ⟨rfl, rfl⟩) | (go_at_call 35; refine (unhide H1 _).mono ?_; rintro e w1 ⟨rfl, rfl⟩; have q1 : True := trivial))
          go_ret3
          exact ⟨rfl, Gr.refl _⟩
        have HT := hide (fun W => rtext_any x y W (by omega) (by omega) (by omega) (by omega))
        have hcm : ((strOfNums (txt x y)).toList == s.toList) = decide (txt x y = nums s) := str_same _ (txt_bound _ _) s
        by_cases r5 : txt x y = nums s
        · rw [decide_eq_true r5] at hcm
          obtain ⟨e1, e2⟩ := par_yes (s := nums s) (by rw [unhide HO, inZ_yes (by omega) (by omega), inZ_yes (by omega) (by omega), decide_eq_true r5]; rfl)
          rw [e1, e2, unhide HCUT]
          clear e1 e2 r5
          go_enter Tryd.func22, Tryd.ntmps22
          go_wp2_with (first | (go_at_call 29; refine (unhide HT _).mono ?_; rintro e w9 ⟨rfl, g9⟩) | (go_at_call 35; have q2 := q1; refine (unhide H2 _).mono ?_; rintro e w2 ⟨rfl, rfl⟩) | (go_at_call 35; refine (unhide H1 _).mono ?_; rintro e w1 ⟨rfl, rfl⟩; have q1 : True := trivial))
          go_ret3
          exact ⟨rfl, g9⟩
        · rw [decide_eq_false r5] at hcm
          obtain ⟨e1, e2⟩ := par_no (s := nums s) (by rw [unhide HO, decide_eq_false r5, Bool.and_false])
          rw [e1, e2]
          clear e1 e2
          clear r5
          go_enter Tryd.func22, Tryd.ntmps22
          go_wp2_with (first | (go_at_call 29; refine (unhide HT _).mono ?_; rintro e w9 ⟨rfl, g9⟩) | (go_at_call 35; have q2 := q1; refine (unhide H2 _).mono ?_; rintro e w2 ⟨rfl, rfl⟩) | (go_at_call 35; refine (unhide H1 _).mono ?_; rintro e w1 ⟨rfl, rfl⟩; have q1 : True := trivial))
          go_ret3
          exact ⟨rfl, g9⟩
  · have hzl : ¬ (j : Int) < (s.size : Int) := by omega
    have hnil : (nums s).drop j = [] := List.drop_eq_nil_of_le (by rw [nums_length]; omega)
    have HCUT : Hid (cutG (nums s) = (x, 0)) := by show _ = _; unfold cutG; rw [hT]; simp only; rw [if_pos hnil]
    have HO := hide (ok_of _ _ _ (unhide HCUT))
    clear hnil hT hr hx
    by_cases r1 : x < -999999
    · obtain ⟨e1, e2⟩ := par_no (s := nums s) (by rw [unhide HO, inZ_lo r1, Bool.false_and, Bool.false_and])
      rw [e1, e2]
      clear e1 e2
      go_enter Tryd.func22, Tryd.ntmps22
      go_wp2_with (first | (go_at_call 35; refine (unhide H1 _).mono ?_; rintro e w1 ⟨rfl, rfl⟩; have q1 : True := trivial))
      go_ret3
      exact ⟨rfl, Gr.refl _⟩
    by_cases r2 : 999999 < x
    · obtain ⟨e1, e2⟩ := par_no (s := nums s) (by rw [unhide HO, inZ_hi r2, Bool.false_and, Bool.false_and])
      rw [e1, e2]
      clear e1 e2
      go_enter Tryd.func22, Tryd.ntmps22
      go_wp2_with (first | (go_at_call 35; refine (unhide H1 _).mono ?_; rintro e w1 ⟨rfl, rfl⟩; have q1 : True := trivial))
      go_ret3
      exact ⟨rfl, Gr.refl _⟩
    have HT := hide (fun W => rtext_any x 0 W (by omega) (by omega) (by omega) (by omega))
    have hcm : ((strOfNums (txt x 0)).toList == s.toList) = decide (txt x 0 = nums s) := str_same _ (txt_bound _ _) s
    by_cases r5 : txt x 0 = nums s
    · rw [decide_eq_true r5] at hcm
      obtain ⟨e1, e2⟩ := par_yes (s := nums s) (by rw [unhide HO, inZ_yes (by omega) (by omega), inZ_yes (by omega) (by omega), decide_eq_true r5]; rfl)
      rw [e1, e2, unhide HCUT]
      clear e1 e2 r5
      go_enter Tryd.func22, Tryd.ntmps22
      go_wp2_with (first | (go_at_call 29; refine (unhide HT _).mono ?_; rintro e w9 ⟨rfl, g9⟩) | (go_at_call 35; refine (unhide H1 _).mono ?_; rintro e w1 ⟨rfl, rfl⟩; have q1 : True := trivial))
      go_ret3
      exact ⟨rfl, g9⟩
    · rw [decide_eq_false r5] at hcm
      obtain ⟨e1, e2⟩ := par_no (s := nums s) (by rw [unhide HO, decide_eq_false r5, Bool.and_false])
      rw [e1, e2]
      clear e1 e2
      clear r5
      go_enter Tryd.func22, Tryd.ntmps22
      go_wp2_with (first | (go_at_call 29; refine (unhide HT _).mono ?_; rintro e w9 ⟨rfl, g9⟩) | (go_at_call 35; refine (unhide H1 _).mono ?_; rintro e w1 ⟨rfl, rfl⟩; have q1 : True := trivial))
      go_ret3
      exact ⟨rfl, g9⟩
end Go.Proofs.YtpkofpgdnbkknaaDoor
