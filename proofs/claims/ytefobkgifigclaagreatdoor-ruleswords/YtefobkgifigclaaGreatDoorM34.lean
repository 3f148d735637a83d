/- The document's Word and Check of layer 18. -/
import Derived.Test.YtefobkgifigclaaGreatDoorM28
namespace Go.Proofs.YtefobkgifigclaaGreatDoor.S18
set_option maxRecDepth 100000
open Go.RowKit

theorem wrd_long {l : List Int} (h : l.length < 1 ∨ 16 < l.length) : wrdB l = false := by
  unfold wrdB
  rw [decide_eq_false (by omega)]
  rfl
/-- A word, told byte by byte. -/
def wrdK (l : List Int) (k : Nat) : Bool := wrdC (l.getD k 0) && (decide (k ≠ 0) || lowB (l.getD k 0))
theorem wrd_yes {l : List Int} (h1 : 1 ≤ l.length) (h2 : l.length ≤ 16) (h : ∀ k, k < l.length → wrdK l k = true) : wrdB l = true := by
  unfold wrdB
  rw [decide_eq_true ⟨h1, h2⟩, all_of wrdC 0 l (fun k hk => by have := h k hk; unfold wrdK at this; simp only [Bool.and_eq_true] at this; exact this.1)]
  have := h 0 (by omega)
  unfold wrdK at this
  simp at this
  simp [this.2]
theorem wrd_no {l : List Int} {k : Nat} (hk : k < l.length) (h : wrdK l k = false) : wrdB l = false := by
  cases hw : wrdB l
  · rfl
  · exfalso
    unfold wrdB at hw
    simp only [Bool.and_eq_true] at hw
    have ha := all_at (d := 0) hw.2.2 k hk
    unfold wrdK at h
    rw [ha, Bool.true_and, Bool.or_eq_false_iff, decide_eq_false_iff_not] at h
    obtain ⟨h1, h2⟩ := h
    have e : k = 0 := by omega
    subst e
    rw [hw.2.1] at h2
    cases h2
theorem wrdK_eq (l : List Int) (k : Nat) (c : Int) (hc : l.getD k 0 = c) : wrdK l k = ((decide (97 ≤ c) && decide (c ≤ 122)) || (decide (k ≠ 0) && ((decide (48 ≤ c) && decide (c ≤ 57)) || decide (c = 45)))) := by
  unfold wrdK wrdC lowB digB
  rw [hc, Bool.eq_iff_iff]
  simp
  omega
theorem okP_no {p : Pr} (h : wrdB (nums p.nam) = false ∨ p.val.size = 0 ∨ 400 < p.val.size) : okP p = false := by
  unfold okP
  rcases h with h | h
  · rw [h]; rfl
  · rw [decide_eq_false (by omega), Bool.and_false]
theorem okP_yes {p : Pr} (h : wrdB (nums p.nam) = true) (h1 : p.val.size ≠ 0) (h2 : ¬ 400 < p.val.size) : okP p = true := by
  unfold okP
  rw [h, decide_eq_true (by omega)]
  rfl
theorem okR_len {r : List Pr} (h : r.length = 0 ∨ 3 < r.length) : okR r = false := by
  unfold okR
  rw [decide_eq_false (by omega)]
  rfl
theorem okR_no {r : List Pr} {k : Nat} (hk : k < r.length) (h : okP (r.getD k pr0) = false) : okR r = false := by
  cases hr : okR r
  · rfl
  · have := (okR_parts hr).2 _ (getD_memP r k hk)
    rw [this] at h
    cases h
theorem okR_yes {r : List Pr} (h0 : r.length ≠ 0) (h1 : ¬ 3 < r.length) (h : ∀ k, k < r.length → okP (r.getD k pr0) = true) : okR r = true := by
  unfold okR
  rw [decide_eq_true (by omega), all_of okP pr0 r h]
  rfl
theorem okN_len {n : List (List Pr)} (h : 6 < n.length) : okN n = false := by
  unfold okN
  rw [decide_eq_false (by omega)]
  rfl
theorem okN_no {n : List (List Pr)} {k : Nat} (hk : k < n.length) (h : okR (n.getD k []) = false) : okN n = false := by
  cases hr : okN n
  · rfl
  · have := (okN_parts hr).2 _ (getD_memR n k hk)
    rw [this] at h
    cases h
theorem okN_yes {n : List (List Pr)} (h1 : ¬ 6 < n.length) (h : ∀ k, k < n.length → okR (n.getD k []) = true) : okN n = true := by
  unfold okN
  rw [decide_eq_true (by omega), all_of okR [] n h]
  rfl
theorem ok_next {α : Type} {p : α → Bool} {d : α} {l : List α} {k : Nat} (h : ∀ j, j < k → p (l.getD j d) = true) (h1 : p (l.getD k d) = true) : ∀ j, j < k + 1 → p (l.getD j d) = true := fun j hj => by
  by_cases e : j = k
  · rw [e]; exact h1
  · exact h j (by omega)
end Go.Proofs.YtefobkgifigclaaGreatDoor.S18
/- The landed Word and Check of layer 18. -/
namespace Go.Proofs.YtefobkgifigclaaGreatDoor.S18
set_option maxRecDepth 100000
open Go.RowKit

set_option maxHeartbeats 800000 in
theorem letter_any (c : Int) (w : World) : Calls Tryz.prog 131 #[.int .u8 c] w fun e w' => e = .returned (.bool (lowB c)) ∧ w = w' := by
  have e : lowB c = (decide (97 ≤ c) && decide (c ≤ 122)) := by unfold lowB; rw [Bool.eq_iff_iff]; simp
  rw [e]
  clear e
  by_cases h1 : 97 ≤ c <;> by_cases h2 : c ≤ 122 <;> simp only [h1, h2, decide_true, decide_false, Bool.and_true, Bool.and_false]
  all_goals
    go_enter Tryz.func131, Tryz.ntmps131
    go_wp2
    go_ret
    exact ⟨rfl, rfl⟩
set_option maxHeartbeats 800000 in
theorem digit_any (c : Int) (w : World) : Calls Tryz.prog 132 #[.int .u8 c] w fun e w' => e = .returned (.bool (digB c)) ∧ w = w' := by
  have e : digB c = (decide (48 ≤ c) && decide (c ≤ 57)) := by unfold digB; rw [Bool.eq_iff_iff]; simp
  rw [e]
  clear e
  by_cases h1 : 48 ≤ c <;> by_cases h2 : c ≤ 57 <;> simp only [h1, h2, decide_true, decide_false, Bool.and_true, Bool.and_false]
  all_goals
    go_enter Tryz.func132, Tryz.ntmps132
    go_wp2
    go_ret
    exact ⟨rfl, rfl⟩
theorem wrd_first {l : List Int} (h : lowB (l.getD 0 0) = false) : wrdB l = false := by
  unfold wrdB
  rw [h, Bool.false_and, Bool.and_false]
theorem wrd_bad {l : List Int} {k : Nat} (hk : k < l.length) (h : wrdC (l.getD k 0) = false) : wrdB l = false := by
  cases hw : wrdB l
  · rfl
  · unfold wrdB at hw
    simp only [Bool.and_eq_true] at hw
    rw [all_at (d := 0) hw.2.2 k hk] at h
    cases h
theorem wrd_good {l : List Int} (h1 : 1 ≤ l.length) (h2 : l.length ≤ 16) (h0 : lowB (l.getD 0 0) = true) (h : ∀ k, k < l.length → wrdC (l.getD k 0) = true) : wrdB l = true := by
  unfold wrdB
  rw [decide_eq_true ⟨h1, h2⟩, h0, all_of wrdC 0 l h]
  rfl
set_option maxHeartbeats 3200000 in
theorem word_any (s : ByteArray) (w : World) : Calls Tryz.prog 95 #[.string s] w fun e w' => e = .returned (.bool (wrdB (nums s))) ∧ w = w' := by
  have HL := hide letter_any
  have HD := hide digit_any
  by_cases h1 : s.size < 1
  · have z1 : (s.size : Int) < 1 := by omega
    have HE := hide (wrd_long (l := nums s) (by rw [nums_length]; omega))
    generalize wrdB (nums s) = r at *
    go_enter Tryz.func95, Tryz.ntmps95
    go_wp2
    go_ret
    exact ⟨ret_bool (unhide HE).symm, rfl⟩
  by_cases h2 : 16 < s.size
  · have z1 : ¬ (s.size : Int) < 1 := by omega
    have z2 : 16 < (s.size : Int) := by omega
    have HE := hide (wrd_long (l := nums s) (by rw [nums_length]; omega))
    generalize wrdB (nums s) = r at *
    go_enter Tryz.func95, Tryz.ntmps95
    go_wp2
    go_ret
    exact ⟨ret_bool (unhide HE).symm, rfl⟩
  have z1 : ¬ (s.size : Int) < 1 := by omega
  have z2 : ¬ 16 < (s.size : Int) := by omega
  have z00 : (0 : Int) < (s.size : Int) := by omega
  have h00 : 0 < s.size := by omega
  obtain ⟨c0, hc0⟩ : ∃ c : Int, (s[0].toNat : Int) = c := ⟨_, rfl⟩
  have C0 : Hid ((nums s).getD 0 0 = c0) := by show _ = _; rw [nums_at s 0 h00]; exact hc0
  have CL := hide (unhide HL c0 w)
  cases hlow : lowB c0 <;> rw [hlow] at CL
  · have HE := hide (wrd_first (l := nums s) (by rw [unhide C0]; exact hlow))
    clear hlow
    generalize wrdB (nums s) = r at *
    go_enter Tryz.func95, Tryz.ntmps95
    go_wp2_with (go_at_call 131; refine (unhide CL).mono ?_; rintro e w3 ⟨rfl, rfl⟩)
    go_ret
    exact ⟨ret_bool (unhide HE).symm, rfl⟩
  have HLOW : Hid (lowB ((nums s).getD 0 0) = true) := by show _ = _; rw [unhide C0]; exact hlow
  clear hlow
  go_enter Tryz.func95, Tryz.ntmps95
  go_wp2_with (go_at_call 131; refine (unhide CL).mono ?_; rintro e w3 ⟨rfl, rfl⟩)
  clear hc0 CL C0
  go_loopw [20] (fun i wr => ∃ k : Nat, k ≤ s.size ∧ i = .int .i64 k ∧ Hid (∀ j, j < k → wrdC ((nums s).getD j 0) = true) ∧ wr = w) (fun i _ => s.size - (intOf i).toNat)
  case atStart => exact ⟨0, Nat.zero_le _, rfl, fun j hj => absurd hj (Nat.not_lt_zero _), rfl⟩
  case round =>
    obtain ⟨k, hk, rfl, HK, rfl⟩ := hrel
    by_cases hlt : k < s.size
    · have hzl : (k : Int) < (s.size : Int) := by omega
      have hz0 : (0 : Int) ≤ (k : Int) := by omega
      obtain ⟨c, hc⟩ : ∃ c : Int, (s[k].toNat : Int) = c := ⟨_, rfl⟩
      have HQ : Hid ((nums s).getD k 0 = c) := by show _ = _; rw [nums_at s k hlt]; exact hc
      have HN : Hid (wrdC c = false → wrdB (nums s) = false) := fun h => wrd_bad (k := k) (by rw [nums_length]; exact hlt) (by rw [unhide HQ]; exact h)
      have HY : Hid (wrdC c = true → ∀ j, j < k + 1 → wrdC ((nums s).getD j 0) = true) := fun h => ok_next (unhide HK) (by rw [unhide HQ]; exact h)
      have CL := hide (unhide HL c wr)
      have CD := hide (unhide HD c wr)
      have HW : Hid (wrdC c = (lowB c || (digB c || decide (c = 45)))) := rfl
      clear HQ
      by_cases a1 : lowB c = true
      · rw [a1] at CL
        have HE := hide (unhide HY (by rw [unhide HW, a1]; rfl))
        clear a1
        go_wp2_with (go_at_call 131; refine (unhide CL).mono ?_; rintro e w3 ⟨rfl, rfl⟩)
        go_roundw
        case rel => exact ⟨k + 1, by omega, by go_num, unhide HE, trivial⟩
        case measure => simp [intOf]; omega
      rw [Bool.not_eq_true] at a1
      rw [a1] at CL
      by_cases a2 : digB c = true
      · rw [a2] at CD
        have HE := hide (unhide HY (by rw [unhide HW, a1, a2]; rfl))
        clear a1 a2
        go_wp2_with (first | (go_at_call 132; refine (unhide CD).mono ?_; rintro e w3 ⟨rfl, rfl⟩) | (go_at_call 131; refine (unhide CL).mono ?_; rintro e w3 ⟨rfl, rfl⟩))
        go_roundw
        case rel => exact ⟨k + 1, by omega, by go_num, unhide HE, trivial⟩
        case measure => simp [intOf]; omega
      rw [Bool.not_eq_true] at a2
      rw [a2] at CD
      have a5' : (c == 45) = decide (c = 45) := by rfl
      by_cases a3 : c = 45
      · have HE := hide (unhide HY (by rw [unhide HW, a1, a2, decide_eq_true a3]; rfl))
        clear a1 a2 a5'
        subst a3
        go_wp2_with (first | (go_at_call 132; refine (unhide CD).mono ?_; rintro e w3 ⟨rfl, rfl⟩) | (go_at_call 131; refine (unhide CL).mono ?_; rintro e w3 ⟨rfl, rfl⟩))
        go_roundw
        case rel => exact ⟨k + 1, by omega, by go_num, unhide HE, trivial⟩
        case measure => simp [intOf]; omega
      · have HE := hide (unhide HN (by rw [unhide HW, a1, a2, decide_eq_false a3]; rfl))
        clear a1 a2
        go_wp2_with (first | (go_at_call 132; refine (unhide CD).mono ?_; rintro e w3 ⟨rfl, rfl⟩) | (go_at_call 131; refine (unhide CL).mono ?_; rintro e w3 ⟨rfl, rfl⟩))
        go_ret
        exact ⟨ret_bool (unhide HE).symm, rfl⟩
    · have hzl : ¬ (k : Int) < (s.size : Int) := by omega
      have HE : Hid (wrdB (nums s) = true) := wrd_good (by rw [nums_length]; omega) (by rw [nums_length]; omega) (unhide HLOW) (fun j hj => unhide HK j (by rw [nums_length] at hj; omega))
      go_wp2
      go_ret
      exact ⟨ret_bool (unhide HE).symm, rfl⟩
set_option maxHeartbeats 1600000 in
theorem wrong_any (p : Pr) (w : World) : Calls Tryz.prog 60 #[.agg #[.string p.nam, .string p.val]] w fun e w' => e = .returned (.bool (!okP p)) ∧ Gr w w' := by
  have CW := hide (word_any p.nam)
  cases hw : wrdB (nums p.nam) <;> rw [hw] at CW
  · have HE := hide (okP_no (.inl hw))
    clear hw
    generalize okP p = r at *
    go_enter Tryz.func60, Tryz.ntmps60
    go_wp2_with (go_at_call 95; refine (unhide CW _).mono ?_; rintro e w3 ⟨rfl, rfl⟩)
    go_ret
    exact ⟨ret_bool (by rw [unhide HE]; rfl), Gr.one _ _⟩
  · by_cases v0 : p.val.size < 1
    · have y0 : (p.val.size : Int) < 1 := by omega
      have HE := hide (okP_no (p := p) (.inr (.inl (by omega))))
      clear hw
      generalize okP p = r at *
      go_enter Tryz.func60, Tryz.ntmps60
      go_wp2_with (go_at_call 95; refine (unhide CW _).mono ?_; rintro e w3 ⟨rfl, rfl⟩)
      go_ret
      exact ⟨ret_bool (by rw [unhide HE]; rfl), Gr.one _ _⟩
    · have y0 : ¬ (p.val.size : Int) < 1 := by omega
      by_cases v4 : 400 < p.val.size
      · have y4 : 400 < (p.val.size : Int) := by omega
        have HE := hide (okP_no (.inr (.inr v4)))
        clear hw
        generalize okP p = r at *
        go_enter Tryz.func60, Tryz.ntmps60
        go_wp2_with (go_at_call 95; refine (unhide CW _).mono ?_; rintro e w3 ⟨rfl, rfl⟩)
        go_ret
        exact ⟨ret_bool (by rw [unhide HE]; rfl), Gr.one _ _⟩
      · have y4 : ¬ 400 < (p.val.size : Int) := by omega
        have HE := hide (okP_yes hw (by omega) v4)
        clear hw
        generalize okP p = r at *
        go_enter Tryz.func60, Tryz.ntmps60
        go_wp2_with (go_at_call 95; refine (unhide CW _).mono ?_; rintro e w3 ⟨rfl, rfl⟩)
        go_ret
        exact ⟨ret_bool (by rw [unhide HE]; simp; omega), Gr.one _ _⟩
end Go.Proofs.YtefobkgifigclaaGreatDoor.S18
/- The landed Check of layer 18. -/
namespace Go.Proofs.YtefobkgifigclaaGreatDoor.S18
set_option maxRecDepth 100000
open Go.RowKit

theorem all_no {l : List Pr} {k : Nat} (hk : k < l.length) (h : okP (l.getD k pr0) = false) : l.all okP = false := by
  cases ha : l.all okP
  · rfl
  · rw [all_at (d := pr0) ha k hk] at h
    cases h
set_option maxHeartbeats 1600000 in
theorem indexf_any (v : Value) (r : List Pr) (w : World) (hR : PsV w v r) :
    Calls Tryz.prog 94 #[v, .func (.func 60) #[] #[]] w fun e w' => ∃ x : Int, e = .returned (.int .i64 x) ∧ decide (0 ≤ x) = (!(r.all okP)) ∧ Gr w w' := by
  obtain ⟨a, cap, rfl, hn, hc⟩ := hR
  have HC := hide hc
  have HW := hide wrong_any
  have eg : ∀ args w, (callFunc 60 args).run Tryz.prog w = .ok (.enter 60 args) w := enters_of Tryz.func60 (by kernel_rfl) rfl
  clear hc
  go_enter Tryz.func94, Tryz.ntmps94
  go_wp2
  go_loopw [8] (fun i wr => ∃ k : Nat, k ≤ r.length ∧ i = .int .i64 k ∧ Hid (∀ j, j < k → okP (r.getD j pr0) = true) ∧ Gr w wr) (fun i _ => r.length - (intOf i).toNat)
  case atStart => exact ⟨0, Nat.zero_le _, rfl, fun j hj => absurd hj (Nat.not_lt_zero _), Gr.refl _⟩
  case round =>
    obtain ⟨k, hk, rfl, HK, hg⟩ := hrel
    by_cases hlt : k < r.length
    · have hzl : (k : Int) < (r.length : Int) := by omega
      have hz0 : (0 : Int) ≤ (k : Int) := by omega
      obtain ⟨b, off, rfl, hcc⟩ := unhide HC (by omega)
      obtain ⟨q1, q2⟩ := hcc k hlt
      replace q1 := hg.cell q1
      replace q2 := hg.cell q2
      clear hcc
      have HN : Hid (okP (r.getD k pr0) = false → r.all okP = false) := fun h => all_no hlt h
      have HY : Hid (okP (r.getD k pr0) = true → ∀ j, j < k + 1 → okP (r.getD j pr0) = true) := fun h => ok_next (unhide HK) h
      generalize r.getD k pr0 = p at *
      have CW := hide (unhide HW p wr)
      cases hp : okP p <;> rw [hp] at CW
      · have HE := hide (unhide HN hp)
        clear hp
        go_wp2_with (refine (unhide CW).mono ?_; rintro e w3 ⟨rfl, g3⟩)
        go_ret
        exact ⟨_, rfl, by rw [unhide HE]; simp, hg.trans g3⟩
      · have HE := hide (unhide HY hp)
        clear hp
        go_wp2_with (refine (unhide CW).mono ?_; rintro e w3 ⟨rfl, g3⟩)
        go_roundw
        case rel => exact ⟨k + 1, by omega, by go_num, unhide HE, hg.trans g3⟩
        case measure => simp [intOf]; omega
    · have hzl : ¬ (k : Int) < (r.length : Int) := by omega
      obtain rfl : k = r.length := by omega
      have HE := hide (all_of okP pr0 r (unhide HK))
      go_wp2
      go_ret
      exact ⟨_, rfl, by rw [unhide HE]; rfl, hg⟩
set_option maxHeartbeats 1600000 in
theorem containsf_any (v : Value) (r : List Pr) (w : World) (hR : PsV w v r) :
    Calls Tryz.prog 59 #[v, .func (.func 60) #[] #[]] w fun e w' => e = .returned (.bool (!(r.all okP))) ∧ Gr w w' := by
  have HI := hide (indexf_any v r w hR)
  clear hR
  go_enter Tryz.func59, Tryz.ntmps59
  go_wp2_with (go_at_call 94; refine (unhide HI).mono ?_; rintro e w3 ⟨x, rfl, hx, g3⟩; have HX := hide hx; clear hx)
  go_ret
  exact ⟨ret_bool (unhide HX), g3⟩
theorem okR_all (r : List Pr) (h0 : r.length ≠ 0) (h1 : ¬ 3 < r.length) : okR r = r.all okP := by
  unfold okR
  rw [decide_eq_true (by omega)]
  rfl
set_option maxHeartbeats 3200000 in
theorem check_any (v : Value) (n : List (List Pr)) (w : World) (hV : NmV w v n) : Calls Tryz.prog 39 #[v] w fun e w' => e = .returned (.int .i64 (chkN n)) ∧ Gr w w' := by
  obtain ⟨a, cap, rfl, hcap, hn, hc⟩ := hV
  have HC := hide hc
  have HW := hide containsf_any
  clear hc
  by_cases h6 : 6 < n.length
  · have z : 6 < (n.length : Int) := by omega
    have HE := hide (chk_no (okN_len h6))
    generalize chkN n = x at *
    generalize n.length = m at *
    go_enter Tryz.func39, Tryz.ntmps39
    go_wp2
    go_ret
    exact ⟨ret_int (unhide HE).symm, Gr.refl _⟩
  have z6 : ¬ 6 < (n.length : Int) := by omega
  go_enter Tryz.func39, Tryz.ntmps39
  go_wp2
  go_loopw [10] (fun i wr => ∃ k : Nat, k ≤ n.length ∧ i = .int .i64 k ∧ Hid (∀ j, j < k → okR (n.getD j []) = true) ∧ Gr w wr) (fun i _ => n.length - (intOf i).toNat)
  case atStart => exact ⟨0, Nat.zero_le _, rfl, fun j hj => absurd hj (Nat.not_lt_zero _), Gr.refl _⟩
  case round =>
    obtain ⟨i, hi, rfl, HK, hg⟩ := hrel
    by_cases hlt : i < n.length
    · have hzl : (i : Int) < (n.length : Int) := by omega
      have hz0 : (0 : Int) ≤ (i : Int) := by omega
      obtain ⟨b, off, rfl, hcc⟩ := unhide HC (by omega)
      obtain ⟨rv, c1, hP⟩ := hcc i hlt
      replace c1 := hg.cell c1
      have hP2 := hP.below hg.below
      clear hcc
      have HN : Hid (okR (n.getD i []) = false → chkN n = 220) := fun h => chk_no (okN_no hlt h)
      have HY : Hid (okR (n.getD i []) = true → ∀ j, j < i + 1 → okR (n.getD j []) = true) := fun h => ok_next (unhide HK) h
      generalize n.getD i [] = r at *
      have CC := hide (unhide HW rv r wr hP2)
      obtain ⟨a2, cap2, rfl⟩ := hP2.shape
      clear hP hP2
      by_cases l0 : r.length < 1
      · have z0 : (r.length : Int) < 1 := by omega
        have HE := hide (unhide HN (okR_len (.inl (by omega))))
        clear l0
        go_wp2
        go_ret
        exact ⟨ret_int (unhide HE).symm, hg⟩
      have z0 : ¬ (r.length : Int) < 1 := by omega
      by_cases l3 : 3 < r.length
      · have z3 : 3 < (r.length : Int) := by omega
        have HE := hide (unhide HN (okR_len (.inr l3)))
        go_wp2
        go_ret
        exact ⟨ret_int (unhide HE).symm, hg⟩
      have z3 : ¬ 3 < (r.length : Int) := by omega
      have HA := hide (okR_all r (by omega) l3)
      cases ha : r.all okP <;> rw [ha] at CC
      · have HE := hide (unhide HN (by rw [unhide HA]; exact ha))
        clear ha
        go_wp2_with (go_at_call 59; refine (unhide CC).mono ?_; rintro e w3 ⟨rfl, g3⟩)
        go_ret
        exact ⟨ret_int (unhide HE).symm, hg.trans g3⟩
      · have HE := hide (unhide HY (by rw [unhide HA]; exact ha))
        clear ha
        go_wp2_with (go_at_call 59; refine (unhide CC).mono ?_; rintro e w3 ⟨rfl, g3⟩)
        go_roundw
        case rel => exact ⟨i + 1, by omega, by go_num, unhide HE, hg.trans g3⟩
        case measure => simp [intOf]; omega
    · have hzl : ¬ (i : Int) < (n.length : Int) := by omega
      obtain rfl : i = n.length := by omega
      have HE := hide (chk_yes (okN_yes h6 (unhide HK)))
      go_wp2
      go_ret
      exact ⟨ret_int (unhide HE).symm, hg⟩
end Go.Proofs.YtefobkgifigclaaGreatDoor.S18
