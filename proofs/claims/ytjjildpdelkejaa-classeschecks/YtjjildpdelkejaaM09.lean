/- The landed find of layer 20. -/
import Derived.Test.YtjjildpdelkejaaM08
import Derived.Test.YtjjildpdelkejaaM04
import Derived.Deep.RegionHeld3
import Derived.RangeFuncNested
import Derived.RangeFuncBound
import Derived.RangeFuncCalls
import Derived.RangeFuncLeaves
import Derived.RangeFuncBox
import Derived.Shelf.Abstract
import Derived.Shelf.RegionOpen
import Derived.WalkKit
import Derived.OwnWalkIn
import Derived.TacticsInMore
import Derived.LoopNIn
import Derived.LoopIn
import Derived.Sort.LoopGhostIn
namespace Go.Proofs.Ytjjildpdelkejaa
open Go.RowKit

def fnA (l : List Ty) (n : ByteArray) : Ty := (fndT l n).getD ty0
def fnB (l : List Ty) (n : ByteArray) : Bool := (fndT l n).isSome
theorem fndT_at {l : List Ty} {n : ByteArray} {k : Nat} (hk : k < l.length) (hb : ∀ j, j < k → (l.getD j ty0).nam ≠ n) (h : (l.getD k ty0).nam = n) : fndT l n = some (l.getD k ty0) := by
  induction l generalizing k with
  | nil => simp at hk
  | cons x t ih =>
    unfold fndT at ih ⊢
    cases k with
    | zero => rw [List.find?_cons_of_pos (by simpa using h)]; rfl
    | succ k =>
      have h0 : x.nam ≠ n := by simpa using hb 0 (by omega)
      rw [List.find?_cons_of_neg (by simpa using h0)]
      exact ih (by simpa using hk) (fun j hj => by simpa using hb (j + 1) (by omega)) (by simpa using h)
theorem fndT_not {l : List Ty} {n : ByteArray} (hb : ∀ j, j < l.length → (l.getD j ty0).nam ≠ n) : fndT l n = none := by
  unfold fndT
  rw [List.find?_eq_none]
  intro x hx
  obtain ⟨i, hi, rfl⟩ := List.getElem_of_mem hx
  have := hb i hi
  simpa [List.getD, hi] using this
set_option maxHeartbeats 3200000 in
theorem find_any (v : Value) (l : List Ty) (n : ByteArray) (w : World) (hV : TysV w v l) : Calls Try.prog 78 #[v, .string n] w fun e w' => e = .returned (.tuple #[aggV (fnA l n), .bool (fnB l n)]) ∧ Below w.heap.size w w' := by
  obtain ⟨a, cap, rfl, hn, hc⟩ := hV
  have HC := hide hc
  have hn2 : (l.length : Int) ≤ 9223372036854775807 := by omega
  clear hc
  go_enter Try.func78, Try.ntmps78
  go_wp2
  go_loopw [10] (fun i wr => ∃ k : Nat, k ≤ l.length ∧ i = .int .i64 (k : Int) ∧ Hid (∀ j, j < k → (l.getD j ty0).nam ≠ n) ∧ Hid (Bt w.heap.size ty0 wr) ∧ Below w.heap.size w wr) (fun i _ => l.length - (intOf i).toNat)
  case atStart => exact ⟨0, Nat.zero_le _, rfl, fun j hj => absurd hj (Nat.not_lt_zero _), heap_new w _, Below.one w _⟩
  case round =>
    obtain ⟨k, hk, rfl, HK, HB, hb⟩ := hrel
    have hsz := hb.size
    by_cases hlt : k < l.length
    · have hzl : (k : Int) < (l.length : Int) := by omega
      have hz0 : (0 : Int) ≤ (k : Int) := by omega
      obtain ⟨b, off, rfl, hcc⟩ := unhide HC (by omega)
      obtain ⟨q0, q1, q2, q3, q4, q5⟩ := (hcc k hlt)
      replace q0 := (hb.cell (cell_lt q0)).trans q0
      replace q1 := (hb.cell (cell_lt q1)).trans q1
      replace q2 := (hb.cell (cell_lt q2)).trans q2
      replace q3 := (hb.cell (cell_lt q3)).trans q3
      replace q4 := (hb.cell (cell_lt q4)).trans q4
      replace q5 := (hb.cell (cell_lt q5)).trans q5
      have HY : Hid ((l.getD k ty0).nam = n → fndT l n = some (l.getD k ty0)) := fun h => fndT_at hlt (unhide HK) h
      have HN : Hid (¬ (l.getD k ty0).nam = n → ∀ j, j < k + 1 → (l.getD j ty0).nam ≠ n) := fun h j hj => by
        by_cases e : j = k
        · rw [e]; exact h
        · exact unhide HK j (by omega)
      clear hcc HC HK
      generalize l.getD k ty0 = t at *
      have hq := txt_beq t.nam n
      have b1 : Below wr.heap.size wr (wr.alloc (.cells #[.string t.nam, .string t.abv, .int .i64 t.syn, .int .i64 t.rul, .bool t.sgl, .bool t.cls] 65)) := Below.one wr _
      have HB1 := hide ((unhide HB).keep b1)
      have hb1 := hb.trans (b1.mono hsz)
      by_cases h : t.nam = n
      · rw [decide_eq_true h] at hq
        have HE := hide (unhide HY h)
        obtain ⟨c0, c1, c2, c3, c4, c5⟩ := (unhide HB1).cells
        simp only [Nat.zero_add] at c1 c2 c3 c4 c5
        have f0 := (unhide HB1).free 0
        have f1 := (unhide HB1).free 1
        have f2 := (unhide HB1).free 2
        have f3 := (unhide HB1).free 3
        have f4 := (unhide HB1).free 4
        have f5 := (unhide HB1).free 5
        clear h HY HN HB b1
        go_wp2
        refine bodyPost_ret (res_cell2 rfl _ _ w.heap.size t rfl ((unhide HB1).put t)) rfl ?_
        exact ⟨ret_av (by unfold fnA; rw [unhide HE]; rfl) (by unfold fnB; rw [unhide HE]; rfl), put_below hb1 (Nat.le_refl _) t⟩
      · rw [decide_eq_false h] at hq
        have HK2 := hide (unhide HN h)
        clear h HY HN HB b1
        go_wp2
        go_roundw
        case rel => exact ⟨k + 1, by omega, by go_num, unhide HK2, unhide HB1, hb1⟩
        case measure => simp [intOf]; omega
    · have hzl : ¬ (k : Int) < (l.length : Int) := by omega
      obtain rfl : k = l.length := by omega
      have HE := hide (fndT_not (unhide HK))
      obtain ⟨c0, c1, c2, c3, c4, c5⟩ := (unhide HB).cells
      simp only [Nat.zero_add] at c1 c2 c3 c4 c5
      have f0 := (unhide HB).free 0
      have f1 := (unhide HB).free 1
      have f2 := (unhide HB).free 2
      have f3 := (unhide HB).free 3
      have f4 := (unhide HB).free 4
      have f5 := (unhide HB).free 5
      clear HK HC
      go_wp2
      refine bodyPost_ret (res_cell2 rfl _ _ w.heap.size ty0 rfl ((unhide HB).put ty0)) rfl ?_
      exact ⟨ret_av (by unfold fnA; rw [unhide HE]; rfl) (by unfold fnB; rw [unhide HE]; rfl), put_below hb (Nat.le_refl _) ty0⟩
end Go.Proofs.Ytjjildpdelkejaa
/- The landed Word and Check of layer 18. -/
namespace Go.Proofs.Ytjjildpdelkejaa
open Go.RowKit

set_option maxHeartbeats 800000 in
theorem letter_any (c : Int) (w : World) : Calls Try.prog 69 #[.int .u8 c] w fun e w' => e = .returned (.bool (lowB c)) ∧ w = w' := by
  have e : lowB c = (decide (97 ≤ c) && decide (c ≤ 122)) := by unfold lowB; rw [Bool.eq_iff_iff]; simp
  rw [e]
  clear e
  by_cases h1 : 97 ≤ c <;> by_cases h2 : c ≤ 122 <;> simp only [h1, h2, decide_true, decide_false, Bool.and_true, Bool.and_false]
  all_goals
    go_enter Try.func69, Try.ntmps69
    go_wp2
    go_ret
    exact ⟨rfl, rfl⟩
set_option maxHeartbeats 800000 in
theorem digit_any (c : Int) (w : World) : Calls Try.prog 70 #[.int .u8 c] w fun e w' => e = .returned (.bool (digB c)) ∧ w = w' := by
  have e : digB c = (decide (48 ≤ c) && decide (c ≤ 57)) := by unfold digB; rw [Bool.eq_iff_iff]; simp
  rw [e]
  clear e
  by_cases h1 : 48 ≤ c <;> by_cases h2 : c ≤ 57 <;> simp only [h1, h2, decide_true, decide_false, Bool.and_true, Bool.and_false]
  all_goals
    go_enter Try.func70, Try.ntmps70
    go_wp2
    go_ret
    exact ⟨rfl, rfl⟩
theorem wrd_first {l : List Int} (h : lowB (l.getD 0 0) = false) : wrdB l = false := by
  unfold wrdB
  rw [h, Bool.false_and, Bool.and_false]
theorem wrd_bad {l : List Int} {k : Nat} (hk : k < l.length) (h : wrdC (l.getD k 0) = false) : wrdB l = false := by
  cases hw : wrdB l
  · rfl
  · unfold wrdB at hw
    simp only [Bool.and_eq_true] at hw
    rw [all_at (d := 0) hw.2.2 k hk] at h
    cases h
theorem wrd_good {l : List Int} (h1 : 1 ≤ l.length) (h2 : l.length ≤ 16) (h0 : lowB (l.getD 0 0) = true) (h : ∀ k, k < l.length → wrdC (l.getD k 0) = true) : wrdB l = true := by
  unfold wrdB
  rw [decide_eq_true ⟨h1, h2⟩, h0, all_of wrdC 0 l h]
  rfl
set_option maxHeartbeats 3200000 in
theorem word_any (s : ByteArray) (w : World) : Calls Try.prog 48 #[.string s] w fun e w' => e = .returned (.bool (wrdB (nums s))) ∧ w = w' := by
  have HL := hide letter_any
  have HD := hide digit_any
  by_cases h1 : s.size < 1
  · have z1 : (s.size : Int) < 1 := by omega
    have HE := hide (wrd_long (l := nums s) (by rw [nums_length]; omega))
    generalize wrdB (nums s) = r at *
    go_enter Try.func48, Try.ntmps48
    go_wp2
    go_ret
    exact ⟨ret_bool (unhide HE).symm, rfl⟩
  by_cases h2 : 16 < s.size
  · have z1 : ¬ (s.size : Int) < 1 := by omega
    have z2 : 16 < (s.size : Int) := by omega
    have HE := hide (wrd_long (l := nums s) (by rw [nums_length]; omega))
    generalize wrdB (nums s) = r at *
    go_enter Try.func48, Try.ntmps48
    go_wp2
    go_ret
    exact ⟨ret_bool (unhide HE).symm, rfl⟩
  have z1 : ¬ (s.size : Int) < 1 := by omega
  have z2 : ¬ 16 < (s.size : Int) := by omega
  have z00 : (0 : Int) < (s.size : Int) := by omega
  have h00 : 0 < s.size := by omega
  obtain ⟨c0, hc0⟩ : ∃ c : Int, (s[0].toNat : Int) = c := ⟨_, rfl⟩
  have C0 : Hid ((nums s).getD 0 0 = c0) := by show _ = _; rw [nums_at s 0 h00]; exact hc0
  have CL := hide (unhide HL c0 w)
  cases hlow : lowB c0 <;> rw [hlow] at CL
  · have HE := hide (wrd_first (l := nums s) (by rw [unhide C0]; exact hlow))
    clear hlow
    generalize wrdB (nums s) = r at *
    go_enter Try.func48, Try.ntmps48
    go_wp2_with (go_at_call 69; refine (unhide CL).mono ?_; rintro e w3 ⟨rfl, rfl⟩)
    go_ret
    exact ⟨ret_bool (unhide HE).symm, rfl⟩
  have HLOW : Hid (lowB ((nums s).getD 0 0) = true) := by show _ = _; rw [unhide C0]; exact hlow
  clear hlow
  go_enter Try.func48, Try.ntmps48
  go_wp2_with (go_at_call 69; refine (unhide CL).mono ?_; rintro e w3 ⟨rfl, rfl⟩)
  clear hc0 CL C0
  go_loopw [20] (fun i wr => ∃ k : Nat, k ≤ s.size ∧ i = .int .i64 k ∧ Hid (∀ j, j < k → wrdC ((nums s).getD j 0) = true) ∧ wr = w) (fun i _ => s.size - (intOf i).toNat)
  case atStart => exact ⟨0, Nat.zero_le _, rfl, fun j hj => absurd hj (Nat.not_lt_zero _), rfl⟩
  case round =>
    obtain ⟨k, hk, rfl, HK, rfl⟩ := hrel
    by_cases hlt : k < s.size
    · have hzl : (k : Int) < (s.size : Int) := by omega
      have hz0 : (0 : Int) ≤ (k : Int) := by omega
      obtain ⟨c, hc⟩ : ∃ c : Int, (s[k].toNat : Int) = c := ⟨_, rfl⟩
      have HQ : Hid ((nums s).getD k 0 = c) := by show _ = _; rw [nums_at s k hlt]; exact hc
      have HN : Hid (wrdC c = false → wrdB (nums s) = false) := fun h => wrd_bad (k := k) (by rw [nums_length]; exact hlt) (by rw [unhide HQ]; exact h)
      have HY : Hid (wrdC c = true → ∀ j, j < k + 1 → wrdC ((nums s).getD j 0) = true) := fun h => ok_next (unhide HK) (by rw [unhide HQ]; exact h)
      have CL := hide (unhide HL c wr)
      have CD := hide (unhide HD c wr)
      have HW : Hid (wrdC c = (lowB c || (digB c || decide (c = 45)))) := rfl
      clear HQ
      by_cases a1 : lowB c = true
      · rw [a1] at CL
        have HE := hide (unhide HY (by rw [unhide HW, a1]; rfl))
        clear a1
        go_wp2_with (go_at_call 69; refine (unhide CL).mono ?_; rintro e w3 ⟨rfl, rfl⟩)
        go_roundw
        case rel => exact ⟨k + 1, by omega, by go_num, unhide HE, trivial⟩
        case measure => simp [intOf]; omega
      rw [Bool.not_eq_true] at a1
      rw [a1] at CL
      by_cases a2 : digB c = true
      · rw [a2] at CD
        have HE := hide (unhide HY (by rw [unhide HW, a1, a2]; rfl))
        clear a1 a2
        go_wp2_with (first | (go_at_call 70; refine (unhide CD).mono ?_; rintro e w3 ⟨rfl, rfl⟩) | (go_at_call 69; refine (unhide CL).mono ?_; rintro e w3 ⟨rfl, rfl⟩))
        go_roundw
        case rel => exact ⟨k + 1, by omega, by go_num, unhide HE, trivial⟩
        case measure => simp [intOf]; omega
      rw [Bool.not_eq_true] at a2
      rw [a2] at CD
      have a5' : (c == 45) = decide (c = 45) := by rfl
      by_cases a3 : c = 45
      · have HE := hide (unhide HY (by rw [unhide HW, a1, a2, decide_eq_true a3]; rfl))
        clear a1 a2 a5'
        subst a3
        go_wp2_with (first | (go_at_call 70; refine (unhide CD).mono ?_; rintro e w3 ⟨rfl, rfl⟩) | (go_at_call 69; refine (unhide CL).mono ?_; rintro e w3 ⟨rfl, rfl⟩))
        go_roundw
        case rel => exact ⟨k + 1, by omega, by go_num, unhide HE, trivial⟩
        case measure => simp [intOf]; omega
      · have HE := hide (unhide HN (by rw [unhide HW, a1, a2, decide_eq_false a3]; rfl))
        clear a1 a2
        go_wp2_with (first | (go_at_call 70; refine (unhide CD).mono ?_; rintro e w3 ⟨rfl, rfl⟩) | (go_at_call 69; refine (unhide CL).mono ?_; rintro e w3 ⟨rfl, rfl⟩))
        go_ret
        exact ⟨ret_bool (unhide HE).symm, rfl⟩
    · have hzl : ¬ (k : Int) < (s.size : Int) := by omega
      have HE : Hid (wrdB (nums s) = true) := wrd_good (by rw [nums_length]; omega) (by rw [nums_length]; omega) (unhide HLOW) (fun j hj => unhide HK j (by rw [nums_length] at hj; omega))
      go_wp2
      go_ret
      exact ⟨ret_bool (unhide HE).symm, rfl⟩
end Go.Proofs.Ytjjildpdelkejaa
/- Contains of numbers and of texts; the landed Known, Rules and fit. -/
namespace Go.Proofs.Ytjjildpdelkejaa
open Go.RowKit

def hasI (zs : List Int) (x : Int) : Bool := zs.any fun y => decide (x = y)
def hasT (zs : List ByteArray) (x : ByteArray) : Bool := zs.any fun y => decide (x = y)
theorem hasI_yes {zs : List Int} {x : Int} {k : Nat} (hk : k < zs.length) (h : x = zs.getD k 0) : hasI zs x = true := by
  unfold hasI
  rw [List.any_eq_true]
  exact ⟨zs.getD k 0, by simp [List.getD, hk], decide_eq_true h⟩
theorem hasI_no {zs : List Int} {x : Int} (h : ∀ k, k < zs.length → x ≠ zs.getD k 0) : hasI zs x = false := by
  unfold hasI
  rw [List.any_eq_false]
  intro y hy
  obtain ⟨i, hi, rfl⟩ := List.getElem_of_mem hy
  have := h i hi
  simpa [List.getD, hi] using this
theorem hasT_yes {zs : List ByteArray} {x : ByteArray} {k : Nat} (hk : k < zs.length) (h : x = zs.getD k te) : hasT zs x = true := by
  unfold hasT
  rw [List.any_eq_true]
  exact ⟨zs.getD k te, by simp [List.getD, hk], decide_eq_true h⟩
theorem hasT_no {zs : List ByteArray} {x : ByteArray} (h : ∀ k, k < zs.length → x ≠ zs.getD k te) : hasT zs x = false := by
  unfold hasT
  rw [List.any_eq_false]
  intro y hy
  obtain ⟨i, hi, rfl⟩ := List.getElem_of_mem hy
  have := h i hi
  simpa [List.getD, hi] using this
set_option maxHeartbeats 1600000 in
theorem indexI_any (v : Value) (zs : List Int) (x : Int) (w : World) (hR : Row w v zs) (hl : zs.length ≤ 1000) : Calls Try.prog 91 #[v, .int .i64 x] w fun e w' => ∃ z : Int, e = .returned (.int .i64 z) ∧ decide (0 ≤ z) = hasI zs x ∧ w = w' := by
  obtain ⟨a, cap, rfl, hc⟩ := hR
  have HC := hide hc
  clear hc
  go_enter Try.func91, Try.ntmps91
  go_wp2
  go_loop [8] (fun i => ∃ k : Nat, k ≤ zs.length ∧ i = .int .i64 (k : Int) ∧ Hid (∀ j, j < k → x ≠ zs.getD j 0)) (fun i => zs.length - (intOf i).toNat)
  case atStart => exact ⟨0, Nat.zero_le _, rfl, fun j hj => absurd hj (Nat.not_lt_zero _)⟩
  case round =>
    obtain ⟨k, hk, rfl, HK⟩ := hrel
    by_cases hlt : k < zs.length
    · have hzl : (k : Int) < (zs.length : Int) := by omega
      have hz0 : (0 : Int) ≤ (k : Int) := by omega
      obtain ⟨b, off, rfl, hcc⟩ := unhide HC (by omega)
      have q0 := hcc k hlt
      have HY : Hid (x = zs.getD k 0 → hasI zs x = true) := fun h => hasI_yes hlt h
      have HN : Hid (¬ x = zs.getD k 0 → ∀ j, j < k + 1 → x ≠ zs.getD j 0) := fun h j hj => by
        by_cases e : j = k
        · rw [e]; exact h
        · exact unhide HK j (by omega)
      clear hcc HC HK
      generalize zs.getD k 0 = t at *
      by_cases h : x = t
      · have hq : (x == t) = true := by simpa using h
        have HE := hide (unhide HY h)
        clear h HY HN
        go_wp2
        go_ret
        exact ⟨_, rfl, by rw [unhide HE]; exact decide_eq_true hz0, rfl⟩
      · have hq : (x == t) = false := by simpa using h
        have HK2 := hide (unhide HN h)
        clear h HY HN
        go_wp2
        go_round
        case rel => exact ⟨k + 1, by omega, by go_num, unhide HK2⟩
        case measure => simp [intOf]; omega
    · have hzl : ¬ (k : Int) < (zs.length : Int) := by omega
      obtain rfl : k = zs.length := by omega
      have HE := hide (hasI_no (unhide HK))
      clear HK HC
      go_wp2
      go_ret
      exact ⟨_, rfl, by rw [unhide HE]; rfl, rfl⟩
set_option maxHeartbeats 1600000 in
theorem indexT_any (v : Value) (zs : List ByteArray) (x : ByteArray) (w : World) (hR : TsV w v zs) : Calls Try.prog 58 #[v, .string x] w fun e w' => ∃ z : Int, e = .returned (.int .i64 z) ∧ decide (0 ≤ z) = hasT zs x ∧ w = w' := by
  obtain ⟨a, cap, rfl, hn, hc⟩ := hR
  have HC := hide hc
  clear hc
  go_enter Try.func58, Try.ntmps58
  go_wp2
  go_loop [8] (fun i => ∃ k : Nat, k ≤ zs.length ∧ i = .int .i64 (k : Int) ∧ Hid (∀ j, j < k → x ≠ zs.getD j te)) (fun i => zs.length - (intOf i).toNat)
  case atStart => exact ⟨0, Nat.zero_le _, rfl, fun j hj => absurd hj (Nat.not_lt_zero _)⟩
  case round =>
    obtain ⟨k, hk, rfl, HK⟩ := hrel
    by_cases hlt : k < zs.length
    · have hzl : (k : Int) < (zs.length : Int) := by omega
      have hz0 : (0 : Int) ≤ (k : Int) := by omega
      obtain ⟨b, off, rfl, hcc⟩ := unhide HC (by omega)
      have q0 := hcc k hlt
      have HY : Hid (x = zs.getD k te → hasT zs x = true) := fun h => hasT_yes hlt h
      have HN : Hid (¬ x = zs.getD k te → ∀ j, j < k + 1 → x ≠ zs.getD j te) := fun h j hj => by
        by_cases e : j = k
        · rw [e]; exact h
        · exact unhide HK j (by omega)
      clear hcc HC HK
      generalize zs.getD k te = t at *
      have hq := txt_beq x t
      by_cases h : x = t
      · rw [decide_eq_true h] at hq
        have HE := hide (unhide HY h)
        clear h HY HN
        go_wp2
        go_ret
        exact ⟨_, rfl, by rw [unhide HE]; exact decide_eq_true hz0, rfl⟩
      · rw [decide_eq_false h] at hq
        have HK2 := hide (unhide HN h)
        clear h HY HN
        go_wp2
        go_round
        case rel => exact ⟨k + 1, by omega, by go_num, unhide HK2⟩
        case measure => simp [intOf]; omega
    · have hzl : ¬ (k : Int) < (zs.length : Int) := by omega
      obtain rfl : k = zs.length := by omega
      have HE := hide (hasT_no (unhide HK))
      clear HK HC
      go_wp2
      go_ret
      exact ⟨_, rfl, by rw [unhide HE]; rfl, rfl⟩
set_option maxHeartbeats 800000 in
theorem containsI_any (v : Value) (zs : List Int) (x : Int) (w : World) (hR : Row w v zs) (hl : zs.length ≤ 1000) : Calls Try.prog 76 #[v, .int .i64 x] w fun e w' => e = .returned (.bool (hasI zs x)) ∧ w = w' := by
  have HI := hide (indexI_any v zs x w hR hl)
  clear hR
  go_enter Try.func76, Try.ntmps76
  go_wp2_with (go_at_call 91; refine (unhide HI).mono ?_; rintro e w2 ⟨z, rfl, hz, rfl⟩)
  go_ret
  exact ⟨rfl, rfl⟩
set_option maxHeartbeats 800000 in
theorem containsT_any (v : Value) (zs : List ByteArray) (x : ByteArray) (w : World) (hR : TsV w v zs) : Calls Try.prog 35 #[v, .string x] w fun e w' => e = .returned (.bool (hasT zs x)) ∧ w = w' := by
  have HI := hide (indexT_any v zs x w hR)
  clear hR
  go_enter Try.func35, Try.ntmps35
  go_wp2_with (go_at_call 58; refine (unhide HI).mono ?_; rintro e w2 ⟨z, rfl, hz, rfl⟩)
  go_ret
  exact ⟨rfl, rfl⟩
set_option maxHeartbeats 800000 in
theorem known_any (s : Int) (w : World) : Calls Try.prog 75 #[.int .i64 s] w fun e w' => e = .returned (.bool (decide (1 ≤ s ∧ s ≤ 10))) ∧ w = w' := by
  by_cases h1 : 1 ≤ s
  · by_cases h2 : s ≤ 10
    · rw [decide_eq_true (show 1 ≤ s ∧ s ≤ 10 from ⟨h1, h2⟩)]
      go_enter Try.func75, Try.ntmps75
      go_wp2
      go_ret
      exact ⟨rfl, rfl⟩
    · rw [decide_eq_false (show ¬ (1 ≤ s ∧ s ≤ 10) from fun q => h2 q.2)]
      go_enter Try.func75, Try.ntmps75
      go_wp2
      go_ret
      exact ⟨rfl, rfl⟩
  · rw [decide_eq_false (show ¬ (1 ≤ s ∧ s ≤ 10) from fun q => h1 q.1)]
    go_enter Try.func75, Try.ntmps75
    go_wp2
    go_ret
    exact ⟨rfl, rfl⟩
set_option maxHeartbeats 1600000 in
theorem rules_any (s : Int) (w : World) : Calls Try.prog 77 #[.int .i64 s] w fun e w' => ∃ u, e = .returned u ∧ Row w' u (rulL s) ∧ Below w.heap.size w w' := by
  by_cases h : 1 ≤ s ∧ s ≤ 10
  · have hn : s = 1 ∨ s = 2 ∨ s = 3 ∨ s = 4 ∨ s = 5 ∨ s = 6 ∨ s = 7 ∨ s = 8 ∨ s = 9 ∨ s = 10 := by omega
    clear h
    rcases hn with rfl | rfl | rfl | rfl | rfl | rfl | rfl | rfl | rfl | rfl
    all_goals
      go_enter Try.func77, Try.ntmps77
      go_wp2
      go_ret
      refine ⟨_, rfl, ?_, Below.one _ _⟩
      refine row_of20 ?_ ?_ <;> rfl
  · have HE : Hid (rulL s = []) := by
      show _ = _
      unfold rulL
      rw [if_neg (by omega), if_neg (by omega), if_neg (by omega)]
    have e1 : (s == 1) = false := by rw [beq_eq_false_iff_ne]; omega
    have e2 : (s == 2) = false := by rw [beq_eq_false_iff_ne]; omega
    have e3 : (s == 3) = false := by rw [beq_eq_false_iff_ne]; omega
    have e4 : (s == 4) = false := by rw [beq_eq_false_iff_ne]; omega
    have e5 : (s == 5) = false := by rw [beq_eq_false_iff_ne]; omega
    have e6 : (s == 6) = false := by rw [beq_eq_false_iff_ne]; omega
    have e7 : (s == 7) = false := by rw [beq_eq_false_iff_ne]; omega
    have e8 : (s == 8) = false := by rw [beq_eq_false_iff_ne]; omega
    have e9 : (s == 9) = false := by rw [beq_eq_false_iff_ne]; omega
    have e10 : (s == 10) = false := by rw [beq_eq_false_iff_ne]; omega
    rw [unhide HE]
    clear h HE
    go_enter Try.func77, Try.ntmps77
    go_wp2
    go_ret
    exact ⟨_, rfl, Row.nil _ _ _, Below.refl _ _⟩
theorem rul_fit (s r : Int) : fitR s r = (decide (1 ≤ s ∧ s ≤ 10) && hasI (rulL s) r) := by
  by_cases h : 1 ≤ s ∧ s ≤ 10
  · rw [decide_eq_true h, Bool.true_and]
    unfold fitR hasI
    rw [if_neg (by omega)]
    have hn : s = 1 ∨ s = 2 ∨ s = 3 ∨ s = 4 ∨ s = 5 ∨ s = 6 ∨ s = 7 ∨ s = 8 ∨ s = 9 ∨ s = 10 := by omega
    clear h
    rcases hn with rfl | rfl | rfl | rfl | rfl | rfl | rfl | rfl | rfl | rfl
    all_goals
      rw [Bool.eq_iff_iff]
      simp [rulL]
      try omega
  · rw [decide_eq_false h, Bool.false_and]
    unfold fitR
    rw [if_pos (by omega)]
set_option maxHeartbeats 3200000 in
theorem fit_any (a : Ty) (w : World) : Calls Try.prog 65 #[.agg #[.string a.nam, .string a.abv, .int .i64 a.syn, .int .i64 a.rul, .bool a.sgl, .bool a.cls]] w fun e w' => e = .returned (.bool (fitA a)) ∧ Below w.heap.size w w' := by
  have mx : Try.prog.follows .mixedOrders = true := by kernel_rfl
  have HF : Hid (fitA a = (wrdB (nums a.nam) && (decide (1 ≤ a.syn ∧ a.syn ≤ 10) && hasI (rulL a.syn) a.rul))) := by show _ = _; unfold fitA; rw [rul_fit]
  have CW := hide (fun W => (word_any a.nam W))
  have CK := hide (fun W => (known_any a.syn W))
  have CR := hide (fun W => (rules_any a.syn W))
  have CC := hide (fun v W (h : Row W v (rulL a.syn)) => containsI_any v (rulL a.syn) a.rul W h (by have := rul_len a.syn; omega))
  have B0 : Hid (Bt w.heap.size a (w.alloc (.cells #[.string a.nam, .string a.abv, .int .i64 a.syn, .int .i64 a.rul, .bool a.sgl, .bool a.cls] 65))) := heap_new w _
  have b0 := Below.one w (.cells #[.string a.nam, .string a.abv, .int .i64 a.syn, .int .i64 a.rul, .bool a.sgl, .bool a.cls] 65)
  generalize fitA a = R at *
  generalize wrdB (nums a.nam) = p at *
  generalize decide (1 ≤ a.syn ∧ a.syn ≤ 10) = q at *
  generalize hasI (rulL a.syn) a.rul = z at *
  generalize rulL a.syn = L at *
  obtain ⟨c0, _, c2, c3, _, _⟩ := (unhide B0).cells
  simp only [Nat.zero_add] at c2 c3
  go_enter Try.func65, Try.ntmps65
  go_wp2
  cases p
  · clear CK CR CC
    rw [Bool.false_and] at HF
    replace c0 := cell_bb c0
    refine wp_region_below (by first | exact mx | assumption) (by kernel_rfl) ?_
    intro nebb
    repeat (go_big_quiet_step ((go_at_call 48; exact callsBB ((unhide CW _).mono fun _ _ h => ⟨h.1, by rw [← h.2]; exact Below.refl _ _⟩))))
    refine wpQuiet_nil ?_
    intro _ hw'
    obtain ⟨pq, hw''⟩ := hw'
    subst hw''
    have bq := pq.b
    generalize pq.W = wq at *
    go_wp2
    go_ret
    exact ⟨ret_bool (unhide HF).symm, b0.trans (bq.mono b0.size)⟩
  cases q
  · clear CR CC
    rw [Bool.true_and, Bool.false_and] at HF
    replace c0 := cell_bb c0
    replace c2 := cell_bb c2
    refine wp_region_below (by first | exact mx | assumption) (by kernel_rfl) ?_
    intro nebb
    repeat (go_big_quiet_step (first | (go_at_call 75; exact callsBB ((unhide CK _).mono fun _ _ h => ⟨h.1, by rw [← h.2]; exact Below.refl _ _⟩)) | (go_at_call 48; exact callsBB ((unhide CW _).mono fun _ _ h => ⟨h.1, by rw [← h.2]; exact Below.refl _ _⟩))))
    refine wpQuiet_nil ?_
    intro _ hw'
    obtain ⟨pq, hw''⟩ := hw'
    subst hw''
    have bq := pq.b
    generalize pq.W = wq at *
    go_wp2
    go_ret
    exact ⟨ret_bool (unhide HF).symm, b0.trans (bq.mono b0.size)⟩
  rw [Bool.true_and, Bool.true_and] at HF
  go_region_held3 (fun W => W.cell? ⟨w.heap.size, 0, none⟩ = some (.string a.nam) ∧ W.cell? ⟨w.heap.size, 2, none⟩ = some (.int .i64 a.syn) ∧ W.cell? ⟨w.heap.size, 3, none⟩ = some (.int .i64 a.rul)) (first | exact ⟨c0, c2, c3⟩ | exact ⟨d0, d2, d3⟩ | assumption | go_keep)
    (first
      | (go_at_call 48; refine (unhide CW _).mono ?_; rintro e w2 ⟨rfl, rfl⟩)
      | (go_at_call 75; refine (unhide CK _).mono ?_; rintro e w2 ⟨rfl, rfl⟩)
      | (go_at_call 77; refine (unhide CR _).mono ?_; rintro e w3 ⟨u, rfl, hu, b3⟩; have HU := hide hu; clear hu; have k3 := ((Below.refl _ (w.alloc (.cells #[.string a.nam, .string a.abv, .int .i64 a.syn, .int .i64 a.rul, .bool a.sgl, .bool a.cls] 65))).drew).trans b3; obtain ⟨d0, _, d2, d3, _, _⟩ := ((unhide B0).keep k3).cells; simp only [Nat.zero_add] at d2 d3)
      | (go_at_call 76; refine (unhide CC _ _ (unhide HU)).mono ?_; rintro e w4 ⟨rfl, rfl⟩))
  all_goals
    go_wp2
    go_ret
    exact ⟨ret_bool (unhide HF).symm, b0.trans (k3.mono b0.size)⟩
end Go.Proofs.Ytjjildpdelkejaa
/- The iterator of a line: what it and a round may change; its contract. -/
namespace Go.Proofs.Ytjjildpdelkejaa
open Go.RowKit
attribute [local go_sem] Oper.semAt_some

/-- Cells that are no type's; what a round keeps: what is no cells, a type's box, a box of types; a type's box. -/
def plainO : Obj → Bool
  | .cells _ t _ => t != 65
  | _ => false
def keepO : Obj → Bool
  | .cells _ t _ => t == 65 || t == 22
  | _ => true
def attrO : Obj → Bool
  | .cells _ t _ => t == 65
  | _ => false
/-- All of a sort lies as it lay. -/
structure Ke (p : Obj → Bool) (B : Nat) (A C : World) : Prop where
  below : Below B A C
  same : ∀ (b : Nat) (o : Obj), A.heap[b]? = some o → p o = true → C.heap[b]? = some o
abbrev Qr := Ke plainO
abbrev Kr := Ke keepO
abbrev Mr := Ke fun o => !attrO o
abbrev Kc := Ke fun o => o.isCells && keepO o
theorem Ke.mono {p q : Obj → Bool} {B : Nat} {A C : World} (h : Ke p B A C) (hp : ∀ o, q o = true → p o = true) : Ke q B A C := ⟨h.below, fun b o h1 h2 => h.same b o h1 (hp o h2)⟩
theorem Ke.lower {p : Obj → Bool} {B B' : Nat} {A C : World} (h : Ke p B A C) (hB : B' ≤ B) : Ke p B' A C := ⟨h.below.mono hB, h.same⟩
theorem Ke.refl (p : Obj → Bool) (B : Nat) (A : World) : Ke p B A A := ⟨Below.refl _ _, fun _ _ h _ => h⟩
theorem Ke.trans {p : Obj → Bool} {B : Nat} {A C D : World} (h : Ke p B A C) (k : Ke p B C D) : Ke p B A D := ⟨h.below.trans k.below, fun b o h1 h2 => k.same b o (h.same b o h1 h2) h2⟩
theorem Ke.of_below (p : Obj → Bool) {B : Nat} {A C : World} (h : Below A.heap.size A C) (hB : B ≤ A.heap.size) : Ke p B A C := ⟨h.mono hB, fun b _ h1 _ => (h.block b (bt_lt h1)).trans h1⟩
theorem Ke.one (p : Obj → Bool) {B : Nat} {A : World} (o : Obj) (hB : B ≤ A.heap.size) : Ke p B A (A.alloc o) := Ke.of_below p (Below.one A o) hB
theorem Ke.put {p : Obj → Bool} {B L : Nat} {A : World} {o : Obj} (o' : Obj) (hB : B ≤ L) (h : A.heap[L]? = some o) (hp : p o = false) : Ke p B A (A.putObj L o') :=
  ⟨(Below.refl B A).grown (grownBy_putObj' A L o') (by have := bt_lt h; omega) (fun k e => by cases e; omega), fun b q h1 h2 => by
    by_cases e : b = L
    · subst e
      rw [h] at h1
      cases h1
      rw [hp] at h2
      cases h2
    · exact (World.putObj_heap_other e).trans h1⟩
theorem Ke.grown {p : Obj → Bool} {B : Nat} {A C : World} {row : Option Nat} (h : A.grownBy C row) (hA : B ≤ A.heap.size) (hB : ∀ k, row = some k → B ≤ k ∧ ∀ o, A.heap[k]? = some o → p o = false) : Ke p B A C :=
  ⟨(Below.refl B A).grown h hA (fun k e => (hB k e).1), fun b q h1 h2 => by
    refine (h.block b (bt_lt h1) fun e => ?_).trans h1
    rw [(hB b e.symm).2 q h1] at h2
    cases h2⟩
theorem Ke.set {p : Obj → Bool} {B b : Nat} {A : World} {o : Obj} {k : Nat} {u : Value} (hB : B ≤ b) (h : A.heap[b]? = some o) (hp : p o = false) : Ke p B A (A.setCell ⟨b, k, none⟩ u) :=
  ⟨(Below.refl B A).setCell (p := ⟨b, k, none⟩) hB _, fun c q h1 h2 => by
    by_cases e : c = b
    · subst e
      rw [h] at h1
      cases h1
      rw [hp] at h2
      cases h2
    · exact (heap_setCell_other A ⟨b, k, none⟩ c u e).trans h1⟩
theorem mr_put {B b : Nat} {A : World} {x : Ty} (hB : B ≤ b) (h : Bt b x A) (y : Ty) : Mr B A (putT A b y) := by
  have h1 := heap_setCell_same A b 0 _ _ (.string y.nam) h
  have h2 := heap_setCell_same _ b 1 _ _ (.string y.abv) h1
  have h3 := heap_setCell_same _ b 2 _ _ (.int .i64 y.syn) h2
  have h4 := heap_setCell_same _ b 3 _ _ (.int .i64 y.rul) h3
  have h5 := heap_setCell_same _ b 4 _ _ (.bool y.sgl) h4
  exact (((((Ke.set hB h rfl).trans (Ke.set hB h1 rfl)).trans (Ke.set hB h2 rfl)).trans (Ke.set hB h3 rfl)).trans (Ke.set hB h4 rfl)).trans (Ke.set hB h5 rfl)
theorem Kc.bt {B b : Nat} {x : Ty} {A C : World} (h : Bt b x A) (k : Kc B A C) : Bt b x C := k.same _ _ h rfl
theorem Kc.box {B b : Nat} {v : Value} {A C : World} (h : Boxed A b 22 v) (k : Kc B A C) : Boxed C b 22 v := k.same _ _ h rfl
theorem Mr.box {B b : Nat} {v : Value} {A C : World} (h : Boxed A b 22 v) (k : Mr B A C) : Boxed C b 22 v := k.same _ _ h rfl

set_option maxRecDepth 100000 in
set_option maxHeartbeats 3200000 in
/-- The iterator: it hands on the types of the line, one by one, until there is none, or a round says no more. -/
theorem up_in (n L bl bn n₀ M : Nat) (h1 : 1 ≤ n) (v : Value) (l : List Ty) (nm : ByteArray) (J Jx : List Ty → World → Prop) (W : World)
    (hbl : Boxed W bl 22 v) (hbn : W.cell? ⟨bn, 0, none⟩ = some (.string nm)) (hn₀ : n₀ ≤ W.heap.size) (hV : ∀ W', Below n₀ W W' → TysV W' v l)
    (hJ : ∀ s A C, J s A → Mr W.heap.size A C → J s C)
    (hY : ∀ pre x W1, J pre W1 → wlk l (fndT l nm) pre (some x) → YieldAt Fence.wide (n - 1) Try.prog L #[aggV x] W1 fun e W' =>
      (e = .returned (.bool true) ∧ J (pre ++ [x]) W' ∧ Kc n₀ W1 W') ∨ (e = .returned (.bool false) ∧ Jx (pre ++ [x]) W'))
    (hM : ∀ pre x W1, J pre W1 → wlk l (fndT l nm) pre (some x) → pre.length ≤ M) (h0 : J [] W) :
    CallsIn Fence.wide n Try.prog 79 #[.func (.yield L) #[] #[], .pointer (some ⟨bl, 0, none⟩), .pointer (some ⟨bn, 0, none⟩)] W fun e W' => (∃ u, e = .returned u) ∧
      ((∃ xs, wlk l (fndT l nm) xs none ∧ J xs W') ∨ (∃ pre o, wlk l (fndT l nm) pre o ∧ Jx pre W')) := by
  have CF := hide (fun n2 W' (h : Below n₀ W W') => find_any v l n2 W' (hV W' h))
  obtain ⟨va, vc, rfl⟩ := (hV W (Below.refl _ _)).shape
  have cl := hbl.cell
  have HBL := hide hbl
  have HJ := hide hJ
  have HY := hide hY
  have HM := hide hM
  have H0 := hide h0
  clear hV hJ hY hM h0 hbl
  refine callsIn_of_wp Try.func79 rfl trivial ?_ rfl
  simp only [Try.ntmps79, List.size_toArray, List.length_cons, List.length_nil, Nat.reduceAdd, Nat.reduceSub, Array.replicate_succ, Array.replicate_zero, List.push_toArray, List.append_toArray, List.nil_append, List.cons_append]
  have C0 := hide (unhide CF nm W (Below.refl _ _))
  have HY0 : Hid (fnA l nm = (fndT l nm).getD ty0 ∧ fnB l nm = (fndT l nm).isSome) := ⟨rfl, rfl⟩
  unfold aggV at C0
  generalize fnA l nm = y0 at *
  generalize fnB l nm = z0 at *
  gi_wp2_with (refine ⟨trivial, ?_⟩; gi_at_call 78; refine (callsIn_wide.2 (unhide C0)).mono ?_; rintro e w2 ⟨rfl, b2⟩)
  have k2 : Mr W.heap.size W (w2.alloc (.cells #[.string y0.nam, .string y0.abv, .int .i64 y0.syn, .int .i64 y0.rul, .bool y0.sgl, .bool y0.cls] 65)) := (Ke.of_below _ b2 (Nat.le_refl _)).trans (Ke.one _ _ b2.size)
  have HK2 := hide k2
  have hsz2 := b2.size
  clear k2 C0
  gi_loopg [5] (M + 2) (fun g vok wr => ∃ (pre : List Ty) (o : Option Ty), Hid (wlk l (fndT l nm) pre o) ∧ vok = .bool o.isSome ∧ g + pre.length = M + 2 ∧ Hid (J pre wr) ∧ Hid (Bt w2.heap.size (o.getD ty0) wr) ∧ Hid (Boxed wr bl 22 (.slice va l.length vc)) ∧ Below n₀ W wr)
  case atStart => exact ⟨[], fndT l nm, rfl, by rw [(unhide HY0).2], by simp, unhide HJ _ _ _ (unhide H0) (unhide HK2), by rw [← (unhide HY0).1]; exact heap_new w2 _, Mr.box (unhide HBL) (unhide HK2), (unhide HK2).below.mono hn₀⟩
  case round =>
    obtain ⟨pre, o, HW, rfl, hg, HJ1, HB, HL, hb⟩ := hrel
    clear HK2 HY0 H0 HBL
    cases o with
    | none =>
      clear HB
      simp only [Option.isSome_none]
      gi_wp2
      refine ⟨fun _ h => (by cases h), ?_⟩
      gi_wp2
      go_end0
      exact ⟨⟨_, rfl⟩, .inl ⟨pre, unhide HW, unhide HJ1⟩⟩
    | some x =>
      simp only [Option.isSome_some, Option.getD_some] at HB ⊢
      obtain ⟨c0, c1, c2, c3, c4, c5⟩ := (unhide HB).cells
      simp only [Nat.zero_add] at c1 c2 c3 c4 c5
      have hm := unhide HM pre x wr (unhide HJ1) (unhide HW)
      obtain ⟨fn, tmps, assign, body, hy, hR⟩ := unhide HY pre x wr (unhide HJ1) (unhide HW)
      unfold aggV at hy
      have HR := hide hR
      clear hR
      gi_wp2
      refine (unhide HR).mono ?_
      clear HR hy
      rintro e W3 (⟨rfl, hJ3, hk3⟩ | ⟨rfl, hJx3⟩)
      · have HJ3 := hide hJ3
        have HB3 := hide (Kc.bt (unhide HB) hk3)
        have HL3 := hide (Kc.box (unhide HL) hk3)
        have hb3 := hb.trans hk3.below
        have e1 := (unhide HB3).cells.2.1
        simp only [Nat.zero_add] at e1
        have el := (unhide HL3).cell
        have C3 := hide (unhide CF x.abv W3 hb3)
        have HW3 := hide (wlk_snoc (unhide HW))
        have HY3 : Hid (fnA l x.abv = (fndT l x.abv).getD ty0 ∧ fnB l x.abv = (fndT l x.abv).isSome) := ⟨rfl, rfl⟩
        unfold aggV at C3
        generalize fnA l x.abv = y at *
        generalize fnB l x.abv = z at *
        clear hk3 hJ3 c0 c1 c2 c3 c4 c5 HB HL HJ1 HW CF
        gi_wp2_with (refine ⟨trivial, ?_⟩; gi_at_call 78; refine (callsIn_wide.2 (unhide C3)).mono ?_; rintro e w4 ⟨rfl, b4⟩; have B4 := hide ((unhide HB3).keep b4); obtain ⟨d0, d1, d2, d3, d4, d5⟩ := (unhide B4).cells; simp only [Nat.zero_add] at d1 d2 d3 d4 d5; have f0 := (unhide B4).free 0; have f1 := (unhide B4).free 1; have f2 := (unhide B4).free 2; have f3 := (unhide B4).free 3; have f4 := (unhide B4).free 4; have f5 := (unhide B4).free 5)
        have k4 : Mr W.heap.size W3 (putT w4 w2.heap.size y) := (Ke.of_below _ b4 (Nat.le_trans hsz2 (Nat.le_of_lt (bt_lt (unhide HB3))))).trans (mr_put hsz2 (unhide B4) y)
        go_roundg (gk - 1)
        case measure => omega
        case rel => exact ⟨pre ++ [x], fndT l x.abv, unhide HW3, by rw [(unhide HY3).2], by rw [List.length_append]; simp; omega, unhide HJ _ _ _ (unhide HJ3) k4, by rw [← (unhide HY3).1]; exact (unhide B4).put y, Mr.box (unhide HL3) k4, hb3.trans (k4.below.mono hn₀)⟩
      · gi_wp2
        go_end0
        exact ⟨⟨_, rfl⟩, .inr ⟨_, _, wlk_snoc (unhide HW), hJx3⟩⟩
end Go.Proofs.Ytjjildpdelkejaa
