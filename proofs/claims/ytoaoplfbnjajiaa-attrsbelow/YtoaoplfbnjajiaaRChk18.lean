/- The document's Word and Check of layer 18. -/
import Derived.Test.YtoaoplfbnjajiaaNm18
namespace Go.Proofs.Ytoaoplfbnjajiaa
open Go.RowKit

theorem wrd_long {l : List Int} (h : l.length < 1 ∨ 16 < l.length) : wrdB l = false := by
  unfold wrdB
  rw [decide_eq_false (by omega)]
  rfl
/-- A word, told byte by byte. -/
def wrdK (l : List Int) (k : Nat) : Bool := wrdC (l.getD k 0) && (decide (k ≠ 0) || lowB (l.getD k 0))
theorem wrd_yes {l : List Int} (h1 : 1 ≤ l.length) (h2 : l.length ≤ 16) (h : ∀ k, k < l.length → wrdK l k = true) : wrdB l = true := by
  unfold wrdB
  rw [decide_eq_true ⟨h1, h2⟩, all_of wrdC 0 l (fun k hk => by have := h k hk; unfold wrdK at this; simp only [Bool.and_eq_true] at this; exact this.1)]
  have := h 0 (by omega)
  unfold wrdK at this
  simp at this
  simp [this.2]
theorem wrd_no {l : List Int} {k : Nat} (hk : k < l.length) (h : wrdK l k = false) : wrdB l = false := by
  cases hw : wrdB l
  · rfl
  · exfalso
    unfold wrdB at hw
    simp only [Bool.and_eq_true] at hw
    have ha := all_at (d := 0) hw.2.2 k hk
    unfold wrdK at h
    rw [ha, Bool.true_and, Bool.or_eq_false_iff, decide_eq_false_iff_not] at h
    obtain ⟨h1, h2⟩ := h
    have e : k = 0 := by omega
    subst e
    rw [hw.2.1] at h2
    cases h2
theorem wrdK_eq (l : List Int) (k : Nat) (c : Int) (hc : l.getD k 0 = c) : wrdK l k = ((decide (97 ≤ c) && decide (c ≤ 122)) || (decide (k ≠ 0) && ((decide (48 ≤ c) && decide (c ≤ 57)) || decide (c = 45)))) := by
  unfold wrdK wrdC lowB digB
  rw [hc, Bool.eq_iff_iff]
  simp
  omega
set_option maxHeartbeats 3200000 in
theorem rword_any (s : ByteArray) (w : World) : Calls Try.prog 34 #[.string s] w fun e w' => e = .returned (.bool (wrdB (nums s))) ∧ w' = w := by
  by_cases h1 : s.size < 1
  · have z1 : (s.size : Int) < 1 := by omega
    have HE := hide (wrd_long (l := nums s) (by rw [nums_length]; omega))
    generalize wrdB (nums s) = r at *
    go_enter Try.func34, Try.ntmps34
    go_wp2
    go_ret
    exact ⟨ret_bool (unhide HE).symm, rfl⟩
  · by_cases h2 : 16 < s.size
    · have z1 : ¬ (s.size : Int) < 1 := by omega
      have z2 : 16 < (s.size : Int) := by omega
      have HE := hide (wrd_long (l := nums s) (by rw [nums_length]; omega))
      generalize wrdB (nums s) = r at *
      go_enter Try.func34, Try.ntmps34
      go_wp2
      go_ret
      exact ⟨ret_bool (unhide HE).symm, rfl⟩
    · have z1 : ¬ (s.size : Int) < 1 := by omega
      have z2 : ¬ 16 < (s.size : Int) := by omega
      go_enter Try.func34, Try.ntmps34
      go_wp2
      go_loopw [3] (fun i wr => ∃ k : Nat, k ≤ s.size ∧ i = .int .i64 k ∧ Hid (∀ j, j < k → wrdK (nums s) j = true) ∧ wr = w) (fun i _ => s.size - (intOf i).toNat)
      case atStart => exact ⟨0, Nat.zero_le _, rfl, fun j hj => absurd hj (Nat.not_lt_zero _), rfl⟩
      case round =>
        obtain ⟨k, hk, rfl, HK, rfl⟩ := hrel
        by_cases hlt : k < s.size
        · have hzl : (k : Int) < (s.size : Int) := by omega
          have hz0 : (0 : Int) ≤ (k : Int) := by omega
          obtain ⟨c, hc⟩ : ∃ c : Int, (s[k].toNat : Int) = c := ⟨_, rfl⟩
          have HQ := hide (wrdK_eq (nums s) k c (by rw [nums_at s k hlt]; exact hc))
          have HN : Hid (wrdK (nums s) k = false → wrdB (nums s) = false) := fun h => wrd_no (by rw [nums_length]; exact hlt) h
          have HY : Hid (wrdK (nums s) k = true → ∀ j, j < k + 1 → wrdK (nums s) j = true) := fun h j hj => by
            by_cases e : j = k
            · rw [e]; exact h
            · exact unhide HK j (by omega)
          have hk0 : ((k : Int) = 0 ∧ k = 0) ∨ (¬ (k : Int) = 0 ∧ k ≠ 0) := by omega
          by_cases a1 : 97 ≤ c <;> by_cases a2 : c ≤ 122 <;> by_cases a3 : 48 ≤ c <;> by_cases a4 : c ≤ 57 <;> by_cases a5 : c = 45 <;> first
            | (exfalso; omega)
            | (have h00 : 0 < s.size := by omega
               have hc0 : k = 0 → (s[0].toNat : Int) = c := fun e => by subst e; exact hc
               rcases hk0 with ⟨k1, k2⟩ | ⟨k1, k2⟩ <;> (
                try have hc1 := hc0 k2
                clear hc0
                have HV : Hid (wrdK (nums s) k = ((decide (97 ≤ c) && decide (c ≤ 122)) || (decide (k ≠ 0) && ((decide (48 ≤ c) && decide (c ≤ 57)) || decide (c = 45))))) := HQ
                clear HQ
                first
                  | rw [decide_eq_false (p := k ≠ 0) (by omega)] at HV
                  | rw [decide_eq_true (p := k ≠ 0) k2] at HV
                clear k2
                have a5' : (c == 45) = decide (c = 45) := by rfl
                simp only [a1, a2, a3, a4, a5, decide_true, decide_false, Bool.and_true, Bool.and_false, Bool.or_true, Bool.or_false] at HV
                go_wp2
                first
                  | (go_ret; exact ⟨ret_bool (unhide HN (unhide HV)).symm, rfl⟩)
                  | (go_roundw
                     case rel => exact ⟨k + 1, by omega, by go_num, unhide HY (unhide HV), trivial⟩
                     case measure => simp [intOf]; omega)))
        · have hzl : ¬ (k : Int) < (s.size : Int) := by omega
          have HE : Hid (wrdB (nums s) = true) := wrd_yes (by rw [nums_length]; omega) (by rw [nums_length]; omega) (fun j hj => unhide HK j (by rw [nums_length] at hj; omega))
          go_wp2
          go_ret
          exact ⟨ret_bool (unhide HE).symm, rfl⟩
theorem okP_no {p : Pr} (h : wrdB (nums p.nam) = false ∨ p.val.size = 0 ∨ 400 < p.val.size) : okP p = false := by
  unfold okP
  rcases h with h | h
  · rw [h]; rfl
  · rw [decide_eq_false (by omega), Bool.and_false]
theorem okP_yes {p : Pr} (h : wrdB (nums p.nam) = true) (h1 : p.val.size ≠ 0) (h2 : ¬ 400 < p.val.size) : okP p = true := by
  unfold okP
  rw [h, decide_eq_true (by omega)]
  rfl
theorem okR_len {r : List Pr} (h : r.length = 0 ∨ 3 < r.length) : okR r = false := by
  unfold okR
  rw [decide_eq_false (by omega)]
  rfl
theorem okR_no {r : List Pr} {k : Nat} (hk : k < r.length) (h : okP (r.getD k pr0) = false) : okR r = false := by
  cases hr : okR r
  · rfl
  · have := (okR_parts hr).2 _ (getD_memP r k hk)
    rw [this] at h
    cases h
theorem okR_yes {r : List Pr} (h0 : r.length ≠ 0) (h1 : ¬ 3 < r.length) (h : ∀ k, k < r.length → okP (r.getD k pr0) = true) : okR r = true := by
  unfold okR
  rw [decide_eq_true (by omega), all_of okP pr0 r h]
  rfl
theorem okN_len {n : List (List Pr)} (h : 6 < n.length) : okN n = false := by
  unfold okN
  rw [decide_eq_false (by omega)]
  rfl
theorem okN_no {n : List (List Pr)} {k : Nat} (hk : k < n.length) (h : okR (n.getD k []) = false) : okN n = false := by
  cases hr : okN n
  · rfl
  · have := (okN_parts hr).2 _ (getD_memR n k hk)
    rw [this] at h
    cases h
theorem okN_yes {n : List (List Pr)} (h1 : ¬ 6 < n.length) (h : ∀ k, k < n.length → okR (n.getD k []) = true) : okN n = true := by
  unfold okN
  rw [decide_eq_true (by omega), all_of okR [] n h]
  rfl
theorem ok_next {α : Type} {p : α → Bool} {d : α} {l : List α} {k : Nat} (h : ∀ j, j < k → p (l.getD j d) = true) (h1 : p (l.getD k d) = true) : ∀ j, j < k + 1 → p (l.getD j d) = true := fun j hj => by
  by_cases e : j = k
  · rw [e]; exact h1
  · exact h j (by omega)
end Go.Proofs.Ytoaoplfbnjajiaa
