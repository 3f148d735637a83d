/- The landed Check, Cmp, Under and Above of layer 17. -/
import Derived.Test.YtpaenieafkmmeaaGreatDoorM29
import Derived.Test.YtpaenieafkmmeaaGreatDoorM30
namespace Go.Proofs.YtpaenieafkmmeaaGreatDoor.S17
set_option maxRecDepth 100000
open Go.RowKit

theorem okTo_all (l : List Int) : ∀ n, (∀ k, k < n → okAt l k = true) → okTo l n = true
  | 0, _ => rfl
  | n + 1, h => by
    simp only [okTo, Bool.and_eq_true]
    exact ⟨okTo_all l n fun k hk => h k (by omega), h n (by omega)⟩
/-- Which lists are identifiers, as the program asks it. -/
theorem okO_iff (l : List Int) : okO l = true ↔ (2 ≤ l.length ∧ l.length ≤ 12) ∧ (∀ k, k < l.length → 0 ≤ l.getD k 0 ∧ l.getD k 0 ≤ 99999) ∧ l.getD 0 0 ≤ 2 ∧ (l.getD 0 0 < 2 → l.getD 1 0 ≤ 39) := by
  constructor
  · intro h
    have hl := okO_len h
    have h1 : okTo l l.length = true := by unfold okO at h; simp only [Bool.and_eq_true] at h; exact h.2
    refine ⟨hl, fun k hk => okO_at h k hk, ?_, fun h2 => ?_⟩
    · have := okTo_at l _ 0 h1 (by omega)
      unfold okAt mostO at this
      simp only [decide_eq_true_eq, if_true] at this
      exact this.2
    · have := okTo_at l _ 1 h1 (by omega)
      unfold okAt mostO at this
      rw [if_neg (by omega), if_pos ⟨rfl, by omega⟩] at this
      simp only [decide_eq_true_eq] at this
      exact this.2
  · rintro ⟨hl, ha, h0, h1⟩
    unfold okO
    rw [decide_eq_true hl, Bool.true_and]
    refine okTo_all l _ fun k hk => ?_
    have hk2 := ha k hk
    unfold okAt mostO
    rw [decide_eq_true_eq]
    refine ⟨hk2.1, ?_⟩
    split
    · rename_i e; subst e; exact h0
    · split
      · rename_i e
        obtain ⟨rfl, e⟩ := e
        have := ha 0 (by omega)
        exact h1 (by omega)
      · exact hk2.2
theorem chk_bad {l : List Int} (h : ¬ okO l = true) : chkO l = 170 := chk_no (by simpa using h)
set_option maxHeartbeats 1600000 in
theorem ocheck_some (b off cap : Nat) (l : List Int) (w : World) (hl1 : 2 ≤ l.length) (hl2 : l.length ≤ 12)
    (hc : ∀ j, j < l.length → w.cell? ⟨b, off + j, none⟩ = some (.int .i64 (l.getD j 0))) :
    Calls Tryz.prog 60 #[.slice (some ⟨b, off, none⟩) l.length cap] w fun e w' => e = .returned (.int .i64 (chkO l)) ∧ w' = w := by
  have HC := hide hc
  have c0 := hc 0 (by omega)
  rw [Nat.add_zero] at c0
  have c1 := hc 1 (by omega)
  have C0 := hide c0
  have C1 := hide c1
  clear hc c0 c1
  have HI := hide (okO_iff l)
  have n1 : ¬ (l.length : Int) < 2 := by omega
  have n2 : ¬ 12 < (l.length : Int) := by omega
  have p0 : (0 : Int) < l.length := by omega
  have p1 : (1 : Int) < l.length := by omega
  go_enter Tryz.func60, Tryz.ntmps60
  go_wp2
  go_loopw [15] (fun i wr => ∃ k : Nat, k ≤ l.length ∧ i = .int .i64 k ∧ Hid (∀ j, j < k → 0 ≤ l.getD j 0 ∧ l.getD j 0 ≤ 99999) ∧ wr = w) (fun i _ => l.length - (intOf i).toNat)
  case atStart => exact ⟨0, Nat.zero_le _, rfl, fun j hj => absurd hj (Nat.not_lt_zero _), rfl⟩
  case round =>
    obtain ⟨k, hk, rfl, HOK, rfl⟩ := hrel
    by_cases hlt : k < l.length
    · have hzl : (k : Int) < (l.length : Int) := by omega
      have hz0 : (0 : Int) ≤ (k : Int) := by omega
      have c1 := unhide HC k hlt
      have HN : Hid (¬ (0 ≤ l.getD k 0 ∧ l.getD k 0 ≤ 99999) → chkO l = 170) := fun h => chk_bad fun ho => h (((unhide HI).1 ho).2.1 k hlt)
      have HS : Hid ((0 ≤ l.getD k 0 ∧ l.getD k 0 ≤ 99999) → ∀ j, j < k + 1 → 0 ≤ l.getD j 0 ∧ l.getD j 0 ≤ 99999) := fun h j hj => by
        by_cases e : j = k
        · rw [e]; exact h
        · exact unhide HOK j (by omega)
      generalize l.getD k 0 = x at *
      by_cases h1 : x < 0
      · go_wp2
        go_ret
        exact ⟨ret_int (unhide HN (by omega)).symm, rfl⟩
      · by_cases h2 : 99999 < x
        · go_wp2
          go_ret
          exact ⟨ret_int (unhide HN (by omega)).symm, rfl⟩
        · go_wp2
          go_roundw
          case rel => exact ⟨k + 1, by omega, by go_num, unhide HS (by omega), trivial⟩
          case measure => simp [intOf]; omega
    · have hzl : ¬ (k : Int) < (l.length : Int) := by omega
      obtain rfl : k = l.length := by omega
      have c0 := unhide C0
      have c1 := unhide C1
      have HN : Hid (¬ (l.getD 0 0 ≤ 2 ∧ (l.getD 0 0 < 2 → l.getD 1 0 ≤ 39)) → chkO l = 170) := fun h => chk_bad fun ho => h ((unhide HI).1 ho).2.2
      have HY : Hid ((l.getD 0 0 ≤ 2 ∧ (l.getD 0 0 < 2 → l.getD 1 0 ≤ 39)) → chkO l = 0) := fun h => chk_yes ((unhide HI).2 ⟨⟨hl1, hl2⟩, unhide HOK, h⟩)
      generalize l.getD 0 0 = x at *
      generalize l.getD 1 0 = y at *
      by_cases h1 : 2 < x
      · go_wp2
        go_ret
        exact ⟨ret_int (unhide HN (by omega)).symm, rfl⟩
      · by_cases h2 : x < 2
        · by_cases h3 : 39 < y
          · go_wp2
            go_ret
            exact ⟨ret_int (unhide HN (by omega)).symm, rfl⟩
          · go_wp2
            go_ret
            exact ⟨ret_int (unhide HY (by omega)).symm, rfl⟩
        · go_wp2
          go_ret
          exact ⟨ret_int (unhide HY (by omega)).symm, rfl⟩
set_option maxHeartbeats 800000 in
theorem ocheck_w (v : Value) (l : List Int) (w : World) (hn : l.length ≤ 9223372036854775806) (hR : Row w v l) : Calls Tryz.prog 60 #[v] w fun e w' => e = .returned (.int .i64 (chkO l)) ∧ w' = w := by
  obtain ⟨a, cap, rfl, hc⟩ := hR
  by_cases h1 : l.length < 2
  · have HE := hide (chk_short (.inl h1))
    have z : (l.length : Int) < 2 := by omega
    generalize l.length = n at *
    go_enter Tryz.func60, Tryz.ntmps60
    go_wp2
    go_ret
    exact ⟨ret_int (unhide HE).symm, rfl⟩
  · by_cases h2 : 12 < l.length
    · have HE := hide (chk_short (.inr h2))
      have z : ¬ (l.length : Int) < 2 := by omega
      have z2 : 12 < (l.length : Int) := by omega
      generalize l.length = n at *
      go_enter Tryz.func60, Tryz.ntmps60
      go_wp2
      go_ret
      exact ⟨ret_int (unhide HE).symm, rfl⟩
    · obtain ⟨b, off, rfl, hcc⟩ := hc (by omega)
      exact ocheck_some b off cap l w (by omega) (by omega) hcc

end Go.Proofs.YtpaenieafkmmeaaGreatDoor.S17
/- The landed Cmp, Under and Above of layer 17. -/
namespace Go.Proofs.YtpaenieafkmmeaaGreatDoor.S17
set_option maxRecDepth 100000
open Go.RowKit

/-- A slice is not longer than its room. -/
def Fits (v : Value) : Prop := ∀ a n c, v = .slice a n c → n ≤ c
theorem Rn.fits {w : World} {B : Nat} {v : Value} {l : List Int} (h : Rn B v l w) : Fits v := by
  rcases h.2 with ⟨hv, h0⟩ | ⟨g, cap, cur, hv, _, _, hcap, _⟩
  · intro a n c e; rw [hv] at e; cases e; exact Nat.le_refl _
  · intro a n c e; rw [hv] at e; cases e; exact hcap
theorem eqnil_some (ad : Addr) (n c : Nat) (w : World) : (binOp .eql 22 (.slice (some ad) n c) (.slice none 0 0)).run Tryz.prog w = .ok (.bool false) w := by kernel_rfl
end Go.Proofs.YtpaenieafkmmeaaGreatDoor.S17
