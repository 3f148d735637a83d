/- The landed Check, Cmp, Under and Above of layer 17. -/
import Derived.Test.YtifalmpcjkpodaaDoorRAbv17
import Derived.Test.YtifalmpcjkpodaaDoorShelf17
namespace Go.Proofs.YtifalmpcjkpodaaDoor
set_option maxRecDepth 100000
open Go.RowKit

theorem okTo_all (l : List Int) : ∀ n, (∀ k, k < n → okAt l k = true) → okTo l n = true
  | 0, _ => rfl
  | n + 1, h => by
    simp only [okTo, Bool.and_eq_true]
    exact ⟨okTo_all l n fun k hk => h k (by omega), h n (by omega)⟩
/-- Which lists are identifiers, as the program asks it. -/
theorem okO_iff (l : List Int) : okO l = true ↔ (2 ≤ l.length ∧ l.length ≤ 12) ∧ (∀ k, k < l.length → 0 ≤ l.getD k 0 ∧ l.getD k 0 ≤ 99999) ∧ l.getD 0 0 ≤ 2 ∧ (l.getD 0 0 < 2 → l.getD 1 0 ≤ 39) := by
  constructor
  · intro h
    have hl := okO_len h
    have h1 : okTo l l.length = true := by unfold okO at h; simp only [Bool.and_eq_true] at h; exact h.2
    refine ⟨hl, fun k hk => okO_at h k hk, ?_, fun h2 => ?_⟩
    · have := okTo_at l _ 0 h1 (by omega)
      unfold okAt mostO at this
      simp only [decide_eq_true_eq, if_true] at this
      exact this.2
    · have := okTo_at l _ 1 h1 (by omega)
      unfold okAt mostO at this
      rw [if_neg (by omega), if_pos ⟨rfl, by omega⟩] at this
      simp only [decide_eq_true_eq] at this
      exact this.2
  · rintro ⟨hl, ha, h0, h1⟩
    unfold okO
    rw [decide_eq_true hl, Bool.true_and]
    refine okTo_all l _ fun k hk => ?_
    have hk2 := ha k hk
    unfold okAt mostO
    rw [decide_eq_true_eq]
    refine ⟨hk2.1, ?_⟩
    split
    · rename_i e; subst e; exact h0
    · split
      · rename_i e
        obtain ⟨rfl, e⟩ := e
        have := ha 0 (by omega)
        exact h1 (by omega)
      · exact hk2.2
theorem chk_bad {l : List Int} (h : ¬ okO l = true) : chkO l = 170 := chk_no (by simpa using h)
set_option maxHeartbeats 1600000 in
theorem ocheck_some (b off cap : Nat) (l : List Int) (w : World) (hl1 : 2 ≤ l.length) (hl2 : l.length ≤ 12)
    (hc : ∀ j, j < l.length → w.cell? ⟨b, off + j, none⟩ = some (.int .i64 (l.getD j 0))) :
    Calls Tryd.prog 12 #[.slice (some ⟨b, off, none⟩) l.length cap] w fun e w' => e = .returned (.int .i64 (chkO l)) ∧ w' = w := by
  have HC := hide hc
  have c0 := hc 0 (by omega)
  rw [Nat.add_zero] at c0
  have c1 := hc 1 (by omega)
  have C0 := hide c0
  have C1 := hide c1
  clear hc c0 c1
  have HI := hide (okO_iff l)
  have n1 : ¬ (l.length : Int) < 2 := by omega
  have n2 : ¬ 12 < (l.length : Int) := by omega
  have p0 : (0 : Int) < l.length := by omega
  have p1 : (1 : Int) < l.length := by omega
  go_enter Tryd.func12, Tryd.ntmps12
  go_wp2
  go_loopw [15] (fun i wr => ∃ k : Nat, k ≤ l.length ∧ i = .int .i64 k ∧ Hid (∀ j, j < k → 0 ≤ l.getD j 0 ∧ l.getD j 0 ≤ 99999) ∧ wr = w) (fun i _ => l.length - (intOf i).toNat)
  case atStart => exact ⟨0, Nat.zero_le _, rfl, fun j hj => absurd hj (Nat.not_lt_zero _), rfl⟩
  case round =>
    obtain ⟨k, hk, rfl, HOK, rfl⟩ := hrel
    by_cases hlt : k < l.length
    · have hzl : (k : Int) < (l.length : Int) := by omega
      have hz0 : (0 : Int) ≤ (k : Int) := by omega
      have c1 := unhide HC k hlt
      have HN : Hid (¬ (0 ≤ l.getD k 0 ∧ l.getD k 0 ≤ 99999) → chkO l = 170) := fun h => chk_bad fun ho => h (((unhide HI).1 ho).2.1 k hlt)
      have HS : Hid ((0 ≤ l.getD k 0 ∧ l.getD k 0 ≤ 99999) → ∀ j, j < k + 1 → 0 ≤ l.getD j 0 ∧ l.getD j 0 ≤ 99999) := fun h j hj => by
        by_cases e : j = k
        · rw [e]; exact h
        · exact unhide HOK j (by omega)
      generalize l.getD k 0 = x at *
      by_cases h1 : x < 0
      · go_wp2
        go_ret
        exact ⟨ret_int (unhide HN (by omega)).symm, rfl⟩
      · by_cases h2 : 99999 < x
        · go_wp2
          go_ret
          exact ⟨ret_int (unhide HN (by omega)).symm, rfl⟩
        · go_wp2
          go_roundw
          case rel => exact ⟨k + 1, by omega, by go_num, unhide HS (by omega), trivial⟩
          case measure => simp [intOf]; omega
    · have hzl : ¬ (k : Int) < (l.length : Int) := by omega
      obtain rfl : k = l.length := by omega
      have c0 := unhide C0
      have c1 := unhide C1
      have HN : Hid (¬ (l.getD 0 0 ≤ 2 ∧ (l.getD 0 0 < 2 → l.getD 1 0 ≤ 39)) → chkO l = 170) := fun h => chk_bad fun ho => h ((unhide HI).1 ho).2.2
      have HY : Hid ((l.getD 0 0 ≤ 2 ∧ (l.getD 0 0 < 2 → l.getD 1 0 ≤ 39)) → chkO l = 0) := fun h => chk_yes ((unhide HI).2 ⟨⟨hl1, hl2⟩, unhide HOK, h⟩)
      generalize l.getD 0 0 = x at *
      generalize l.getD 1 0 = y at *
      by_cases h1 : 2 < x
      · go_wp2
        go_ret
        exact ⟨ret_int (unhide HN (by omega)).symm, rfl⟩
      · by_cases h2 : x < 2
        · by_cases h3 : 39 < y
          · go_wp2
            go_ret
            exact ⟨ret_int (unhide HN (by omega)).symm, rfl⟩
          · go_wp2
            go_ret
            exact ⟨ret_int (unhide HY (by omega)).symm, rfl⟩
        · go_wp2
          go_ret
          exact ⟨ret_int (unhide HY (by omega)).symm, rfl⟩
set_option maxHeartbeats 800000 in
theorem ocheck_w (v : Value) (l : List Int) (w : World) (hn : l.length ≤ 9223372036854775806) (hR : Row w v l) : Calls Tryd.prog 12 #[v] w fun e w' => e = .returned (.int .i64 (chkO l)) ∧ w' = w := by
  obtain ⟨a, cap, rfl, hc⟩ := hR
  by_cases h1 : l.length < 2
  · have HE := hide (chk_short (.inl h1))
    have z : (l.length : Int) < 2 := by omega
    generalize l.length = n at *
    go_enter Tryd.func12, Tryd.ntmps12
    go_wp2
    go_ret
    exact ⟨ret_int (unhide HE).symm, rfl⟩
  · by_cases h2 : 12 < l.length
    · have HE := hide (chk_short (.inr h2))
      have z : ¬ (l.length : Int) < 2 := by omega
      have z2 : 12 < (l.length : Int) := by omega
      generalize l.length = n at *
      go_enter Tryd.func12, Tryd.ntmps12
      go_wp2
      go_ret
      exact ⟨ret_int (unhide HE).symm, rfl⟩
    · obtain ⟨b, off, rfl, hcc⟩ := hc (by omega)
      exact ocheck_some b off cap l w (by omega) (by omega) hcc

/-- cmp.Compare of two whole numbers. -/
theorem ccmp_any (x y : Int) (w : World) : Calls Tryd.prog 38 #[.int .i64 x, .int .i64 y] w fun e w' => e = .returned (.int .i64 (if x < y then -1 else if y < x then 1 else 0)) ∧ w' = w := by
  refine (Any.cmp_Compare_int lays122 x y w).mono fun e w' ⟨he, hw⟩ => ⟨?_, hw⟩
  rw [he]
  unfold Lib.compareInt
  by_cases h1 : x < y
  · simp [h1]
  · by_cases h2 : y < x
    · simp [h1, h2]
    · simp [h1, h2]
set_option maxHeartbeats 1600000 in
theorem compare_some (b1 o1 c1 c2 : Nat) (a2 : Option Addr) (l m : List Int) (w : World) (hl : l.length ≤ 9223372036854775806) (hm : m.length ≤ 9223372036854775806)
    (h1 : ∀ j, j < l.length → w.cell? ⟨b1, o1 + j, none⟩ = some (.int .i64 (l.getD j 0))) (h2 : 0 < m.length → ∃ b2 o2, a2 = some ⟨b2, o2, none⟩ ∧ ∀ j, j < m.length → w.cell? ⟨b2, o2 + j, none⟩ = some (.int .i64 (m.getD j 0))) :
    Calls Tryd.prog 29 #[.slice (some ⟨b1, o1, none⟩) l.length c1, .slice a2 m.length c2] w fun e w' => e = .returned (.int .i64 (cmpL l m)) ∧ w' = w := by
  have H1 := hide h1
  have H2 := hide h2
  have HP := hide ccmp_any
  clear h1 h2
  go_enter Tryd.func29, Tryd.ntmps29
  go_wp2
  go_loopw [11] (fun i wr => ∃ k : Nat, k ≤ l.length ∧ k ≤ m.length ∧ i = .int .i64 k ∧ Hid (cmpL l m = cmpL (l.drop k) (m.drop k)) ∧ wr = w) (fun i _ => l.length - (intOf i).toNat)
  case atStart => exact ⟨0, Nat.zero_le _, Nat.zero_le _, rfl, rfl, rfl⟩
  case round =>
    obtain ⟨k, hk, hk2, rfl, HC, rfl⟩ := hrel
    have HE := hide (cmp_end l m k hk hk2)
    by_cases hlt : k < l.length
    · have hzl : (k : Int) < (l.length : Int) := by omega
      have hz0 : (0 : Int) ≤ (k : Int) := by omega
      have g1 := unhide H1 k hlt
      by_cases hlt2 : k < m.length
      · have hzm : (k : Int) < (m.length : Int) := by omega
        have hzm2 : ¬ (m.length : Int) ≤ (k : Int) := by omega
        obtain ⟨b2, o2, rfl, hc2⟩ := unhide H2 (by omega)
        have g2 := hc2 k hlt2
        clear hc2
        have HS := hide (cmp_step l m k hlt hlt2)
        have CP := unhide HP (l.getD k 0) (m.getD k 0) wr
        generalize l.getD k 0 = x at *
        generalize m.getD k 0 = y at *
        by_cases e1 : x < y
        · rw [if_pos e1] at CP
          go_wp2_with (go_at_call 38; refine CP.mono ?_; rintro e w1 ⟨rfl, rfl⟩)
          go_ret
          exact ⟨ret_int (by rw [unhide HC, unhide HS, if_pos e1]), rfl⟩
        · by_cases e2 : y < x
          · rw [if_neg e1, if_pos e2] at CP
            go_wp2_with (go_at_call 38; refine CP.mono ?_; rintro e w1 ⟨rfl, rfl⟩)
            go_ret
            exact ⟨ret_int (by rw [unhide HC, unhide HS, if_neg (by omega), if_pos e2]), rfl⟩
          · rw [if_neg e1, if_neg e2] at CP
            go_wp2_with (go_at_call 38; refine CP.mono ?_; rintro e w1 ⟨rfl, rfl⟩)
            go_roundw
            case rel => exact ⟨k + 1, by omega, by omega, by go_num, by show _ = _; rw [unhide HC, unhide HS, if_neg (by omega), if_neg (by omega)], trivial⟩
            case measure => simp [intOf]; omega
      · have hzm : (m.length : Int) ≤ (k : Int) := by omega
        generalize l.getD k 0 = x at *
        go_wp2
        go_ret
        exact ⟨ret_int (by rw [unhide HC, unhide HE (by omega), if_neg (by omega), if_pos (by omega)]), rfl⟩
    · have hzl : ¬ (k : Int) < (l.length : Int) := by omega
      by_cases e1 : l.length < m.length
      · have z : (l.length : Int) < (m.length : Int) := by omega
        go_wp2
        go_ret
        exact ⟨ret_int (by rw [unhide HC, unhide HE (by omega), if_pos e1]), rfl⟩
      · have z : ¬ (l.length : Int) < (m.length : Int) := by omega
        go_wp2
        go_ret
        exact ⟨ret_int (by rw [unhide HC, unhide HE (by omega), if_neg e1, if_neg (by omega)]), rfl⟩
set_option maxHeartbeats 800000 in
theorem compare_any (v1 v2 : Value) (l m : List Int) (w : World) (hl : l.length ≤ 9223372036854775806) (hm : m.length ≤ 9223372036854775806) (h1 : Row w v1 l) (h2 : Row w v2 m) : Calls Tryd.prog 29 #[v1, v2] w fun e w' => e = .returned (.int .i64 (cmpL l m)) ∧ w' = w := by
  obtain ⟨a1, c1, rfl, k1⟩ := h1
  obtain ⟨a2, c2, rfl, k2⟩ := h2
  by_cases h0 : 0 < l.length
  · obtain ⟨b1, o1, rfl, hc1⟩ := k1 h0
    exact compare_some b1 o1 c1 c2 a2 l m w hl hm hc1 k2
  · obtain rfl : l = [] := List.length_eq_zero_iff.1 (by omega)
    clear k1 k2
    have HE : Hid (cmpL [] m = if 0 < m.length then -1 else 0) := by
      show _ = _
      cases m with
      | nil => rfl
      | cons y t => rw [if_pos (by simp)]; rfl
    generalize cmpL [] m = z at *
    generalize m.length = n at *
    rw [List.length_nil]
    by_cases e1 : 0 < n
    · have zz : (0 : Int) < (n : Int) := by omega
      go_enter Tryd.func29, Tryd.ntmps29
      go_wp2
      refine wp_loop_rounds 1 ?_
      rw [rounds_succ]
      go_wp2
      go_ret
      exact ⟨ret_int (by rw [unhide HE, if_pos e1]), rfl⟩
    · obtain rfl : n = 0 := by omega
      go_enter Tryd.func29, Tryd.ntmps29
      go_wp2
      refine wp_loop_rounds 1 ?_
      rw [rounds_succ]
      go_wp2
      go_ret
      exact ⟨ret_int (by rw [unhide HE, if_neg e1]), rfl⟩
end Go.Proofs.YtifalmpcjkpodaaDoor
