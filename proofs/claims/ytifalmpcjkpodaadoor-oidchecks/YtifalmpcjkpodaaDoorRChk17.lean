/- The document's Check, Cmp, Under and Above of layer 17, and the sameness of two lists. -/
import Derived.Test.YtifalmpcjkpodaaDoorMath17
namespace Go.Proofs.YtifalmpcjkpodaaDoor
set_option maxRecDepth 100000
open Go.RowKit

theorem chk_short {l : List Int} (h : l.length < 2 ∨ 12 < l.length) : chkO l = 170 := by
  unfold chkO okO
  rw [decide_eq_false (by omega)]
  rfl
set_option maxHeartbeats 800000 in
theorem rcheck_some (b off cap : Nat) (l : List Int) (w : World) (hl1 : 2 ≤ l.length) (hl2 : l.length ≤ 12)
    (hc : ∀ j, j < l.length → w.cell? ⟨b, off + j, none⟩ = some (.int .i64 (l.getD j 0))) :
    Calls Tryd.prog 13 #[.slice (some ⟨b, off, none⟩) l.length cap] w fun e w' => e = .returned (.int .i64 (chkO l)) ∧ w' = w := by
  have HC := hide hc
  have c0 := hc 0 (by omega)
  rw [Nat.add_zero] at c0
  have C0 := hide c0
  clear hc c0
  have n1 : ¬ (l.length : Int) < 2 := by omega
  have n2 : ¬ 12 < (l.length : Int) := by omega
  have p0 : (0 : Int) < l.length := by omega
  go_enter Tryd.func13, Tryd.ntmps13
  go_wp2
  go_loopw [3] (fun i wr => ∃ k : Nat, k ≤ l.length ∧ i = .int .i64 k ∧ okTo l k = true ∧ wr = w) (fun i _ => l.length - (intOf i).toNat)
  case atStart => exact ⟨0, Nat.zero_le _, rfl, rfl, rfl⟩
  case round =>
    obtain ⟨k, hk, rfl, hok, rfl⟩ := hrel
    have HOK := hide hok
    clear hok
    by_cases hlt : k < l.length
    · have hzl : (k : Int) < (l.length : Int) := by omega
      have hz0 : (0 : Int) ≤ (k : Int) := by omega
      have c1 := unhide HC k hlt
      have c0 := unhide C0
      have HB := hide (okTo_bad l l.length k hlt)
      have HE : Hid (okAt l k = decide (0 ≤ l.getD k 0 ∧ l.getD k 0 ≤ mostO l k)) := rfl
      have HM : Hid (mostO l k = if k = 0 then 2 else if k = 1 ∧ l.getD 0 0 ≠ 2 then 39 else 99999) := rfl
      have key : ∀ m : Int, mostO l k = m → ((0 ≤ l.getD k 0 ∧ l.getD k 0 ≤ m) → okTo l (k + 1) = true) ∧ (¬ (0 ≤ l.getD k 0 ∧ l.getD k 0 ≤ m) → chkO l = 170) := fun m hm => by
        refine ⟨fun h => ?_, fun h => ?_⟩
        · simp only [okTo, unhide HOK, Bool.true_and]
          rw [unhide HE, hm]; exact decide_eq_true h
        · have : okAt l k = false := by rw [unhide HE, hm]; exact decide_eq_false h
          unfold chkO okO
          rw [unhide HB this, Bool.and_false]; rfl
      have HK := hide key
      clear key
      generalize hx : l.getD k 0 = x at *
      generalize hy : l.getD 0 0 = y at *
      have done : ∀ (m : Int), mostO l k = m → (0 ≤ x ∧ x ≤ m → okTo l (k + 1) = true) ∧ (¬ (0 ≤ x ∧ x ≤ m) → chkO l = 170) := fun m hm => unhide HK m hm
      have HD := hide done
      clear done
      by_cases k0 : k = 0
      · subst k0
        have hm := hide (unhide HD 2 (by rw [unhide HM]; rfl))
        by_cases h1 : x < 0
        · go_wp2
          go_ret
          exact ⟨ret_int ((unhide hm).2 (by omega)).symm, rfl⟩
        · by_cases h2 : 2 < x
          · go_wp2
            go_ret
            exact ⟨ret_int ((unhide hm).2 (by omega)).symm, rfl⟩
          · go_wp2
            go_roundw
            case rel => exact ⟨1, by omega, by go_num, (unhide hm).1 (by omega), trivial⟩
            case measure => simp [intOf]; omega
      · have z0 : ¬ (k : Int) = 0 := by omega
        by_cases k1 : k = 1
        · subst k1
          by_cases y2 : y = 2
          · have hm := hide (unhide HD 99999 (by rw [unhide HM, if_neg (by omega), if_neg (by simp [y2])]))
            by_cases h1 : x < 0
            · go_wp2
              go_ret
              exact ⟨ret_int ((unhide hm).2 (by omega)).symm, rfl⟩
            · by_cases h2 : 99999 < x
              · go_wp2
                go_ret
                exact ⟨ret_int ((unhide hm).2 (by omega)).symm, rfl⟩
              · go_wp2
                go_roundw
                case rel => exact ⟨2, by omega, by go_num, (unhide hm).1 (by omega), trivial⟩
                case measure => simp [intOf]; omega
          · have hm := hide (unhide HD 39 (by rw [unhide HM, if_neg (by omega), if_pos ⟨rfl, y2⟩]))
            by_cases h1 : x < 0
            · go_wp2
              go_ret
              exact ⟨ret_int ((unhide hm).2 (by omega)).symm, rfl⟩
            · by_cases h2 : 39 < x
              · go_wp2
                go_ret
                exact ⟨ret_int ((unhide hm).2 (by omega)).symm, rfl⟩
              · go_wp2
                go_roundw
                case rel => exact ⟨2, by omega, by go_num, (unhide hm).1 (by omega), trivial⟩
                case measure => simp [intOf]; omega
        · have z1 : ¬ (k : Int) = 1 := by omega
          have hm := hide (unhide HD 99999 (by rw [unhide HM, if_neg k0, if_neg (by omega)]))
          by_cases h1 : x < 0
          · go_wp2
            go_ret
            exact ⟨ret_int ((unhide hm).2 (by omega)).symm, rfl⟩
          · by_cases h2 : 99999 < x
            · go_wp2
              go_ret
              exact ⟨ret_int ((unhide hm).2 (by omega)).symm, rfl⟩
            · go_wp2
              go_roundw
              case rel => exact ⟨k + 1, by omega, by go_num, (unhide hm).1 (by omega), trivial⟩
              case measure => simp [intOf]; omega
    · have hzl : ¬ (k : Int) < (l.length : Int) := by omega
      go_wp2
      go_ret
      have e : k = l.length := by omega
      have h := unhide HOK
      rw [e] at h
      refine ⟨ret_int ?_, rfl⟩
      unfold chkO okO
      rw [h, decide_eq_true (show 2 ≤ l.length ∧ l.length ≤ 12 from ⟨hl1, hl2⟩)]; rfl
set_option maxHeartbeats 800000 in
theorem rcheck_len (a : Option Addr) (n cap : Nat) (w : World) (h : n < 2 ∨ 12 < n) (hn : n ≤ 9223372036854775807) :
    Calls Tryd.prog 13 #[.slice a n cap] w fun e w' => e = .returned (.int .i64 170) ∧ w' = w := by
  by_cases h1 : n < 2
  · have n1 : (n : Int) < 2 := by omega
    go_enter Tryd.func13, Tryd.ntmps13
    go_wp2
    go_ret
    exact ⟨rfl, rfl⟩
  · have n1 : ¬ (n : Int) < 2 := by omega
    have n2 : 12 < (n : Int) := by omega
    go_enter Tryd.func13, Tryd.ntmps13
    go_wp2
    go_ret
    exact ⟨rfl, rfl⟩
theorem rcheck_any (v : Value) (l : List Int) (w : World) (hv : Row w v l) (hn : l.length ≤ 9223372036854775807) :
    Calls Tryd.prog 13 #[v] w fun e w' => e = .returned (.int .i64 (chkO l)) ∧ w' = w := by
  obtain ⟨a, cap, rfl, hc⟩ := hv
  by_cases h : l.length < 2 ∨ 12 < l.length
  · rw [chk_short h]; exact rcheck_len a _ cap w h hn
  · obtain ⟨b, off, rfl, hc2⟩ := hc (by omega)
    exact rcheck_some b off cap l w (by omega) (by omega) hc2
end Go.Proofs.YtifalmpcjkpodaaDoor
