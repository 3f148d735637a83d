/- Contains of numbers and of texts; the landed Known, Rules and fit. -/
import Derived.Test.YtoaoplfbnjajiaaFnd20
import Derived.Test.YtoaoplfbnjajiaaDa18
import Derived.Test.YtoaoplfbnjajiaaQuietB
import Derived.Deep.RegionHeld3
namespace Go.Proofs.Ytoaoplfbnjajiaa
open Go.RowKit

def hasI (zs : List Int) (x : Int) : Bool := zs.any fun y => decide (x = y)
def hasT (zs : List ByteArray) (x : ByteArray) : Bool := zs.any fun y => decide (x = y)
theorem hasI_yes {zs : List Int} {x : Int} {k : Nat} (hk : k < zs.length) (h : x = zs.getD k 0) : hasI zs x = true := by
  unfold hasI
  rw [List.any_eq_true]
  exact ⟨zs.getD k 0, by simp [List.getD, hk], decide_eq_true h⟩
theorem hasI_no {zs : List Int} {x : Int} (h : ∀ k, k < zs.length → x ≠ zs.getD k 0) : hasI zs x = false := by
  unfold hasI
  rw [List.any_eq_false]
  intro y hy
  obtain ⟨i, hi, rfl⟩ := List.getElem_of_mem hy
  have := h i hi
  simpa [List.getD, hi] using this
theorem hasT_yes {zs : List ByteArray} {x : ByteArray} {k : Nat} (hk : k < zs.length) (h : x = zs.getD k te) : hasT zs x = true := by
  unfold hasT
  rw [List.any_eq_true]
  exact ⟨zs.getD k te, by simp [List.getD, hk], decide_eq_true h⟩
theorem hasT_no {zs : List ByteArray} {x : ByteArray} (h : ∀ k, k < zs.length → x ≠ zs.getD k te) : hasT zs x = false := by
  unfold hasT
  rw [List.any_eq_false]
  intro y hy
  obtain ⟨i, hi, rfl⟩ := List.getElem_of_mem hy
  have := h i hi
  simpa [List.getD, hi] using this
set_option maxHeartbeats 1600000 in
theorem indexI_any (v : Value) (zs : List Int) (x : Int) (w : World) (hR : Row w v zs) (hl : zs.length ≤ 1000) : Calls Try.prog 43 #[v, .int .i64 x] w fun e w' => ∃ z : Int, e = .returned (.int .i64 z) ∧ decide (0 ≤ z) = hasI zs x ∧ w = w' := by
  obtain ⟨a, cap, rfl, hc⟩ := hR
  have HC := hide hc
  clear hc
  go_enter Try.func43, Try.ntmps43
  go_wp2
  go_loop [8] (fun i => ∃ k : Nat, k ≤ zs.length ∧ i = .int .i64 (k : Int) ∧ Hid (∀ j, j < k → x ≠ zs.getD j 0)) (fun i => zs.length - (intOf i).toNat)
  case atStart => exact ⟨0, Nat.zero_le _, rfl, fun j hj => absurd hj (Nat.not_lt_zero _)⟩
  case round =>
    obtain ⟨k, hk, rfl, HK⟩ := hrel
    by_cases hlt : k < zs.length
    · have hzl : (k : Int) < (zs.length : Int) := by omega
      have hz0 : (0 : Int) ≤ (k : Int) := by omega
      obtain ⟨b, off, rfl, hcc⟩ := unhide HC (by omega)
      have q0 := hcc k hlt
      have HY : Hid (x = zs.getD k 0 → hasI zs x = true) := fun h => hasI_yes hlt h
      have HN : Hid (¬ x = zs.getD k 0 → ∀ j, j < k + 1 → x ≠ zs.getD j 0) := fun h j hj => by
        by_cases e : j = k
        · rw [e]; exact h
        · exact unhide HK j (by omega)
      clear hcc HC HK
      generalize zs.getD k 0 = t at *
      by_cases h : x = t
      · have hq : (x == t) = true := by simpa using h
        have HE := hide (unhide HY h)
        clear h HY HN
        go_wp2
        go_ret
        exact ⟨_, rfl, by rw [unhide HE]; exact decide_eq_true hz0, rfl⟩
      · have hq : (x == t) = false := by simpa using h
        have HK2 := hide (unhide HN h)
        clear h HY HN
        go_wp2
        go_round
        case rel => exact ⟨k + 1, by omega, by go_num, unhide HK2⟩
        case measure => simp [intOf]; omega
    · have hzl : ¬ (k : Int) < (zs.length : Int) := by omega
      obtain rfl : k = zs.length := by omega
      have HE := hide (hasI_no (unhide HK))
      clear HK HC
      go_wp2
      go_ret
      exact ⟨_, rfl, by rw [unhide HE]; rfl, rfl⟩
set_option maxHeartbeats 1600000 in
theorem indexT_any (v : Value) (zs : List ByteArray) (x : ByteArray) (w : World) (hR : TsV w v zs) : Calls Try.prog 40 #[v, .string x] w fun e w' => ∃ z : Int, e = .returned (.int .i64 z) ∧ decide (0 ≤ z) = hasT zs x ∧ w = w' := by
  obtain ⟨a, cap, rfl, hn, hc⟩ := hR
  have HC := hide hc
  clear hc
  go_enter Try.func40, Try.ntmps40
  go_wp2
  go_loop [8] (fun i => ∃ k : Nat, k ≤ zs.length ∧ i = .int .i64 (k : Int) ∧ Hid (∀ j, j < k → x ≠ zs.getD j te)) (fun i => zs.length - (intOf i).toNat)
  case atStart => exact ⟨0, Nat.zero_le _, rfl, fun j hj => absurd hj (Nat.not_lt_zero _)⟩
  case round =>
    obtain ⟨k, hk, rfl, HK⟩ := hrel
    by_cases hlt : k < zs.length
    · have hzl : (k : Int) < (zs.length : Int) := by omega
      have hz0 : (0 : Int) ≤ (k : Int) := by omega
      obtain ⟨b, off, rfl, hcc⟩ := unhide HC (by omega)
      have q0 := hcc k hlt
      have HY : Hid (x = zs.getD k te → hasT zs x = true) := fun h => hasT_yes hlt h
      have HN : Hid (¬ x = zs.getD k te → ∀ j, j < k + 1 → x ≠ zs.getD j te) := fun h j hj => by
        by_cases e : j = k
        · rw [e]; exact h
        · exact unhide HK j (by omega)
      clear hcc HC HK
      generalize zs.getD k te = t at *
      have hq := txt_beq x t
      by_cases h : x = t
      · rw [decide_eq_true h] at hq
        have HE := hide (unhide HY h)
        clear h HY HN
        go_wp2
        go_ret
        exact ⟨_, rfl, by rw [unhide HE]; exact decide_eq_true hz0, rfl⟩
      · rw [decide_eq_false h] at hq
        have HK2 := hide (unhide HN h)
        clear h HY HN
        go_wp2
        go_round
        case rel => exact ⟨k + 1, by omega, by go_num, unhide HK2⟩
        case measure => simp [intOf]; omega
    · have hzl : ¬ (k : Int) < (zs.length : Int) := by omega
      obtain rfl : k = zs.length := by omega
      have HE := hide (hasT_no (unhide HK))
      clear HK HC
      go_wp2
      go_ret
      exact ⟨_, rfl, by rw [unhide HE]; rfl, rfl⟩
set_option maxHeartbeats 800000 in
theorem containsI_any (v : Value) (zs : List Int) (x : Int) (w : World) (hR : Row w v zs) (hl : zs.length ≤ 1000) : Calls Try.prog 39 #[v, .int .i64 x] w fun e w' => e = .returned (.bool (hasI zs x)) ∧ w = w' := by
  have HI := hide (indexI_any v zs x w hR hl)
  clear hR
  go_enter Try.func39, Try.ntmps39
  go_wp2_with (go_at_call 43; refine (unhide HI).mono ?_; rintro e w2 ⟨z, rfl, hz, rfl⟩)
  go_ret
  exact ⟨rfl, rfl⟩
set_option maxHeartbeats 800000 in
theorem containsT_any (v : Value) (zs : List ByteArray) (x : ByteArray) (w : World) (hR : TsV w v zs) : Calls Try.prog 35 #[v, .string x] w fun e w' => e = .returned (.bool (hasT zs x)) ∧ w = w' := by
  have HI := hide (indexT_any v zs x w hR)
  clear hR
  go_enter Try.func35, Try.ntmps35
  go_wp2_with (go_at_call 40; refine (unhide HI).mono ?_; rintro e w2 ⟨z, rfl, hz, rfl⟩)
  go_ret
  exact ⟨rfl, rfl⟩
set_option maxHeartbeats 800000 in
theorem known_any (s : Int) (w : World) : Calls Try.prog 38 #[.int .i64 s] w fun e w' => e = .returned (.bool (decide (1 ≤ s ∧ s ≤ 10))) ∧ w = w' := by
  by_cases h1 : 1 ≤ s
  · by_cases h2 : s ≤ 10
    · rw [decide_eq_true (show 1 ≤ s ∧ s ≤ 10 from ⟨h1, h2⟩)]
      go_enter Try.func38, Try.ntmps38
      go_wp2
      go_ret
      exact ⟨rfl, rfl⟩
    · rw [decide_eq_false (show ¬ (1 ≤ s ∧ s ≤ 10) from fun q => h2 q.2)]
      go_enter Try.func38, Try.ntmps38
      go_wp2
      go_ret
      exact ⟨rfl, rfl⟩
  · rw [decide_eq_false (show ¬ (1 ≤ s ∧ s ≤ 10) from fun q => h1 q.1)]
    go_enter Try.func38, Try.ntmps38
    go_wp2
    go_ret
    exact ⟨rfl, rfl⟩
set_option maxHeartbeats 1600000 in
theorem rules_any (s : Int) (w : World) : Calls Try.prog 14 #[.int .i64 s] w fun e w' => ∃ u, e = .returned u ∧ Row w' u (rulL s) ∧ Below w.heap.size w w' := by
  by_cases h : 1 ≤ s ∧ s ≤ 10
  · have hn : s = 1 ∨ s = 2 ∨ s = 3 ∨ s = 4 ∨ s = 5 ∨ s = 6 ∨ s = 7 ∨ s = 8 ∨ s = 9 ∨ s = 10 := by omega
    clear h
    rcases hn with rfl | rfl | rfl | rfl | rfl | rfl | rfl | rfl | rfl | rfl
    all_goals
      go_enter Try.func14, Try.ntmps14
      go_wp2
      go_ret
      refine ⟨_, rfl, ?_, Below.one _ _⟩
      refine row_of20 ?_ ?_ <;> rfl
  · have HE : Hid (rulL s = []) := by
      show _ = _
      unfold rulL
      rw [if_neg (by omega), if_neg (by omega), if_neg (by omega)]
    have e1 : (s == 1) = false := by rw [beq_eq_false_iff_ne]; omega
    have e2 : (s == 2) = false := by rw [beq_eq_false_iff_ne]; omega
    have e3 : (s == 3) = false := by rw [beq_eq_false_iff_ne]; omega
    have e4 : (s == 4) = false := by rw [beq_eq_false_iff_ne]; omega
    have e5 : (s == 5) = false := by rw [beq_eq_false_iff_ne]; omega
    have e6 : (s == 6) = false := by rw [beq_eq_false_iff_ne]; omega
    have e7 : (s == 7) = false := by rw [beq_eq_false_iff_ne]; omega
    have e8 : (s == 8) = false := by rw [beq_eq_false_iff_ne]; omega
    have e9 : (s == 9) = false := by rw [beq_eq_false_iff_ne]; omega
    have e10 : (s == 10) = false := by rw [beq_eq_false_iff_ne]; omega
    rw [unhide HE]
    clear h HE
    go_enter Try.func14, Try.ntmps14
    go_wp2
    go_ret
    exact ⟨_, rfl, Row.nil _ _ _, Below.refl _ _⟩
theorem rul_fit (s r : Int) : fitR s r = (decide (1 ≤ s ∧ s ≤ 10) && hasI (rulL s) r) := by
  by_cases h : 1 ≤ s ∧ s ≤ 10
  · rw [decide_eq_true h, Bool.true_and]
    unfold fitR hasI
    rw [if_neg (by omega)]
    have hn : s = 1 ∨ s = 2 ∨ s = 3 ∨ s = 4 ∨ s = 5 ∨ s = 6 ∨ s = 7 ∨ s = 8 ∨ s = 9 ∨ s = 10 := by omega
    clear h
    rcases hn with rfl | rfl | rfl | rfl | rfl | rfl | rfl | rfl | rfl | rfl
    all_goals
      rw [Bool.eq_iff_iff]
      simp [rulL]
      try omega
  · rw [decide_eq_false h, Bool.false_and]
    unfold fitR
    rw [if_pos (by omega)]
set_option maxHeartbeats 3200000 in
theorem fit_any (a : Ty) (w : World) : Calls Try.prog 30 #[.agg #[.string a.nam, .string a.abv, .int .i64 a.syn, .int .i64 a.rul, .bool a.sgl, .bool a.cls]] w fun e w' => e = .returned (.bool (fitA a)) ∧ Below w.heap.size w w' := by
  have mx : Try.prog.follows .mixedOrders = true := by kernel_rfl
  have HF : Hid (fitA a = (wrdB (nums a.nam) && (decide (1 ≤ a.syn ∧ a.syn ≤ 10) && hasI (rulL a.syn) a.rul))) := by show _ = _; unfold fitA; rw [rul_fit]
  have CW := hide (fun W => (word_any a.nam W))
  have CK := hide (fun W => (known_any a.syn W))
  have CR := hide (fun W => (rules_any a.syn W))
  have CC := hide (fun v W (h : Row W v (rulL a.syn)) => containsI_any v (rulL a.syn) a.rul W h (by have := rul_len a.syn; omega))
  have B0 : Hid (Bt w.heap.size a (w.alloc (.cells #[.string a.nam, .string a.abv, .int .i64 a.syn, .int .i64 a.rul, .bool a.sgl, .bool a.cls] 26))) := heap_new w _
  have b0 := Below.one w (.cells #[.string a.nam, .string a.abv, .int .i64 a.syn, .int .i64 a.rul, .bool a.sgl, .bool a.cls] 26)
  generalize fitA a = R at *
  generalize wrdB (nums a.nam) = p at *
  generalize decide (1 ≤ a.syn ∧ a.syn ≤ 10) = q at *
  generalize hasI (rulL a.syn) a.rul = z at *
  generalize rulL a.syn = L at *
  obtain ⟨c0, _, c2, c3, _, _⟩ := (unhide B0).cells
  simp only [Nat.zero_add] at c2 c3
  go_enter Try.func30, Try.ntmps30
  go_wp2
  cases p
  · clear CK CR CC
    rw [Bool.false_and] at HF
    replace c0 := cell_bb c0
    refine wp_region_below (by first | exact mx | assumption) (by kernel_rfl) ?_
    intro nebb
    repeat (go_big_quiet_step ((go_at_call 37; exact callsBB ((unhide CW _).mono fun _ _ h => ⟨h.1, by rw [← h.2]; exact Below.refl _ _⟩))))
    refine wpQuiet_nil ?_
    intro _ hw'
    obtain ⟨pq, hw''⟩ := hw'
    subst hw''
    have bq := pq.b
    generalize pq.W = wq at *
    go_wp2
    go_ret
    exact ⟨ret_bool (unhide HF).symm, b0.trans (bq.mono b0.size)⟩
  cases q
  · clear CR CC
    rw [Bool.true_and, Bool.false_and] at HF
    replace c0 := cell_bb c0
    replace c2 := cell_bb c2
    refine wp_region_below (by first | exact mx | assumption) (by kernel_rfl) ?_
    intro nebb
    repeat (go_big_quiet_step (first | (go_at_call 38; exact callsBB ((unhide CK _).mono fun _ _ h => ⟨h.1, by rw [← h.2]; exact Below.refl _ _⟩)) | (go_at_call 37; exact callsBB ((unhide CW _).mono fun _ _ h => ⟨h.1, by rw [← h.2]; exact Below.refl _ _⟩))))
    refine wpQuiet_nil ?_
    intro _ hw'
    obtain ⟨pq, hw''⟩ := hw'
    subst hw''
    have bq := pq.b
    generalize pq.W = wq at *
    go_wp2
    go_ret
    exact ⟨ret_bool (unhide HF).symm, b0.trans (bq.mono b0.size)⟩
  rw [Bool.true_and, Bool.true_and] at HF
  go_region_held3 (fun W => W.cell? ⟨w.heap.size, 0, none⟩ = some (.string a.nam) ∧ W.cell? ⟨w.heap.size, 2, none⟩ = some (.int .i64 a.syn) ∧ W.cell? ⟨w.heap.size, 3, none⟩ = some (.int .i64 a.rul)) (first | exact ⟨c0, c2, c3⟩ | exact ⟨d0, d2, d3⟩ | assumption | go_keep)
    (first
      | (go_at_call 37; refine (unhide CW _).mono ?_; rintro e w2 ⟨rfl, rfl⟩)
      | (go_at_call 38; refine (unhide CK _).mono ?_; rintro e w2 ⟨rfl, rfl⟩)
      | (go_at_call 14; refine (unhide CR _).mono ?_; rintro e w3 ⟨u, rfl, hu, b3⟩; have HU := hide hu; clear hu; have k3 := ((Below.refl _ (w.alloc (.cells #[.string a.nam, .string a.abv, .int .i64 a.syn, .int .i64 a.rul, .bool a.sgl, .bool a.cls] 26))).drew).trans b3; obtain ⟨d0, _, d2, d3, _, _⟩ := ((unhide B0).keep k3).cells; simp only [Nat.zero_add] at d2 d3)
      | (go_at_call 39; refine (unhide CC _ _ (unhide HU)).mono ?_; rintro e w4 ⟨rfl, rfl⟩))
  all_goals
    go_wp2
    go_ret
    exact ⟨ret_bool (unhide HF).symm, b0.trans (k3.mono b0.size)⟩
end Go.Proofs.Ytoaoplfbnjajiaa
