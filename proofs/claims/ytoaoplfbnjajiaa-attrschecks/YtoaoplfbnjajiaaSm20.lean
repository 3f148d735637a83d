/- The document's Rules of layer 20; texts held against each other (layer 16); the law's Few. -/
import Derived.Test.YtoaoplfbnjajiaaRBel20
import Derived.Test.YtoaoplfbnjajiaaS17RCmp17
namespace Go.Proofs.Ytoaoplfbnjajiaa
open Go.RowKit

theorem row_new20 (W : World) (zs : List Int) (cs : Array Value) (T : TypeId) (hcs : cs.toList = zs.map (Value.int .i64)) : Row (W.alloc (.cells cs T)) (.slice (some ⟨W.heap.size, 0, none⟩) zs.length zs.length) zs := by
  refine ⟨_, _, rfl, fun _ => ⟨W.heap.size, 0, rfl, fun j hj => ?_⟩⟩
  rw [World.cell?_alloc_mark, Nat.zero_add]
  have : cs.toList[j]? = some (.int .i64 (zs.getD j 0)) := by rw [hcs]; simp [List.getD, hj]
  simpa using this
theorem row_of20 {W : World} {zs : List Int} {cs : Array Value} {T : TypeId} {v : Value} (hv : v = .slice (some ⟨W.heap.size, 0, none⟩) zs.length zs.length) (hcs : cs.toList = zs.map (Value.int .i64)) : Row (W.alloc (.cells cs T)) v zs := by rw [hv]; exact row_new20 W zs cs T hcs
set_option maxHeartbeats 1600000 in
theorem rrul_any (s : Int) (w : World) : Calls Try.prog 15 #[.int .i64 s] w fun e w' => ∃ u, e = .returned u ∧ Row w' u (rulL s) ∧ Below w.heap.size w w' := by
  by_cases h : 1 ≤ s ∧ s ≤ 10
  · have hn : s = 1 ∨ s = 2 ∨ s = 3 ∨ s = 4 ∨ s = 5 ∨ s = 6 ∨ s = 7 ∨ s = 8 ∨ s = 9 ∨ s = 10 := by omega
    clear h
    rcases hn with rfl | rfl | rfl | rfl | rfl | rfl | rfl | rfl | rfl | rfl
    all_goals
      go_enter Try.func15, Try.ntmps15
      go_wp2
      go_ret
      refine ⟨_, rfl, ?_, Below.one _ _⟩
      refine row_of20 ?_ ?_ <;> rfl
  · have HE : Hid (rulL s = []) := by
      show _ = _
      unfold rulL
      rw [if_neg (by omega), if_neg (by omega), if_neg (by omega)]
    have e1 : (s == 1) = false := by rw [beq_eq_false_iff_ne]; omega
    have e2 : (s == 2) = false := by rw [beq_eq_false_iff_ne]; omega
    have e3 : (s == 3) = false := by rw [beq_eq_false_iff_ne]; omega
    have e4 : (s == 4) = false := by rw [beq_eq_false_iff_ne]; omega
    have e5 : (s == 5) = false := by rw [beq_eq_false_iff_ne]; omega
    have e6 : (s == 6) = false := by rw [beq_eq_false_iff_ne]; omega
    have e7 : (s == 7) = false := by rw [beq_eq_false_iff_ne]; omega
    have e8 : (s == 8) = false := by rw [beq_eq_false_iff_ne]; omega
    have e9 : (s == 9) = false := by rw [beq_eq_false_iff_ne]; omega
    have e10 : (s == 10) = false := by rw [beq_eq_false_iff_ne]; omega
    rw [unhide HE]
    clear h HE
    go_enter Try.func15, Try.ntmps15
    go_wp2
    go_ret
    exact ⟨_, rfl, Row.nil _ _ _, Below.refl _ _⟩
theorem rul_len (s : Int) : (rulL s).length ≤ 3 := by
  unfold rulL
  repeat' split
  all_goals simp
theorem lists_eq {L M : List ByteArray} (hl : L.length = M.length) (h : ∀ j, j < L.length → L.getD j te = M.getD j te) : L = M := by
  apply List.ext_getElem hl
  intro i h1 h2
  have := h i h1
  simpa [List.getD, h1, h2] using this
set_option maxHeartbeats 1600000 in
theorem rsm_any (u v : Value) (L M : List ByteArray) (w : World) (hu : TsV w u L) (hv : TsV w v M) : Calls Try.prog 18 #[u, v] w fun e w' => e = .returned (.bool (decide (L = M))) ∧ Below w.heap.size w w' := by
  have mx : Try.prog.follows .mixedOrders = true := by kernel_rfl
  obtain ⟨ua, uc, rfl, hn1, hc1⟩ := hu
  obtain ⟨va, vc, rfl, hn2, hc2⟩ := hv
  have H1 := hide hc1
  have H2 := hide hc2
  clear hc1 hc2
  by_cases hl : L.length = M.length
  · have z : ((L.length : Int) == (M.length : Int)) = true := by rw [hl]; simp
    have HQ : Hid ((∀ j, j < L.length → L.getD j te = M.getD j te) → decide (L = M) = true) := fun h => decide_eq_true (lists_eq hl h)
    have HD : Hid (∀ k, L.getD k te ≠ M.getD k te → decide (L = M) = false) := fun k h => decide_eq_false (fun e => h (by rw [e]))
    generalize decide (L = M) = R at *
    go_enter Try.func18, Try.ntmps18
    go_wp2
    go_loopw [5] (fun i wr => ∃ k : Nat, k ≤ L.length ∧ i = .int .i64 (k : Int) ∧ Hid (∀ j, j < k → L.getD j te = M.getD j te) ∧ Below w.heap.size w wr) (fun i _ => L.length - (intOf i).toNat)
    case atStart => exact ⟨0, Nat.zero_le _, rfl, fun j hj => absurd hj (Nat.not_lt_zero _), Below.refl _ _⟩
    case round =>
      obtain ⟨k, hk, rfl, HK, hb⟩ := hrel
      by_cases hlt : k < L.length
      · have hzl : (k : Int) < (L.length : Int) := by omega
        have hzm : (k : Int) < (M.length : Int) := by omega
        have hz0 : (0 : Int) ≤ (k : Int) := by omega
        obtain ⟨b, off, rfl, hcc⟩ := unhide H1 (by omega)
        obtain ⟨b2, off2, rfl, hcd⟩ := unhide H2 (by omega)
        have q1 := cell_bb ((hb.cell (cell_lt (hcc k hlt))).trans (hcc k hlt))
        have q2 := cell_bb ((hb.cell (cell_lt (hcd k (by omega)))).trans (hcd k (by omega)))
        have hq := txt_beq (L.getD k te) (M.getD k te)
        have hn : ((L.getD k te).toList != (M.getD k te).toList) = !decide (L.getD k te = M.getD k te) := by unfold bne; rw [hq]
        by_cases h : L.getD k te = M.getD k te
        · rw [decide_eq_true h] at hq hn
          have HK2 : Hid (∀ j, j < k + 1 → L.getD j te = M.getD j te) := fun j hj => by
            by_cases e : j = k
            · rw [e]; exact h
            · exact unhide HK j (by omega)
          clear h HK hcc hcd H1 H2 HD HQ
          generalize L.getD k te = x at *
          generalize M.getD k te = y at *
          go_wp2
          refine wp_region_below (by first | exact mx | assumption) (by kernel_rfl) ?_
          intro nebb
          repeat (go_big_quiet_step (fail))
          refine wpQuiet_nil ?_
          intro _ hw'
          obtain ⟨pq, hw''⟩ := hw'
          subst hw''
          have bq := pq.b
          generalize pq.W = wq at *
          go_wp2
          go_roundw
          case rel => exact ⟨k + 1, by omega, by go_num, unhide HK2, hb.trans (bq.mono hb.size)⟩
          case measure => simp [intOf]; omega
        · rw [decide_eq_false h] at hq hn
          have HE := hide (unhide HD k h)
          clear h HK hcc hcd H1 H2 HD HQ
          generalize L.getD k te = x at *
          generalize M.getD k te = y at *
          go_wp2
          refine wp_region_below (by first | exact mx | assumption) (by kernel_rfl) ?_
          intro nebb
          repeat (go_big_quiet_step (fail))
          refine wpQuiet_nil ?_
          intro _ hw'
          obtain ⟨pq, hw''⟩ := hw'
          subst hw''
          have bq := pq.b
          generalize pq.W = wq at *
          go_wp2
          go_ret
          exact ⟨ret_bool (unhide HE).symm, hb.trans (bq.mono hb.size)⟩
      · have hzl : ¬ (k : Int) < (L.length : Int) := by omega
        have HE := hide (unhide HQ (fun j hj => unhide HK j (by omega)))
        clear HK HQ HD
        go_wp2
        go_ret
        exact ⟨ret_bool (unhide HE).symm, hb⟩
  · have z : ((L.length : Int) == (M.length : Int)) = false := by rw [beq_eq_false_iff_ne]; omega
    have HE : Hid (decide (L = M) = false) := decide_eq_false (fun e => hl (by rw [e]))
    clear hl
    go_enter Try.func18, Try.ntmps18
    go_wp2
    go_ret
    exact ⟨ret_bool (unhide HE).symm, Below.refl _ _⟩
/-- Are types so few, and their names so short? -/
def smT (t : Ty) : Bool := decide (t.nam.size ≤ 1000 ∧ t.abv.size ≤ 1000)
def fewT (l : List Ty) : Bool := decide (l.length ≤ 40) && l.all smT
theorem few_len {l : List Ty} (h : fewT l = true) : l.length ≤ 40 := by
  unfold fewT at h
  rw [Bool.and_eq_true] at h
  exact of_decide_eq_true h.1
set_option maxHeartbeats 1600000 in
theorem few20_any (v : Value) (l : List Ty) (w : World) (hV : TysV w v l) : Calls Try.prog 7 #[v] w fun e w' => e = .returned (.bool (fewT l)) ∧ w = w' := by
  obtain ⟨va, vc, rfl, hn, hc⟩ := hV
  have HC := hide hc
  clear hc
  by_cases h40 : 40 < l.length
  · have z : (40 : Int) < (l.length : Int) := by omega
    have HE : Hid (fewT l = false) := by show _ = _; unfold fewT; rw [decide_eq_false (by omega)]; rfl
    go_enter Try.func7, Try.ntmps7
    go_wp2
    go_ret
    exact ⟨ret_bool (unhide HE).symm, rfl⟩
  have z : ¬ (40 : Int) < (l.length : Int) := by omega
  have HF : Hid (fewT l = l.all smT) := by show _ = _; unfold fewT; rw [decide_eq_true (show l.length ≤ 40 by omega)]; rfl
  rw [unhide HF]
  have HNO : Hid (∀ k, k < l.length → smT (l.getD k ty0) = false → l.all smT = false) := fun k hk h => by
    cases hq : l.all smT
    · rfl
    · rw [List.all_eq_true] at hq
      have := hq (l.getD k ty0) (by simp [List.getD, hk])
      rw [h] at this
      cases this
  have HYE : Hid ((∀ k, k < l.length → smT (l.getD k ty0) = true) → l.all smT = true) := fun h => by
    rw [List.all_eq_true]
    intro x hx
    obtain ⟨k, hk, rfl⟩ := List.getElem_of_mem hx
    have := h k hk
    simpa [List.getD, hk] using this
  clear HF
  generalize l.all smT = R at *
  go_enter Try.func7, Try.ntmps7
  go_wp2
  go_loop [3] (fun i => ∃ k : Nat, k ≤ l.length ∧ i = .int .i64 (k : Int) ∧ Hid (∀ j, j < k → smT (l.getD j ty0) = true)) (fun i => l.length - (intOf i).toNat)
  case atStart => exact ⟨0, Nat.zero_le _, rfl, fun j hj => absurd hj (Nat.not_lt_zero _)⟩
  case round =>
    obtain ⟨k, hk, rfl, HK⟩ := hrel
    by_cases hlt : k < l.length
    · have hzl : (k : Int) < (l.length : Int) := by omega
      have hz0 : (0 : Int) ≤ (k : Int) := by omega
      obtain ⟨b, off, rfl, hcc⟩ := unhide HC (by omega)
      obtain ⟨q0, q1, _⟩ := hcc k hlt
      have HN := hide (unhide HNO k hlt)
      have HK2 : Hid (smT (l.getD k ty0) = true → ∀ j, j < k + 1 → smT (l.getD j ty0) = true) := fun h j hj => by
        by_cases e : j = k
        · rw [e]; exact h
        · exact unhide HK j (by omega)
      clear HK hcc HC HNO HYE
      generalize l.getD k ty0 = t at *
      by_cases h1 : 1000 < t.nam.size
      · have z1 : (1000 : Int) < (t.nam.size : Int) := by omega
        have HE := hide (unhide HN (decide_eq_false (by omega)))
        clear HK2 HN
        go_wp2
        go_ret
        exact ⟨ret_bool (unhide HE).symm, rfl⟩
      have z1 : ¬ (1000 : Int) < (t.nam.size : Int) := by omega
      by_cases h2 : 1000 < t.abv.size
      · have z2 : (1000 : Int) < (t.abv.size : Int) := by omega
        have HE := hide (unhide HN (decide_eq_false (by omega)))
        clear HK2 HN
        go_wp2
        go_ret
        exact ⟨ret_bool (unhide HE).symm, rfl⟩
      have z2 : ¬ (1000 : Int) < (t.abv.size : Int) := by omega
      have HK3 := hide (unhide HK2 (decide_eq_true (by omega)))
      clear HK2 HN
      go_wp2
      go_round
      case rel => exact ⟨k + 1, by omega, by go_num, unhide HK3⟩
      case measure => simp [intOf]; omega
    · have hzl : ¬ (k : Int) < (l.length : Int) := by omega
      have HE := hide (unhide HYE (fun j hj => unhide HK j (by omega)))
      clear HK HYE HNO
      go_wp2
      go_ret
      exact ⟨ret_bool (unhide HE).symm, rfl⟩
end Go.Proofs.Ytoaoplfbnjajiaa
