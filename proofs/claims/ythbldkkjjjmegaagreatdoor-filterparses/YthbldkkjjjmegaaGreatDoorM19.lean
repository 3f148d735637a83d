/- The landed deep, Deep, count, Count of layer 24. (By gen_db.py.) -/
import Derived.Test.YthbldkkjjjmegaaGreatDoorM17
import Derived.Test.YthbldkkjjjmegaaGreatDoorM18
import Derived.Test.YthbldkkjjjmegaaGreatDoorM09
namespace Go.Proofs.YthbldkkjjjmegaaGreatDoor
set_option maxRecDepth 100000
open Go.RowKit

theorem deepL_le (l : List Fl) (k : Nat) (h : 1 ≤ k) : deepF.L l k ≤ k := by
  induction l with
  | nil => simp [deepF.L]
  | cons a t ih =>
    simp only [deepF.L]
    have := deepF_le a k h
    omega
/-- What is still to come of the kids, at so many levels. -/
def dpT (l : List Fl) (m : Nat) : Nat := if 1 < m + 1 then deepF.L l m else 0
theorem dpT_le (l : List Fl) (m : Nat) : dpT l m ≤ m := by
  unfold dpT
  split
  · exact deepL_le l m (by omega)
  · omega
theorem dpT_step (l : List Fl) (m j : Nat) (h : j < l.length) (hm : 1 ≤ m) : dpT (l.drop j) m = max (deepF (l.getD j fl0) m) (dpT (l.drop (j + 1)) m) := by
  unfold dpT
  rw [if_pos (by omega), if_pos (by omega), drop_consF l j h]
  simp only [deepF.L]
set_option maxRecDepth 4000 in
set_option maxHeartbeats 6400000 in
theorem fdeep_any (e : Fl) : ∀ (k : Nat) (x : Value) (w : World), FlV w e x → k ≤ 1000 → Calls Tryz.prog 23 #[.int .i64 k, x] w fun r w' => r = .returned (.int .i64 (deepF e (k + 1))) ∧ Gr w w' := by
  induction e using Fl.ind with
  | h c n v i a f hi hf r d kids ih =>
    intro k x w hV hk
    simp only [FlV] at hV
    obtain ⟨a1, c1, a2, c2, rfl, _, hn, hc⟩ := hV
    have HIH := hide ih
    have HD : Hid (deepF (.mk c n v i a f hi hf r d kids) (k + 1) = dpT kids k + 1) := by show _ = _; simp only [deepF]; rfl
    clear ih
    by_cases h0 : kids.length = 0
    · have HE : Hid (deepF (.mk c n v i a f hi hf r d kids) (k + 1) = 1) := by
        show _ = _
        rw [unhide HD, List.eq_nil_of_length_eq_zero h0]
        unfold dpT
        split <;> simp [deepF.L]
      clear HD hc
      rw [h0]
      go_enter Tryz.func23, Tryz.ntmps23
      go_wp2
      refine wp_loop_rounds 1 ?_
      rw [rounds_succ]
      go_wp2
      go_ret
      exact ⟨ret_int (by rw [unhide HE]; rfl), Gr.one w _⟩
    · obtain ⟨g, off, rfl, hl⟩ := hc.resolve_left h0
      have HL := hide hl
      clear hl hc
      go_enter Tryz.func23, Tryz.ntmps23
      go_wp2
      go_loopw [5, 11] (fun vb vj wr => ∃ (j b : Nat), j ≤ kids.length ∧ vj = .int .i64 (j : Int) ∧ vb = .int .i64 (b : Int) ∧ b ≤ k ∧ Hid (dpT kids k = max b (dpT (kids.drop j) k)) ∧ Gr (w.alloc (.cells (cFl c n v i a1 a.length c1 f hi hf r d (some ⟨g, off, none⟩) kids.length c2) 27)) wr) (fun _ j _ => kids.length - (intOf j).toNat)
      case atStart => exact ⟨0, 0, Nat.zero_le _, rfl, rfl, Nat.zero_le _, (by show _ = _; simp), Gr.refl _⟩
      case round =>
        obtain ⟨j, b, hj, rfl, rfl, hb, HB, hnx⟩ := hrel
        have gw := (Gr.one w _).trans hnx
        have wb : IntKind.i64.wrap (1 + (b : Int)) = 1 + (b : Int) := wrap_in (by omega) (by omega)
        by_cases hlt : j < kids.length
        · have hzl : (j : Int) < (kids.length : Int) := by omega
          have hz0 : (0 : Int) ≤ (j : Int) := by omega
          obtain ⟨x1, y1, x2, y2, q0, q1, q2, q3, q4, q5, q6, q7, q8, q9, q10, hv⟩ := flat_at (unhide HL) j hlt
          replace q0 := gw.cell q0
          replace q1 := gw.cell q1
          replace q2 := gw.cell q2
          replace q3 := gw.cell q3
          replace q4 := gw.cell q4
          replace q5 := gw.cell q5
          replace q6 := gw.cell q6
          replace q7 := gw.cell q7
          replace q8 := gw.cell q8
          replace q9 := gw.cell q9
          replace q10 := gw.cell q10
          by_cases hbm : b = k
          · subst hbm
            have zb : ((b : Int) == (b : Int)) = true := by simp
            have HE : Hid (dpT kids b = b) := by
              show _ = _
              rw [unhide HB]
              have := dpT_le (kids.drop j) b
              omega
            clear hv HB HIH
            generalize kids.getD j fl0 = e at *
            go_wp2
            go_ret
            exact ⟨ret_int (by rw [unhide HD, unhide HE]; omega), (gw.trans (Gr.one _ _))⟩
          · have zb : ((b : Int) == (k : Int)) = false := by rw [beq_eq_false_iff_ne]; omega
            have wk : IntKind.i64.wrap ((k : Int) - 1) = ((k - 1 : Nat) : Int) := (wrap_in (by omega) (by omega)).trans (by omega)
            have CI : Hid (∀ W : World, Gr wr W → _) := fun W (g : Gr wr W) => unhide HIH _ (getD_memF kids j hlt) (k - 1) _ W (hv.grow (gw.trans g).below) (by omega)
            rw [show k - 1 + 1 = k by omega] at CI
            have hdl := deepF_le (kids.getD j fl0) k (by omega)
            have HS := hide (dpT_step kids k j hlt (by omega))
            clear hv HIH
            generalize kids.getD j fl0 = e at *
            generalize deepF e k = dd at *
            generalize ((k - 1 : Nat) : Int) = kk at *
            go_wp2_with (go_at_call 23; refine (unhide CI _ (Gr.one wr _)).mono ?_; rintro e w2 ⟨rfl, g2⟩)
            go_roundw
            case rel => exact ⟨j + 1, max b dd, by omega, by go_num, (by rw [show ((max b dd : Nat) : Int) = max (b : Int) (dd : Int) by omega]), by omega, (by show _ = _; rw [unhide HB, unhide HS]; omega), hnx.trans ((Gr.one wr _).trans g2)⟩
            case measure => simp [intOf]; omega
        · have hzl : ¬ (j : Int) < (kids.length : Int) := by omega
          have HE : Hid (dpT kids k = b) := by
            show _ = _
            rw [unhide HB, List.drop_eq_nil_of_le (by omega)]
            unfold dpT
            split <;> simp [deepF.L]
          go_wp2
          go_ret
          exact ⟨ret_int (by rw [unhide HD, unhide HE]; omega), gw⟩
/-- The landed Deep. -/
theorem fDeep_any (e : Fl) (x : Value) (w : World) (hV : FlV w e x) : Calls Tryz.prog 11 #[x] w fun r w' => r = .returned (.int .i64 (deepF e 9)) ∧ Gr w w' := by
  obtain ⟨a1, c1, a2, c2, hv, -, -, -⟩ := hV.open
  have H : Hid (∀ W : World, Gr w W → Calls Tryz.prog 23 #[.int .i64 8, x] W fun r w' => r = .returned (.int .i64 (deepF e 9)) ∧ Gr W w') := fun W g => fdeep_any e 8 x W (hV.grow g.below) (by omega)
  have g0 := Gr.one w (.cells (cFl e.kin e.nam e.val e.ini a1 e.any.length c1 e.fin e.hi e.hf e.rul e.dn a2 e.kids.length c2) 27)
  clear hV
  subst hv
  generalize ((deepF e 9 : Nat) : Int) = y at *
  go_enter Tryz.func11, Tryz.ntmps11
  go_wp2_with (go_at_call 23; refine (unhide H _ g0).mono ?_; rintro e w2 ⟨rfl, g2⟩)
  go_ret
  exact ⟨rfl, g0.trans g2⟩
/-- How many parts, counted so; one more than the most, if there are more, or more levels. -/
def ctT (l : List Fl) (L M n : Nat) : Nat := if dpF.L l ≤ L - 1 ∧ n + totF.L l ≤ M then n + totF.L l else M + 1
def ctF (e : Fl) (L M : Nat) : Nat := if dpF e ≤ L ∧ totF e ≤ M then totF e else M + 1
theorem ct_none (e : Fl) (L M : Nat) (h : L = 0 ∨ M = 0) : ctF e L M = M + 1 := by
  have h1 : 1 ≤ dpF e := by cases e; simp only [dpF]; omega
  have h2 := tot_pos e
  unfold ctF
  rw [if_neg (by omega)]
theorem ct_kids {c : Int} {n v i : ByteArray} {a : List ByteArray} {f : ByteArray} {hi hf : Bool} {r : ByteArray} {d : Bool} {kids : List Fl} {L M : Nat} (hL : 0 < L) : ctF (.mk c n v i a f hi hf r d kids) L M = ctT kids L M 1 := by
  have e1 : dpF (.mk c n v i a f hi hf r d kids) = dpF.L kids + 1 := by simp only [dpF]
  have e2 : totF (.mk c n v i a f hi hf r d kids) = 1 + totF.L kids := by simp only [totF]
  unfold ctF ctT
  by_cases h : dpF.L kids ≤ L - 1 ∧ 1 + totF.L kids ≤ M
  · rw [if_pos h, if_pos (by omega), e2]
  · rw [if_neg h, if_neg (by omega)]
theorem ct_end (L M n : Nat) (h : n ≤ M) : ctT [] L M n = n := by
  have a1 : dpF.L [] = 0 := by simp only [dpF.L]
  have a2 : totF.L [] = 0 := by simp only [totF.L]
  unfold ctT
  rw [if_pos (by omega), a2]
  rfl
theorem ct_le (e : Fl) (L M : Nat) : ctF e L M ≤ M + 1 ∧ 1 ≤ ctF e L M := by
  have := tot_pos e
  unfold ctF
  split <;> omega
theorem ct_on (l : List Fl) (L M n j : Nat) (hj : j < l.length) (hn : n ≤ M) (h : ¬ M < n + ctF (l.getD j fl0) (L - 1) (M - n)) : ctT (l.drop j) L M n = ctT (l.drop (j + 1)) L M (n + ctF (l.getD j fl0) (L - 1) (M - n)) := by
  rw [drop_consF l j hj]
  generalize l.getD j fl0 = e at *
  generalize l.drop (j + 1) = t at *
  have h1 : dpF e ≤ L - 1 ∧ totF e ≤ M - n := by
    unfold ctF at h
    split at h
    · next hh => exact hh
    · omega
  have e1 : ctF e (L - 1) (M - n) = totF e := by unfold ctF; rw [if_pos h1]
  rw [e1]
  have a1 : dpF.L (e :: t) = max (dpF e) (dpF.L t) := by simp only [dpF.L]
  have a2 : totF.L (e :: t) = totF e + totF.L t := by simp only [totF.L]
  unfold ctT
  by_cases h2 : dpF.L t ≤ L - 1 ∧ n + totF e + totF.L t ≤ M
  · rw [if_pos h2, if_pos (by omega), a2]; omega
  · rw [if_neg h2, if_neg (by omega)]
theorem ct_off (l : List Fl) (L M n j : Nat) (hj : j < l.length) (hn : n ≤ M) (h : M < n + ctF (l.getD j fl0) (L - 1) (M - n)) : ctT (l.drop j) L M n = n + ctF (l.getD j fl0) (L - 1) (M - n) := by
  rw [drop_consF l j hj]
  generalize l.getD j fl0 = e at *
  generalize l.drop (j + 1) = t at *
  have h1 : ¬ (dpF e ≤ L - 1 ∧ totF e ≤ M - n) := fun hh => by
    unfold ctF at h
    rw [if_pos hh] at h
    omega
  have e1 : ctF e (L - 1) (M - n) = M - n + 1 := by unfold ctF; rw [if_neg h1]
  rw [e1]
  have a1 : dpF.L (e :: t) = max (dpF e) (dpF.L t) := by simp only [dpF.L]
  have a2 : totF.L (e :: t) = totF e + totF.L t := by simp only [totF.L]
  unfold ctT
  rw [if_neg (by omega)]
  omega
theorem count_ct (e : Fl) : countF e = ctF e 8 60 := by
  unfold countF ctF
  rw [deep_dp e 9 (by omega), cnt_tot]
  by_cases h : dpF e ≤ 8 ∧ totF e ≤ 60
  · rw [if_pos h, if_neg (by omega)]; omega
  · rw [if_neg h]
    split <;> omega
set_option maxRecDepth 4000 in
set_option maxHeartbeats 6400000 in
theorem fcount_any (e : Fl) : ∀ (L M : Nat) (x : Value) (w : World), FlV w e x → L ≤ 1000 → M ≤ 1000 → Calls Tryz.prog 25 #[.int .i64 L, .int .i64 M, x] w fun r w' => r = .returned (.int .i64 (ctF e L M)) ∧ Gr w w' := by
  induction e using Fl.ind with
  | h c n v i a f hi hf r d kids ih =>
    intro L M x w hV hL hM
    simp only [FlV] at hV
    obtain ⟨a1, c1, a2, c2, rfl, _, hn, hc⟩ := hV
    have HIH := hide ih
    clear ih
    have wM : IntKind.i64.wrap ((M : Int) + 1) = (M : Int) + 1 := wrap_in (by omega) (by omega)
    by_cases hL0 : L = 0
    · have HE := hide (ct_none (.mk c n v i a f hi hf r d kids) L M (.inl hL0))
      subst hL0
      clear hc HIH
      go_enter Tryz.func25, Tryz.ntmps25
      go_wp2
      go_ret
      exact ⟨ret_int (by rw [unhide HE]; omega), Gr.one w _⟩
    have zL : ((L : Int) == 0) = false := by rw [beq_eq_false_iff_ne]; omega
    by_cases hM0 : M = 0
    · have HE := hide (ct_none (.mk c n v i a f hi hf r d kids) L M (.inr hM0))
      subst hM0
      clear hc HIH
      go_enter Tryz.func25, Tryz.ntmps25
      go_wp2
      go_ret
      exact ⟨ret_int (by rw [unhide HE]; omega), Gr.one w _⟩
    have zM : ((M : Int) == 0) = false := by rw [beq_eq_false_iff_ne]; omega
    have HD : Hid (ctF (.mk c n v i a f hi hf r d kids) L M = ctT kids L M 1) := ct_kids (by omega)
    have wL : IntKind.i64.wrap ((L : Int) - 1) = ((L - 1 : Nat) : Int) := (wrap_in (by omega) (by omega)).trans (by omega)
    have HC := hide hc
    clear hc
    go_enter Tryz.func25, Tryz.ntmps25
    go_wp2
    go_loopw [7, 21] (fun vn vj wr => ∃ (j m : Nat), j ≤ kids.length ∧ vj = .int .i64 (j : Int) ∧ vn = .int .i64 (m : Int) ∧ m ≤ M ∧ Hid (ctT kids L M 1 = ctT (kids.drop j) L M m) ∧ Gr (w.alloc (.cells (cFl c n v i a1 a.length c1 f hi hf r d a2 kids.length c2) 27)) wr) (fun _ j _ => kids.length - (intOf j).toNat)
    case atStart => exact ⟨0, 1, Nat.zero_le _, rfl, rfl, by omega, rfl, Gr.refl _⟩
    case round =>
      obtain ⟨j, m, hj, rfl, rfl, hm, HB, hnx⟩ := hrel
      have gw := (Gr.one w _).trans hnx
      by_cases hlt : j < kids.length
      · have hzl : (j : Int) < (kids.length : Int) := by omega
        have hz0 : (0 : Int) ≤ (j : Int) := by omega
        obtain ⟨g, off, rfl, hl⟩ := (unhide HC).resolve_left (by omega)
        obtain ⟨x1, y1, x2, y2, q0, q1, q2, q3, q4, q5, q6, q7, q8, q9, q10, hv⟩ := flat_at hl j hlt
        replace q0 := gw.cell q0
        replace q1 := gw.cell q1
        replace q2 := gw.cell q2
        replace q3 := gw.cell q3
        replace q4 := gw.cell q4
        replace q5 := gw.cell q5
        replace q6 := gw.cell q6
        replace q7 := gw.cell q7
        replace q8 := gw.cell q8
        replace q9 := gw.cell q9
        replace q10 := gw.cell q10
        have CI : Hid (∀ W : World, Gr wr W → _) := fun W (g : Gr wr W) => unhide HIH _ (getD_memF kids j hlt) (L - 1) (M - m) _ W (hv.grow (gw.trans g).below) (by omega) (by omega)
        have HON := hide (ct_on kids L M m j hlt hm)
        have HOF := hide (ct_off kids L M m j hlt hm)
        have hcl := ct_le (kids.getD j fl0) (L - 1) (M - m)
        have wm : IntKind.i64.wrap ((M : Int) - (m : Int)) = ((M - m : Nat) : Int) := (wrap_in (by omega) (by omega)).trans (by omega)
        clear hv HIH hl
        generalize kids.getD j fl0 = e at *
        generalize ctF e (L - 1) (M - m) = dd at *
        generalize ((L - 1 : Nat) : Int) = ll at *
        have wn : IntKind.i64.wrap ((m : Int) + (dd : Int)) = (m : Int) + (dd : Int) := wrap_in (by omega) (by omega)
        generalize ((M - m : Nat) : Int) = mm at *
        by_cases hd : M < m + dd
        · have hdz : (M : Int) < (m : Int) + (dd : Int) := by omega
          have HE : Hid (ctT kids L M 1 = m + dd) := by show _ = _; rw [unhide HB, unhide HOF hd]
          clear HON HOF hcl
          go_wp2_with (go_at_call 25; refine (unhide CI _ (Gr.one wr _)).mono ?_; rintro e w2 ⟨rfl, g2⟩)
          go_ret
          exact ⟨ret_int (by rw [unhide HD, unhide HE]; omega), gw.trans ((Gr.one wr _).trans g2)⟩
        · have hdz : ¬ (M : Int) < (m : Int) + (dd : Int) := by omega
          have HE : Hid (ctT kids L M 1 = ctT (kids.drop (j + 1)) L M (m + dd)) := by show _ = _; rw [unhide HB, unhide HON hd]
          clear HON HOF hcl
          go_wp2_with (go_at_call 25; refine (unhide CI _ (Gr.one wr _)).mono ?_; rintro e w2 ⟨rfl, g2⟩)
          go_roundw
          case rel => exact ⟨j + 1, m + dd, by omega, by go_num, (by rw [Int.natCast_add]), by omega, unhide HE, hnx.trans ((Gr.one wr _).trans g2)⟩
          case measure => simp [intOf]; omega
      · have hzl : ¬ (j : Int) < (kids.length : Int) := by omega
        have HE : Hid (ctT kids L M 1 = m) := by
          show _ = _
          rw [unhide HB, List.drop_eq_nil_of_le (by omega), ct_end L M m hm]
        go_wp2
        go_ret
        exact ⟨ret_int (by rw [unhide HD, unhide HE]), gw⟩
/-- The landed Count. -/
theorem fCount_any (e : Fl) (x : Value) (w : World) (hV : FlV w e x) : Calls Tryz.prog 13 #[x] w fun r w' => r = .returned (.int .i64 (countF e)) ∧ Gr w w' := by
  obtain ⟨a1, c1, a2, c2, hv, -, -, -⟩ := hV.open
  have H : Hid (∀ W : World, Gr w W → Calls Tryz.prog 25 #[.int .i64 8, .int .i64 60, x] W fun r w' => r = .returned (.int .i64 (countF e)) ∧ Gr W w') := fun W g => by
    rw [count_ct]
    exact fcount_any e 8 60 x W (hV.grow g.below) (by omega) (by omega)
  have g0 := Gr.one w (.cells (cFl e.kin e.nam e.val e.ini a1 e.any.length c1 e.fin e.hi e.hf e.rul e.dn a2 e.kids.length c2) 27)
  clear hV
  subst hv
  generalize ((countF e : Nat) : Int) = y at *
  go_enter Tryz.func13, Tryz.ntmps13
  go_wp2_with (go_at_call 25; refine (unhide H _ g0).mono ?_; rintro e w2 ⟨rfl, g2⟩)
  go_ret
  exact ⟨rfl, g0.trans g2⟩
end Go.Proofs.YthbldkkjjjmegaaGreatDoor
