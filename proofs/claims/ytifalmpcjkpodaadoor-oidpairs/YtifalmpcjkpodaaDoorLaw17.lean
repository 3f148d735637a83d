/- The fixed answers, and the laws OidChecks, OidParses and OidPairs. -/
import Derived.Test.YtifalmpcjkpodaaDoorD17
import Derived.KernelRfl
namespace Go.Proofs.YtifalmpcjkpodaaDoor
set_option maxRecDepth 100000
open Go.RowKit

theorem sh254 : showO [2, 5, 4] = [50, 46, 53, 46, 52] := by
  simp [showO, joinO, digN_small]
theorem sh2543 : showO [2, 5, 4, 3] = [50, 46, 53, 46, 52, 46, 51] := by
  simp [showO, joinO, digN_small]
theorem ak1 : parO (nums ⟨#[50, 46, 53, 46, 52, 46, 51]⟩) = [2, 5, 4, 3] := by
  have e : nums ⟨#[50, 46, 53, 46, 52, 46, 51]⟩ = showO [2, 5, 4, 3] := by rw [sh2543]; kernel_rfl
  rw [e]; exact par_show _ (by kernel_rfl)
theorem ak2 : shS [2, 5, 4] = ⟨#[50, 46, 53, 46, 52]⟩ := by
  have e : okO [2, 5, 4] = true := by kernel_rfl
  have f : shS [2, 5, 4] = strOfNums (showO [2, 5, 4]) := by unfold shS; rw [e]; rfl
  rw [f, sh254]
  rfl
theorem ak3 : parO (nums ⟨#[49, 46, 52, 48]⟩) = [] := by
  have e : goO (nums ⟨#[49, 46, 52, 48]⟩) [] 0 = some ([1], 40) := by kernel_rfl
  have n : okO ([1] ++ [40]) = false := by kernel_rfl
  rw [parO_some (by rw [nums_length]; decide) e, n]
  simp
theorem ak4 : underO [2, 5, 4, 3] [2, 5, 4] = true := by kernel_rfl
theorem ak5 : cmpL [2, 5, 4, 3] [2, 5, 4] = 1 := by kernel_rfl
theorem ak6 : aboveO [2, 5, 4] = [2, 5] := by kernel_rfl
theorem ak7 : aboveO [2, 5] = [] := by kernel_rfl
theorem row4 {w : World} {v : Value} {x y z u : Int} (h : Row w v [x, y, z, u]) : ∃ b off c, v = .slice (some ⟨b, off, none⟩) 4 c ∧ w.cell? ⟨b, off + 3, none⟩ = some (.int .i64 u) := by
  obtain ⟨a, c, rfl, hc⟩ := h
  obtain ⟨b, off, rfl, hcc⟩ := hc (by simp)
  exact ⟨b, off, c, rfl, hcc 3 (by simp)⟩
theorem row2 {w : World} {v : Value} {x y : Int} (h : Row w v [x, y]) : ∃ a c, v = .slice a 2 c := by
  obtain ⟨a, c, rfl, _⟩ := h
  exact ⟨a, c, rfl⟩
theorem row0 {w : World} {v : Value} (h : Row w v []) : ∃ a c, v = .slice a 0 c := by
  obtain ⟨a, c, rfl, _⟩ := h
  exact ⟨a, c, rfl⟩
theorem fits_new (a : Option Addr) (n : Nat) : Fits (.slice a n n) := fun _ _ _ e => by cases e; exact Nat.le_refl _
theorem aw1 (W : World) (h : Ly W) : Calls Tryd.prog 17 #[.string ⟨#[50, 46, 53, 46, 52, 46, 51]⟩] W fun e w' => ∃ v, e = .returned (.tuple #[v, .int .i64 0]) ∧ Row w' v [2, 5, 4, 3] ∧ Fits v ∧ Below W.heap.size W w' := by
  have := oparse_any ⟨#[50, 46, 53, 46, 52, 46, 51]⟩ W h (by decide)
  rw [ak1, parE_some (by rw [ak1]; simp)] at this
  exact this
theorem aw2 (W : World) (h : Ly W) : Calls Tryd.prog 10 #[.slice (some ⟨W.heap.size, 0, none⟩) 3 3] (W.alloc (.cells #[.int .i64 2, .int .i64 5, .int .i64 4] 3)) fun e w' => e = .returned (.tuple #[.string ⟨#[50, 46, 53, 46, 52]⟩, .int .i64 0]) ∧ Below W.heap.size W w' := by
  have := oshow_any _ [2, 5, 4] _ (h.keep (Below.one W (.cells #[.int .i64 2, .int .i64 5, .int .i64 4] 3))) (by decide) (row_new W [2, 5, 4] _ _ rfl)
  rw [ak2, chk_yes (by kernel_rfl)] at this
  exact this.mono fun _ _ ⟨he, hb⟩ => ⟨he, below_new hb⟩
theorem aw3 (W : World) (h : Ly W) : Calls Tryd.prog 17 #[.string ⟨#[49, 46, 52, 48]⟩] W fun e w' => ∃ v, e = .returned (.tuple #[v, .int .i64 170]) ∧ Below W.heap.size W w' := by
  have := oparse_any ⟨#[49, 46, 52, 48]⟩ W h (by decide)
  rw [parE_none ak3] at this
  exact this.mono fun _ _ ⟨v, he, _, _, hb⟩ => ⟨v, he, hb⟩
theorem aw4 (W : World) (v : Value) (h : Ly W) (hR : Row W v [2, 5, 4, 3]) (hF : Fits v) : Calls Tryd.prog 21 #[v, .slice (some ⟨W.heap.size, 0, none⟩) 3 3] (W.alloc (.cells #[.int .i64 2, .int .i64 5, .int .i64 4] 3)) fun e w' => e = .returned (.bool true) ∧ Below W.heap.size W w' :=
  (ounder_any v _ [2, 5, 4, 3] [2, 5, 4] _ (h.keep (Below.one W (.cells #[.int .i64 2, .int .i64 5, .int .i64 4] 3))) (by decide) (by decide) (hR.below (Below.one _ _)) (row_new W [2, 5, 4] _ _ rfl) hF (fits_new _ _)).mono fun _ _ ⟨he, hb⟩ => ⟨he.trans (ret_bool ak4), below_new hb⟩
theorem aw5 (W : World) (v : Value) (h : Ly W) (hR : Row W v [2, 5, 4, 3]) : Calls Tryd.prog 19 #[v, .slice (some ⟨W.heap.size, 0, none⟩) 3 3] (W.alloc (.cells #[.int .i64 2, .int .i64 5, .int .i64 4] 3)) fun e w' => e = .returned (.int .i64 1) ∧ Below W.heap.size W w' :=
  (ocmp_any v _ [2, 5, 4, 3] [2, 5, 4] _ (h.keep (Below.one W (.cells #[.int .i64 2, .int .i64 5, .int .i64 4] 3))) (by decide) (by decide) (hR.below (Below.one _ _)) (row_new W [2, 5, 4] _ _ rfl)).mono fun _ _ ⟨he, hb⟩ => ⟨he.trans (ret_int ak5), below_new hb⟩
theorem aw6 (W : World) (h : Ly W) : Calls Tryd.prog 15 #[.slice (some ⟨W.heap.size, 0, none⟩) 3 3] (W.alloc (.cells #[.int .i64 2, .int .i64 5, .int .i64 4] 3)) fun e w' => ∃ v, e = .returned v ∧ Row w' v [2, 5] ∧ Below W.heap.size W w' :=
  (oabove_any _ [2, 5, 4] _ (h.keep (Below.one W (.cells #[.int .i64 2, .int .i64 5, .int .i64 4] 3))) (by decide) (row_new W [2, 5, 4] _ _ rfl) (fits_new _ _)).mono fun _ _ ⟨v, he, hr, _, hb⟩ => ⟨v, he, by rw [ak6] at hr; exact hr, below_new hb⟩
theorem aw7 (W : World) (h : Ly W) : Calls Tryd.prog 15 #[.slice (some ⟨W.heap.size, 0, none⟩) 2 2] (W.alloc (.cells #[.int .i64 2, .int .i64 5] 3)) fun e w' => ∃ v, e = .returned v ∧ Row w' v [] ∧ Below W.heap.size W w' :=
  (oabove_any _ [2, 5] _ (h.keep (Below.one W (.cells #[.int .i64 2, .int .i64 5] 3))) (by decide) (row_new W [2, 5] _ _ rfl) (fits_new _ _)).mono fun _ _ ⟨v, he, hr, _, hb⟩ => ⟨v, he, by rw [ak7] at hr; exact hr, below_new hb⟩
set_option maxHeartbeats 3200000 in
theorem awake17 (w : World) (hL : Ly w) : Calls Tryd.prog 9 #[] w fun e w' => e = .returned (.bool true) ∧ Below w.heap.size w w' := by
  have H1 := hide aw1
  have H2 := hide aw2
  have H3 := hide aw3
  have H4 := hide aw4
  have H5 := hide aw5
  have H6 := hide aw6
  have H7 := hide aw7
  go_enter Tryd.func9, Tryd.ntmps9
  go_wp2_with (first
    | (go_at_call 15; refine (unhide H7 _ hL6).mono ?_; rintro e w7 ⟨v7, rfl, r7, b7⟩; obtain ⟨xa7, xc7, rfl⟩ := row0 r7; have c7 := c6.trans (b7.mono c6.size))
    | (go_at_call 15; refine (unhide H6 _ hL5).mono ?_; rintro e w6 ⟨v6, rfl, r6, b6⟩; obtain ⟨xa6, xc6, rfl⟩ := row2 r6; have c6 := c5.trans (b6.mono c5.size); have hL6 := hL.keep c6)
    | (go_at_call 19; refine (unhide H5 _ _ hL4 r4).mono ?_; rintro e w5 ⟨rfl, b5⟩; have c5 := c4.trans (b5.mono c4.size); have hL5 := hL.keep c5)
    | (go_at_call 21; refine (unhide H4 _ _ hL3 r3 f1).mono ?_; rintro e w4 ⟨rfl, b4⟩; have c4 := c3.trans (b4.mono c3.size); have hL4 := hL.keep c4; have r4 := r3.below b4)
    | (go_at_call 17; refine (unhide H3 _ hL2).mono ?_; rintro e w3 ⟨v3, rfl, b3⟩; have c3 := c2.trans (b3.mono c2.size); have hL3 := hL.keep c3; have r3 := r2.below b3; have k3 := (b3.cell (cell_lt k2)).trans k2)
    | (go_at_call 10; refine (unhide H2 _ hL1).mono ?_; rintro e w2 ⟨rfl, b2⟩; have c2 := b1.trans (b2.mono b1.size); have hL2 := hL.keep c2; have r2 := r1.below b2; have k2 := (b2.cell (cell_lt k1)).trans k1)
    | (go_at_call 17; refine (unhide H1 _ hL).mono ?_; rintro e w1 ⟨v1, rfl, r1, f1, b1⟩; obtain ⟨bb, oo, cc, rfl, k1⟩ := row4 r1; have hL1 := hL.keep b1))
  go_ret
  exact ⟨rfl, c7⟩

set_option maxHeartbeats 3200000 in
theorem checks17_law (a : Option Addr) (cap : Nat) (l : List Int) (w : World) (hL : Ly w) (hr : Row w (.slice a l.length cap) l) (hcap : l.length ≤ cap) (hn : l.length ≤ 9223372036854775807) : Calls Tryd.prog 3 #[.slice a l.length cap] w fun e w' => e = .returned (.bool true) ∧ Below w.heap.size w w' := by
  have HA := hide awake17
  by_cases hlen : 1000 < l.length
  · have hz : (1000 : Int) < (l.length : Int) := by omega
    go_enter Tryd.func3, Tryd.ntmps3
    go_wp2_with (go_at_call 9; refine (unhide HA _ hL).mono ?_; rintro e w5 ⟨rfl, b5⟩)
    go_ret
    exact ⟨rfl, b5⟩
  · have hz : ¬ (1000 : Int) < (l.length : Int) := by omega
    have hF : Fits (.slice a l.length cap) := fun _ _ _ e => by cases e; exact hcap
    have H1 := hide (fun W hW hR => oshow_any (.slice a l.length cap) l W hW (by omega) hR)
    have H2 := hide (fun W hR => rshow_v (.slice a l.length cap) l W hR (by omega))
    have H3 := hide (fun W hW hR => ocheck_any (.slice a l.length cap) l W hW (by omega) hR)
    have H4 := hide (fun W hR => rcheck_any (.slice a l.length cap) l W hR (by omega))
    have H5 := hide (fun W hW hR => oabove_any (.slice a l.length cap) l W hW (by omega) hR hF)
    have H6 := hide (fun W hR => rabove_v (.slice a l.length cap) l W (by omega) hR hF)
    have hal : (aboveO l).length ≤ 5000 := by unfold aboveO; split <;> simp; omega
    have S1 := hide (fun v1 v2 W => same17_v v1 v2 (aboveO l) (aboveO l) W hal hal)
    rw [decide_eq_true rfl] at S1
    have hq : ((shS l).toList == (shS l).toList) = true := by simp
    generalize aboveO l = A at *
    generalize chkO l = x at *
    generalize shS l = s at *
    go_enter Tryd.func3, Tryd.ntmps3
    go_wp2_with (first
      | (go_at_call 9; refine (unhide HA _ hL7).mono ?_; rintro e w8 ⟨rfl, b8⟩; have c8 := c7.trans (b8.mono c7.size))
      | (go_at_call 14; refine (unhide S1 _ _ _ r6 q6.row).mono ?_; rintro e w7 ⟨rfl, b7⟩; have c7 := c6.trans (b7.mono c6.size); have hL7 := hL.keep c7)
      | (go_at_call 16; refine (unhide H6 _ hr5).mono ?_; rintro e w6 ⟨v6, rfl, q6, b6⟩; have c6 := c5.trans (b6.mono c5.size); have r6 := r5.below b6)
      | (go_at_call 15; refine (unhide H5 _ hL3 hr3).mono ?_; rintro e w5 ⟨v5, rfl, r5, f5, b5⟩; have c5 := c3.trans (b5.mono c3.size); have hr5 := hr3.below b5)
      | (go_at_call 13; refine (unhide H4 _ hr3).mono ?_; rintro e w4 ⟨rfl, rfl⟩)
      | (go_at_call 12; refine (unhide H3 _ hL2 hr2).mono ?_; rintro e w3 ⟨rfl, b3⟩; have c3 := c2.trans (b3.mono c2.size); have hL3 := hL.keep c3; have hr3 := hr2.below b3)
      | (go_at_call 11; refine (unhide H2 _ hr1).mono ?_; rintro e w2 ⟨rfl, g2⟩; have c2 := b1.trans (g2.below.mono b1.size); have hL2 := hL.keep c2; have hr2 := hr1.below g2.below)
      | (go_at_call 10; refine (unhide H1 _ hL hr).mono ?_; rintro e w1 ⟨rfl, b1⟩; have hr1 := hr.below b1))
    go_ret
    exact ⟨rfl, c8⟩

set_option maxHeartbeats 3200000 in
theorem parses17_law (s : ByteArray) (w : World) (hL : Ly w) (hs : s.size ≤ 281474976710656) : Calls Tryd.prog 4 #[.string s] w fun e w' => e = .returned (.bool true) ∧ Below w.heap.size w w' := by
  have HA := hide awake17
  have H1 := hide (fun W hW => oparse_any s W hW hs)
  have H2 := hide (fun W => rparse_any s W (by omega))
  have hpl : (parO (nums s)).length ≤ 5000 := by
    by_cases h : parO (nums s) = []
    · rw [h]; simp
    · have := okO_len (par_ok _ h).1; omega
  have S1 := hide (fun v1 v2 W => same17_v v1 v2 (parO (nums s)) (parO (nums s)) W hpl hpl)
  rw [decide_eq_true rfl] at S1
  generalize parO (nums s) = A at *
  generalize parE (nums s) = x at *
  go_enter Tryd.func4, Tryd.ntmps4
  go_wp2_with (first
    | (go_at_call 9; refine (unhide HA _ hL3).mono ?_; rintro e w4 ⟨rfl, b4⟩; have c4 := c3.trans (b4.mono c3.size))
    | (go_at_call 14; refine (unhide S1 _ _ _ r2 q2.row).mono ?_; rintro e w3 ⟨rfl, b3⟩; have c3 := c2.trans (b3.mono c2.size); have hL3 := hL.keep c3)
    | (go_at_call 18; refine (unhide H2 _).mono ?_; rintro e w2 ⟨v2, rfl, q2, b2⟩; have c2 := b1.trans (b2.mono b1.size); have r2 := r1.below b2)
    | (go_at_call 17; refine (unhide H1 _ hL).mono ?_; rintro e w1 ⟨v1, rfl, r1, f1, b1⟩))
  go_ret
  exact ⟨rfl, c4⟩

set_option maxHeartbeats 3200000 in
theorem pairs17_law (a b : Option Addr) (c d : Nat) (l m : List Int) (w : World) (hL : Ly w) (h1 : Row w (.slice a l.length c) l) (h2 : Row w (.slice b m.length d) m) (hc : l.length ≤ c) (hd : m.length ≤ d) (hn : l.length ≤ 9223372036854775807) (hn2 : m.length ≤ 9223372036854775807) : Calls Tryd.prog 5 #[.slice a l.length c, .slice b m.length d] w fun e w' => e = .returned (.bool true) ∧ Below w.heap.size w w' := by
  have HA := hide awake17
  by_cases hlen : 1000 < l.length
  · have hz : (1000 : Int) < (l.length : Int) := by omega
    go_enter Tryd.func5, Tryd.ntmps5
    go_wp2_with (go_at_call 9; refine (unhide HA _ hL).mono ?_; rintro e w5 ⟨rfl, b5⟩)
    go_ret
    exact ⟨rfl, b5⟩
  · have hz : ¬ (1000 : Int) < (l.length : Int) := by omega
    by_cases hlem : 1000 < m.length
    · have hzm : (1000 : Int) < (m.length : Int) := by omega
      go_enter Tryd.func5, Tryd.ntmps5
      go_wp2_with (go_at_call 9; refine (unhide HA _ hL).mono ?_; rintro e w5 ⟨rfl, b5⟩)
      go_ret
      exact ⟨rfl, b5⟩
    · have hzm : ¬ (1000 : Int) < (m.length : Int) := by omega
      have hF : Fits (.slice a l.length c) := fun _ _ _ e => by cases e; exact hc
      have hG : Fits (.slice b m.length d) := fun _ _ _ e => by cases e; exact hd
      have H1 := hide (fun W hW r1 r2 => ocmp_any (.slice a l.length c) (.slice b m.length d) l m W hW (by omega) (by omega) r1 r2)
      have H2 := hide (fun W r1 r2 => rcmp_any (.slice a l.length c) (.slice b m.length d) l m W r1 r2 (by omega) (by omega))
      have H3 := hide (fun W hW r1 r2 => ounder_any (.slice a l.length c) (.slice b m.length d) l m W hW (by omega) (by omega) r1 r2 hF hG)
      have H4 := hide (fun W r1 r2 => runder_v (.slice a l.length c) (.slice b m.length d) l m W (by omega) (by omega) r1 r2 hF)
      generalize cmpL l m = x at *
      generalize underO l m = y at *
      go_enter Tryd.func5, Tryd.ntmps5
      go_wp2_with (first
        | (go_at_call 9; refine (unhide HA _ hL4).mono ?_; rintro e w5 ⟨rfl, b5⟩; have c5 := c4.trans (b5.mono c4.size))
        | (go_at_call 22; refine (unhide H4 _ p3 q3).mono ?_; rintro e w4 ⟨rfl, g4⟩; have c4 := c3.trans (g4.below.mono c3.size); have hL4 := hL.keep c4)
        | (go_at_call 21; refine (unhide H3 _ hL2 p2 q2).mono ?_; rintro e w3 ⟨rfl, b3⟩; have c3 := c2.trans (b3.mono c2.size); have hL3 := hL.keep c3; have p3 := p2.below b3; have q3 := q2.below b3)
        | (go_at_call 20; refine (unhide H2 _ p1 q1).mono ?_; rintro e w2 ⟨rfl, g2⟩; have c2 := b1.trans (g2.below.mono b1.size); have hL2 := hL.keep c2; have p2 := p1.below g2.below; have q2 := q1.below g2.below)
        | (go_at_call 19; refine (unhide H1 _ hL h1 h2).mono ?_; rintro e w1 ⟨rfl, b1⟩; have p1 := h1.below b1; have q1 := h2.below b1))
      go_ret
      exact ⟨rfl, c5⟩
end Go.Proofs.YtifalmpcjkpodaaDoor
