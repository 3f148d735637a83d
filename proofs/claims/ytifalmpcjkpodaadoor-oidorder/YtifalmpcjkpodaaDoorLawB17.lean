/- The laws OidBack, OidOrder and OidUnder. (By gen_laws.py.) -/
import Derived.Test.YtifalmpcjkpodaaDoorLaw17
namespace Go.Proofs.YtifalmpcjkpodaaDoor
set_option maxRecDepth 100000
open Go.RowKit

theorem nums_shS (l : List Int) (h : okO l = true) : nums (shS l) = showO l := by
  have f : shS l = strOfNums (showO l) := by unfold shS; rw [h]; rfl
  rw [f, nums_strOfNums _ (showO_bound l)]
theorem shS_par (s : ByteArray) (h : parO (nums s) ≠ []) : shS (parO (nums s)) = s := by
  obtain ⟨h1, h2⟩ := par_ok _ h
  have f : shS (parO (nums s)) = strOfNums (showO (parO (nums s))) := by unfold shS; rw [h1]; rfl
  rw [f, h2, strOfNums_nums]
theorem par_len (s : List Int) : (parO s).length ≤ 12 := by
  by_cases h : parO s = []
  · rw [h]; simp
  · exact (okO_len (par_ok _ h).1).2
set_option maxHeartbeats 3200000 in
theorem back17_law (a : Option Addr) (cap : Nat) (l : List Int) (s : ByteArray) (w : World) (hL : Ly w) (p0 : Row w (.slice a l.length cap) l) (hn : l.length ≤ 9223372036854775807) (hs : s.size ≤ 281474976710656) : Calls Tryd.prog 6 #[.slice a l.length cap, .string s] w fun e w' => e = .returned (.bool true) ∧ Below w.heap.size w w' := by
  have HA := hide awake17
  have c0 := Below.refl w.heap.size w
  have L0 := hL
  by_cases hlen : 1000 < l.length
  · have hz : (1000 : Int) < (l.length : Int) := by omega
    go_enter Tryd.func6, Tryd.ntmps6
    go_wp2_with (go_at_call 9; refine (unhide HA _ hL).mono ?_; rintro e w5 ⟨rfl, b5⟩)
    go_ret
    exact ⟨rfl, b5⟩
  · have hz : ¬ (1000 : Int) < (l.length : Int) := by omega
    have H1 := hide (fun W hW hR => oshow_any (.slice a l.length cap) l W hW (by omega) hR)
    have H3 := hide (fun W hW => oparse_any s W hW hs)
    have hpl := par_len (nums s)
    have H4 := hide (fun v W hW hR => oshow_any v (parO (nums s)) W hW (by omega) hR)
    have S1 := hide (fun v1 v2 W => same17_v v1 v2 l l W (by omega) (by omega))
    rw [decide_eq_true rfl] at S1
    have RL : Hid (∀ (W : World) (v : Value), Row W v (parO (nums s)) → ∃ xa xc, v = .slice xa (parO (nums s)).length xc) := fun W v h => h.shape

    cases ho : okO l
    · rw [chk_no ho] at H1
      have EQ : Hid (shS l = shS l) := rfl
      generalize shS l = S at *
      clear EQ S1
      by_cases hp : parO (nums s) = []
      · rw [parE_none hp, hp] at H3
        clear H4 RL
        go_enter Tryd.func6, Tryd.ntmps6
        go_wp2_with (first
          | (go_at_call 9; refine (unhide HA _ L2).mono ?_; rintro e w3 ⟨rfl, b3⟩; have c3 := c2.trans (b3.mono c2.size); have L3 := hL.keep c3; have p3 := p2.below b3)
          | (go_at_call 17; refine (unhide H3 _ L1).mono ?_; rintro e w2 ⟨v2, rfl, r2, f2, b2⟩; have c2 := c1.trans (b2.mono c1.size); have L2 := hL.keep c2; have p2 := p1.below b2; obtain ⟨xa, xc, rfl⟩ := row0 r2)
          | (go_at_call 10; refine (unhide H1 _ L0 p0).mono ?_; rintro e w1 ⟨rfl, b1⟩; have c1 := c0.trans (b1.mono c0.size); have L1 := hL.keep c1; have p1 := p0.below b1))
        go_ret
        exact ⟨rfl, c3⟩
      · have hq : ((shS (parO (nums s))).toList == s.toList) = true := by rw [shS_par s hp]; simp
        rw [parE_some hp] at H3
        rw [chk_yes (par_ok _ hp).1] at H4
        generalize shS (parO (nums s)) = T at *
        go_enter Tryd.func6, Tryd.ntmps6
        go_wp2_with (first
          | (go_at_call 9; refine (unhide HA _ L3).mono ?_; rintro e w4 ⟨rfl, b4⟩; have c4 := c3.trans (b4.mono c3.size); have L4 := hL.keep c4; have p4 := p3.below b4)
          | (go_at_call 10; refine (unhide H4 _ _ L2 r2).mono ?_; rintro e w3 ⟨rfl, b3⟩; have c3 := c2.trans (b3.mono c2.size); have L3 := hL.keep c3; have p3 := p2.below b3)
          | (go_at_call 17; refine (unhide H3 _ L1).mono ?_; rintro e w2 ⟨v2, rfl, r2, f2, b2⟩; have c2 := c1.trans (b2.mono c1.size); have L2 := hL.keep c2; have p2 := p1.below b2)
          | (go_at_call 10; refine (unhide H1 _ L0 p0).mono ?_; rintro e w1 ⟨rfl, b1⟩; have c1 := c0.trans (b1.mono c0.size); have L1 := hL.keep c1; have p1 := p0.below b1))
        go_ret
        exact ⟨rfl, c4⟩
    · rw [chk_yes ho] at H1
      have H2 := hide (fun W hW => oparse_any (shS l) W hW (by have := showO_len l ho; rw [← nums_length, nums_shS l ho]; omega))
      have hlne : l ≠ [] := fun e => by have := okO_len ho; rw [e] at this; simp at this
      rw [parE_some (by rw [nums_shS l ho, par_show l ho]; exact hlne), nums_shS l ho, par_show l ho] at H2
      generalize shS l = S at *
      by_cases hp : parO (nums s) = []
      · rw [parE_none hp, hp] at H3
        clear H4 RL
        go_enter Tryd.func6, Tryd.ntmps6
        go_wp2_with (first
          | (go_at_call 9; refine (unhide HA _ L4).mono ?_; rintro e w5 ⟨rfl, b5⟩; have c5 := c4.trans (b5.mono c4.size); have L5 := hL.keep c5; have p5 := p4.below b5)
          | (go_at_call 17; refine (unhide H3 _ L3).mono ?_; rintro e w4 ⟨v4, rfl, r4, f4, b4⟩; have c4 := c3.trans (b4.mono c3.size); have L4 := hL.keep c4; have p4 := p3.below b4; obtain ⟨xa, xc, rfl⟩ := row0 r4)
          | (go_at_call 14; refine (unhide S1 _ _ _ u2 p2).mono ?_; rintro e w3 ⟨rfl, b3⟩; have c3 := c2.trans (b3.mono c2.size); have L3 := hL.keep c3; have p3 := p2.below b3)
          | (go_at_call 17; refine (unhide H2 _ L1).mono ?_; rintro e w2 ⟨v2, rfl, u2, f2, b2⟩; have c2 := c1.trans (b2.mono c1.size); have L2 := hL.keep c2; have p2 := p1.below b2)
          | (go_at_call 10; refine (unhide H1 _ L0 p0).mono ?_; rintro e w1 ⟨rfl, b1⟩; have c1 := c0.trans (b1.mono c0.size); have L1 := hL.keep c1; have p1 := p0.below b1))
        go_ret
        exact ⟨rfl, c5⟩
      · have hq : ((shS (parO (nums s))).toList == s.toList) = true := by rw [shS_par s hp]; simp
        rw [parE_some hp] at H3
        rw [chk_yes (par_ok _ hp).1] at H4
        generalize shS (parO (nums s)) = T at *
        go_enter Tryd.func6, Tryd.ntmps6
        go_wp2_with (first
          | (go_at_call 9; refine (unhide HA _ L5).mono ?_; rintro e w6 ⟨rfl, b6⟩; have c6 := c5.trans (b6.mono c5.size); have L6 := hL.keep c6; have p6 := p5.below b6)
          | (go_at_call 10; refine (unhide H4 _ _ L4 r4).mono ?_; rintro e w5 ⟨rfl, b5⟩; have c5 := c4.trans (b5.mono c4.size); have L5 := hL.keep c5; have p5 := p4.below b5)
          | (go_at_call 17; refine (unhide H3 _ L3).mono ?_; rintro e w4 ⟨v4, rfl, r4, f4, b4⟩; have c4 := c3.trans (b4.mono c3.size); have L4 := hL.keep c4; have p4 := p3.below b4)
          | (go_at_call 14; refine (unhide S1 _ _ _ u2 p2).mono ?_; rintro e w3 ⟨rfl, b3⟩; have c3 := c2.trans (b3.mono c2.size); have L3 := hL.keep c3; have p3 := p2.below b3)
          | (go_at_call 17; refine (unhide H2 _ L1).mono ?_; rintro e w2 ⟨v2, rfl, u2, f2, b2⟩; have c2 := c1.trans (b2.mono c1.size); have L2 := hL.keep c2; have p2 := p1.below b2)
          | (go_at_call 10; refine (unhide H1 _ L0 p0).mono ?_; rintro e w1 ⟨rfl, b1⟩; have c1 := c0.trans (b1.mono c0.size); have L1 := hL.keep c1; have p1 := p0.below b1))
        go_ret
        exact ⟨rfl, c6⟩


theorem same_cmp (l m : List Int) : decide (l = m) = decide (cmpL l m = 0) := by
  by_cases h : l = m
  · rw [decide_eq_true h, decide_eq_true (by rw [h]; exact cmp_self m)]
  · rw [decide_eq_false h, decide_eq_false (fun e => h (cmp_zero _ _ e))]

set_option maxHeartbeats 6400000 in
theorem order17_law (a b d : Option Addr) (ca cb cd : Nat) (l m n : List Int) (w : World) (hL : Ly w) (p0 : Row w (.slice a l.length ca) l) (q0 : Row w (.slice b m.length cb) m) (t0 : Row w (.slice d n.length cd) n) (h1 : l.length ≤ 9223372036854775807) (h2 : m.length ≤ 9223372036854775807) (h3 : n.length ≤ 9223372036854775807) : Calls Tryd.prog 7 #[.slice a l.length ca, .slice b m.length cb, .slice d n.length cd] w fun e w' => e = .returned (.bool true) ∧ Below w.heap.size w w' := by
  have HA := hide awake17
  have c0 := Below.refl w.heap.size w
  have L0 := hL

  by_cases el : 1000 < l.length
  · have zl : (1000 : Int) < (l.length : Int) := by omega
    go_enter Tryd.func7, Tryd.ntmps7
    go_wp2_with (go_at_call 9; refine (unhide HA _ hL).mono ?_; rintro e w5 ⟨rfl, b5⟩)
    go_ret
    exact ⟨rfl, b5⟩
  have zl : ¬ (1000 : Int) < (l.length : Int) := by omega
  by_cases em : 1000 < m.length
  · have zm : (1000 : Int) < (m.length : Int) := by omega
    go_enter Tryd.func7, Tryd.ntmps7
    go_wp2_with (go_at_call 9; refine (unhide HA _ hL).mono ?_; rintro e w5 ⟨rfl, b5⟩)
    go_ret
    exact ⟨rfl, b5⟩
  have zm : ¬ (1000 : Int) < (m.length : Int) := by omega
  by_cases en : 1000 < n.length
  · have zn : (1000 : Int) < (n.length : Int) := by omega
    go_enter Tryd.func7, Tryd.ntmps7
    go_wp2_with (go_at_call 9; refine (unhide HA _ hL).mono ?_; rintro e w5 ⟨rfl, b5⟩)
    go_ret
    exact ⟨rfl, b5⟩
  have zn : ¬ (1000 : Int) < (n.length : Int) := by omega

  have H1 := hide (fun W hW r1 r2 => ocmp_any (.slice a l.length ca) (.slice b m.length cb) l m W hW (by omega) (by omega) r1 r2)
  have H2 := hide (fun W hW r1 r2 => ocmp_any (.slice b m.length cb) (.slice d n.length cd) m n W hW (by omega) (by omega) r1 r2)
  have H3 := hide (fun W hW r1 r2 => ocmp_any (.slice a l.length ca) (.slice d n.length cd) l n W hW (by omega) (by omega) r1 r2)
  have H4 := hide (fun W hW r1 r2 => ocmp_any (.slice b m.length cb) (.slice a l.length ca) m l W hW (by omega) (by omega) r1 r2)
  have S1 := hide (fun W => same17_v (.slice a l.length ca) (.slice b m.length cb) l m W (by omega) (by omega))
  rw [same_cmp] at S1
  rw [cmp_neg l m] at H4
  have hv := cmp_vals l m
  have ht := cmp_trans l m n
  generalize cmpL l m = x at *
  generalize cmpL m n = y at *
  generalize cmpL l n = z at *

  rcases hv with rfl | rfl | rfl
  · by_cases hy : 0 < y
    · clear ht
      go_enter Tryd.func7, Tryd.ntmps7
      go_wp2_with (first
        | (go_at_call 9; refine (unhide HA _ L5).mono ?_; rintro e w6 ⟨rfl, b6⟩; have c6 := c5.trans (b6.mono c5.size); have L6 := hL.keep c6; have p6 := p5.below b6; have q6 := q5.below b6; have t6 := t5.below b6)
        | (go_at_call 14; refine (unhide S1 _ p4 q4).mono ?_; rintro e w5 ⟨rfl, b5⟩; have c5 := c4.trans (b5.mono c4.size); have L5 := hL.keep c5; have p5 := p4.below b5; have q5 := q4.below b5; have t5 := t4.below b5)
        | (go_at_call 19; refine (unhide H4 _ L3 q3 p3).mono ?_; rintro e w4 ⟨rfl, b4⟩; have c4 := c3.trans (b4.mono c3.size); have L4 := hL.keep c4; have p4 := p3.below b4; have q4 := q3.below b4; have t4 := t3.below b4)
        | (go_at_call 19; refine (unhide H3 _ L2 p2 t2).mono ?_; rintro e w3 ⟨rfl, b3⟩; have c3 := c2.trans (b3.mono c2.size); have L3 := hL.keep c3; have p3 := p2.below b3; have q3 := q2.below b3; have t3 := t2.below b3)
        | (go_at_call 19; refine (unhide H2 _ L1 q1 t1).mono ?_; rintro e w2 ⟨rfl, b2⟩; have c2 := c1.trans (b2.mono c1.size); have L2 := hL.keep c2; have p2 := p1.below b2; have q2 := q1.below b2; have t2 := t1.below b2)
        | (go_at_call 19; refine (unhide H1 _ L0 p0 q0).mono ?_; rintro e w1 ⟨rfl, b1⟩; have c1 := c0.trans (b1.mono c0.size); have L1 := hL.keep c1; have p1 := p0.below b1; have q1 := q0.below b1; have t1 := t0.below b1))
      go_ret
      exact ⟨rfl, c6⟩
    · have hz : z ≤ 0 := ht (by omega) (by omega)
      clear ht
      go_enter Tryd.func7, Tryd.ntmps7
      go_wp2_with (first
        | (go_at_call 9; refine (unhide HA _ L5).mono ?_; rintro e w6 ⟨rfl, b6⟩; have c6 := c5.trans (b6.mono c5.size); have L6 := hL.keep c6; have p6 := p5.below b6; have q6 := q5.below b6; have t6 := t5.below b6)
        | (go_at_call 14; refine (unhide S1 _ p4 q4).mono ?_; rintro e w5 ⟨rfl, b5⟩; have c5 := c4.trans (b5.mono c4.size); have L5 := hL.keep c5; have p5 := p4.below b5; have q5 := q4.below b5; have t5 := t4.below b5)
        | (go_at_call 19; refine (unhide H4 _ L3 q3 p3).mono ?_; rintro e w4 ⟨rfl, b4⟩; have c4 := c3.trans (b4.mono c3.size); have L4 := hL.keep c4; have p4 := p3.below b4; have q4 := q3.below b4; have t4 := t3.below b4)
        | (go_at_call 19; refine (unhide H3 _ L2 p2 t2).mono ?_; rintro e w3 ⟨rfl, b3⟩; have c3 := c2.trans (b3.mono c2.size); have L3 := hL.keep c3; have p3 := p2.below b3; have q3 := q2.below b3; have t3 := t2.below b3)
        | (go_at_call 19; refine (unhide H2 _ L1 q1 t1).mono ?_; rintro e w2 ⟨rfl, b2⟩; have c2 := c1.trans (b2.mono c1.size); have L2 := hL.keep c2; have p2 := p1.below b2; have q2 := q1.below b2; have t2 := t1.below b2)
        | (go_at_call 19; refine (unhide H1 _ L0 p0 q0).mono ?_; rintro e w1 ⟨rfl, b1⟩; have c1 := c0.trans (b1.mono c0.size); have L1 := hL.keep c1; have p1 := p0.below b1; have q1 := q0.below b1; have t1 := t0.below b1))
      go_ret
      exact ⟨rfl, c6⟩
  · by_cases hy : 0 < y
    · clear ht
      go_enter Tryd.func7, Tryd.ntmps7
      go_wp2_with (first
        | (go_at_call 9; refine (unhide HA _ L5).mono ?_; rintro e w6 ⟨rfl, b6⟩; have c6 := c5.trans (b6.mono c5.size); have L6 := hL.keep c6; have p6 := p5.below b6; have q6 := q5.below b6; have t6 := t5.below b6)
        | (go_at_call 14; refine (unhide S1 _ p4 q4).mono ?_; rintro e w5 ⟨rfl, b5⟩; have c5 := c4.trans (b5.mono c4.size); have L5 := hL.keep c5; have p5 := p4.below b5; have q5 := q4.below b5; have t5 := t4.below b5)
        | (go_at_call 19; refine (unhide H4 _ L3 q3 p3).mono ?_; rintro e w4 ⟨rfl, b4⟩; have c4 := c3.trans (b4.mono c3.size); have L4 := hL.keep c4; have p4 := p3.below b4; have q4 := q3.below b4; have t4 := t3.below b4)
        | (go_at_call 19; refine (unhide H3 _ L2 p2 t2).mono ?_; rintro e w3 ⟨rfl, b3⟩; have c3 := c2.trans (b3.mono c2.size); have L3 := hL.keep c3; have p3 := p2.below b3; have q3 := q2.below b3; have t3 := t2.below b3)
        | (go_at_call 19; refine (unhide H2 _ L1 q1 t1).mono ?_; rintro e w2 ⟨rfl, b2⟩; have c2 := c1.trans (b2.mono c1.size); have L2 := hL.keep c2; have p2 := p1.below b2; have q2 := q1.below b2; have t2 := t1.below b2)
        | (go_at_call 19; refine (unhide H1 _ L0 p0 q0).mono ?_; rintro e w1 ⟨rfl, b1⟩; have c1 := c0.trans (b1.mono c0.size); have L1 := hL.keep c1; have p1 := p0.below b1; have q1 := q0.below b1; have t1 := t0.below b1))
      go_ret
      exact ⟨rfl, c6⟩
    · have hz : z ≤ 0 := ht (by omega) (by omega)
      clear ht
      go_enter Tryd.func7, Tryd.ntmps7
      go_wp2_with (first
        | (go_at_call 9; refine (unhide HA _ L5).mono ?_; rintro e w6 ⟨rfl, b6⟩; have c6 := c5.trans (b6.mono c5.size); have L6 := hL.keep c6; have p6 := p5.below b6; have q6 := q5.below b6; have t6 := t5.below b6)
        | (go_at_call 14; refine (unhide S1 _ p4 q4).mono ?_; rintro e w5 ⟨rfl, b5⟩; have c5 := c4.trans (b5.mono c4.size); have L5 := hL.keep c5; have p5 := p4.below b5; have q5 := q4.below b5; have t5 := t4.below b5)
        | (go_at_call 19; refine (unhide H4 _ L3 q3 p3).mono ?_; rintro e w4 ⟨rfl, b4⟩; have c4 := c3.trans (b4.mono c3.size); have L4 := hL.keep c4; have p4 := p3.below b4; have q4 := q3.below b4; have t4 := t3.below b4)
        | (go_at_call 19; refine (unhide H3 _ L2 p2 t2).mono ?_; rintro e w3 ⟨rfl, b3⟩; have c3 := c2.trans (b3.mono c2.size); have L3 := hL.keep c3; have p3 := p2.below b3; have q3 := q2.below b3; have t3 := t2.below b3)
        | (go_at_call 19; refine (unhide H2 _ L1 q1 t1).mono ?_; rintro e w2 ⟨rfl, b2⟩; have c2 := c1.trans (b2.mono c1.size); have L2 := hL.keep c2; have p2 := p1.below b2; have q2 := q1.below b2; have t2 := t1.below b2)
        | (go_at_call 19; refine (unhide H1 _ L0 p0 q0).mono ?_; rintro e w1 ⟨rfl, b1⟩; have c1 := c0.trans (b1.mono c0.size); have L1 := hL.keep c1; have p1 := p0.below b1; have q1 := q0.below b1; have t1 := t0.below b1))
      go_ret
      exact ⟨rfl, c6⟩
  · clear ht
    go_enter Tryd.func7, Tryd.ntmps7
    go_wp2_with (first
      | (go_at_call 9; refine (unhide HA _ L5).mono ?_; rintro e w6 ⟨rfl, b6⟩; have c6 := c5.trans (b6.mono c5.size); have L6 := hL.keep c6; have p6 := p5.below b6; have q6 := q5.below b6; have t6 := t5.below b6)
      | (go_at_call 14; refine (unhide S1 _ p4 q4).mono ?_; rintro e w5 ⟨rfl, b5⟩; have c5 := c4.trans (b5.mono c4.size); have L5 := hL.keep c5; have p5 := p4.below b5; have q5 := q4.below b5; have t5 := t4.below b5)
      | (go_at_call 19; refine (unhide H4 _ L3 q3 p3).mono ?_; rintro e w4 ⟨rfl, b4⟩; have c4 := c3.trans (b4.mono c3.size); have L4 := hL.keep c4; have p4 := p3.below b4; have q4 := q3.below b4; have t4 := t3.below b4)
      | (go_at_call 19; refine (unhide H3 _ L2 p2 t2).mono ?_; rintro e w3 ⟨rfl, b3⟩; have c3 := c2.trans (b3.mono c2.size); have L3 := hL.keep c3; have p3 := p2.below b3; have q3 := q2.below b3; have t3 := t2.below b3)
      | (go_at_call 19; refine (unhide H2 _ L1 q1 t1).mono ?_; rintro e w2 ⟨rfl, b2⟩; have c2 := c1.trans (b2.mono c1.size); have L2 := hL.keep c2; have p2 := p1.below b2; have q2 := q1.below b2; have t2 := t1.below b2)
      | (go_at_call 19; refine (unhide H1 _ L0 p0 q0).mono ?_; rintro e w1 ⟨rfl, b1⟩; have c1 := c0.trans (b1.mono c0.size); have L1 := hL.keep c1; have p1 := p0.below b1; have q1 := q0.below b1; have t1 := t0.below b1))
    go_ret
    exact ⟨rfl, c6⟩

end Go.Proofs.YtifalmpcjkpodaaDoor
