/- The law OidUnder. (By gen_under.py.) -/
import Derived.Test.YtifalmpcjkpodaaDoorLawB17
namespace Go.Proofs.YtifalmpcjkpodaaDoor
set_option maxRecDepth 100000
open Go.RowKit

theorem between17 (l m n : List Int) (hu : underO l n = true) (h1 : cmpL n m ≤ 0) (h2 : cmpL m l ≤ 0) (ho : chkO m = 0) : underO m n = true := by
  obtain ⟨o1, o2, u, rfl⟩ := (under_iff _ _).1 hu
  have o3 : okO m = true := by
    cases h : okO m
    · rw [chk_no h] at ho; omega
    · rfl
  exact (under_iff _ _).2 ⟨o3, o2, cmp_between n u m h1 h2⟩
theorem front17 (l n : List Int) (hu : underO l n = true) : cmpL n l ≤ 0 := by
  obtain ⟨_, _, u, rfl⟩ := (under_iff _ _).1 hu
  exact cmp_front n u
theorem above_nil (l : List Int) (h : ¬ (okO l = true ∧ l.length ≠ 2)) : aboveO l = [] := by unfold aboveO; rw [if_neg h]
set_option maxHeartbeats 12800000 in
theorem under17_law (a b d : Option Addr) (ca cb cd : Nat) (l m n : List Int) (nl : Nat) (hnl : nl = l.length) (w : World) (hL : Ly w) (p0 : Row w (.slice a nl ca) l) (q0 : Row w (.slice b m.length cb) m) (t0 : Row w (.slice d n.length cd) n) (f1 : nl ≤ ca) (f2 : m.length ≤ cb) (f3 : n.length ≤ cd) (h1 : nl ≤ 9223372036854775807) (h2 : m.length ≤ 9223372036854775807) (h3 : n.length ≤ 9223372036854775807) : Calls Tryd.prog 8 #[.slice a nl ca, .slice b m.length cb, .slice d n.length cd] w fun e w' => e = .returned (.bool true) ∧ Below w.heap.size w w' := by
  have HA := hide awake17
  have c0 := Below.refl w.heap.size w
  have L0 := hL
  have HNL := hide hnl
  clear hnl
  by_cases el : 1000 < nl
  · have zl : (1000 : Int) < (nl : Int) := by omega
    go_enter Tryd.func8, Tryd.ntmps8
    go_wp2_with (go_at_call 9; refine (unhide HA _ hL).mono ?_; rintro e w5 ⟨rfl, b5⟩)
    go_ret
    exact ⟨rfl, b5⟩
  have zl : ¬ (1000 : Int) < (nl : Int) := by omega
  by_cases em : 1000 < m.length
  · have zm : (1000 : Int) < (m.length : Int) := by omega
    go_enter Tryd.func8, Tryd.ntmps8
    go_wp2_with (go_at_call 9; refine (unhide HA _ hL).mono ?_; rintro e w5 ⟨rfl, b5⟩)
    go_ret
    exact ⟨rfl, b5⟩
  have zm : ¬ (1000 : Int) < (m.length : Int) := by omega
  by_cases en : 1000 < n.length
  · have zn : (1000 : Int) < (n.length : Int) := by omega
    go_enter Tryd.func8, Tryd.ntmps8
    go_wp2_with (go_at_call 9; refine (unhide HA _ hL).mono ?_; rintro e w5 ⟨rfl, b5⟩)
    go_ret
    exact ⟨rfl, b5⟩
  have zn : ¬ (1000 : Int) < (n.length : Int) := by omega
  have hF1 : Fits (.slice a nl ca) := fun _ _ _ e => by cases e; exact f1
  have hF2 : Fits (.slice b m.length cb) := fun _ _ _ e => by cases e; exact f2
  have hF3 : Fits (.slice d n.length cd) := fun _ _ _ e => by cases e; exact f3
  have H1 := hide (fun W hW r1 r2 => ounder_any (.slice a nl ca) (.slice d n.length cd) l n W hW (by rw [← unhide HNL]; omega) (by omega) r1 r2 hF1 hF3)
  have H2 := hide (fun W hW r1 r2 => ocmp_any (.slice d n.length cd) (.slice a nl ca) n l W hW (by omega) (by rw [← unhide HNL]; omega) r1 r2)
  have H3 := hide (fun W hW r1 r2 => ocmp_any (.slice d n.length cd) (.slice b m.length cb) n m W hW (by omega) (by omega) r1 r2)
  have H4 := hide (fun W hW r1 r2 => ocmp_any (.slice b m.length cb) (.slice a nl ca) m l W hW (by omega) (by rw [← unhide HNL]; omega) r1 r2)
  have H5 := hide (fun W hW hR => ocheck_any (.slice b m.length cb) m W hW (by omega) hR)
  have H6 := hide (fun W hW r1 r2 => ounder_any (.slice b m.length cb) (.slice d n.length cd) m n W hW (by omega) (by omega) r1 r2 hF2 hF3)
  have H7 := hide (fun W hW hR => oabove_any (.slice a nl ca) l W hW (by rw [← unhide HNL]; omega) hR hF1)
  have hall := between17 l m n
  have hta := front17 l n
  have hab : ¬ (okO l = true ∧ l.length ≠ 2) ∨ ∃ j, nl = j + 1 ∧ 2 ≤ j ∧ (aboveO l).length = j ∧ underO l (aboveO l) = true := by
    by_cases h : okO l = true ∧ l.length ≠ 2
    · have := okO_len h.1
      have hne := h.2
      refine .inr ⟨l.length - 1, by rw [unhide HNL]; omega, by omega, above_len l h.1 h.2, above_under l h.1 h.2⟩
    · exact .inl h
  have HB := hide (above_nil l)
  have H8 := hide (fun v W hW r1 r2 => ounder_any (.slice a nl ca) v l (aboveO l) W hW (by rw [← unhide HNL]; omega) (by unfold aboveO; split <;> simp; rw [← unhide HNL]; omega) r1 r2 hF1)
  generalize underO l n = u at *
  generalize cmpL n l = v at *
  generalize cmpL n m = x at *
  generalize cmpL m l = y at *
  generalize chkO m = k at *
  generalize underO m n = r at *
  rcases hab with hab | ⟨j, hjn, hj2, hjl, hju⟩
  · rw [unhide HB hab] at H7
    clear H8 hab HB

    cases u
    · clear hall hta
      go_enter Tryd.func8, Tryd.ntmps8
      go_wp2_with (first
        | (go_at_call 9; refine (unhide HA _ L2).mono ?_; rintro e w3 ⟨rfl, b3⟩; have c3 := c2.trans (b3.mono c2.size); have L3 := hL.keep c3; have p3 := p2.below b3; have q3 := q2.below b3; have t3 := t2.below b3)
        | (go_at_call 15; refine (unhide H7 _ L1 p1).mono ?_; rintro e w2 ⟨v2, rfl, r2, f2, b2⟩; have c2 := c1.trans (b2.mono c1.size); have L2 := hL.keep c2; have p2 := p1.below b2; have q2 := q1.below b2; have t2 := t1.below b2; obtain ⟨xa, xc, rfl⟩ := row0 r2)
        | (go_at_call 21; refine (unhide H1 _ L0 p0 t0).mono ?_; rintro e w1 ⟨rfl, b1⟩; have c1 := c0.trans (b1.mono c0.size); have L1 := hL.keep c1; have p1 := p0.below b1; have q1 := q0.below b1; have t1 := t0.below b1))
      go_ret
      exact ⟨rfl, c3⟩
    · have hta := hta rfl
      by_cases hx : x ≤ 0
      · by_cases hy : y ≤ 0
        · by_cases ho : k = 0
          · have hr := hall rfl hx hy ho
            clear hall
            subst ho
            subst hr
            go_enter Tryd.func8, Tryd.ntmps8
            go_wp2_with (first
              | (go_at_call 9; refine (unhide HA _ L7).mono ?_; rintro e w8 ⟨rfl, b8⟩; have c8 := c7.trans (b8.mono c7.size); have L8 := hL.keep c8; have p8 := p7.below b8; have q8 := q7.below b8; have t8 := t7.below b8)
              | (go_at_call 15; refine (unhide H7 _ L6 p6).mono ?_; rintro e w7 ⟨v7, rfl, r7, f7, b7⟩; have c7 := c6.trans (b7.mono c6.size); have L7 := hL.keep c7; have p7 := p6.below b7; have q7 := q6.below b7; have t7 := t6.below b7; obtain ⟨xa, xc, rfl⟩ := row0 r7)
              | (go_at_call 21; refine (unhide H6 _ L5 q5 t5).mono ?_; rintro e w6 ⟨rfl, b6⟩; have c6 := c5.trans (b6.mono c5.size); have L6 := hL.keep c6; have p6 := p5.below b6; have q6 := q5.below b6; have t6 := t5.below b6)
              | (go_at_call 12; refine (unhide H5 _ L4 q4).mono ?_; rintro e w5 ⟨rfl, b5⟩; have c5 := c4.trans (b5.mono c4.size); have L5 := hL.keep c5; have p5 := p4.below b5; have q5 := q4.below b5; have t5 := t4.below b5)
              | (go_at_call 19; refine (unhide H4 _ L3 q3 p3).mono ?_; rintro e w4 ⟨rfl, b4⟩; have c4 := c3.trans (b4.mono c3.size); have L4 := hL.keep c4; have p4 := p3.below b4; have q4 := q3.below b4; have t4 := t3.below b4)
              | (go_at_call 19; refine (unhide H3 _ L2 t2 q2).mono ?_; rintro e w3 ⟨rfl, b3⟩; have c3 := c2.trans (b3.mono c2.size); have L3 := hL.keep c3; have p3 := p2.below b3; have q3 := q2.below b3; have t3 := t2.below b3)
              | (go_at_call 19; refine (unhide H2 _ L1 t1 p1).mono ?_; rintro e w2 ⟨rfl, b2⟩; have c2 := c1.trans (b2.mono c1.size); have L2 := hL.keep c2; have p2 := p1.below b2; have q2 := q1.below b2; have t2 := t1.below b2)
              | (go_at_call 21; refine (unhide H1 _ L0 p0 t0).mono ?_; rintro e w1 ⟨rfl, b1⟩; have c1 := c0.trans (b1.mono c0.size); have L1 := hL.keep c1; have p1 := p0.below b1; have q1 := q0.below b1; have t1 := t0.below b1))
            go_ret
            exact ⟨rfl, c8⟩
          · clear hall
            have ho' : (k == 0) = false := by simpa using ho
            go_enter Tryd.func8, Tryd.ntmps8
            go_wp2_with (first
              | (go_at_call 9; refine (unhide HA _ L6).mono ?_; rintro e w7 ⟨rfl, b7⟩; have c7 := c6.trans (b7.mono c6.size); have L7 := hL.keep c7; have p7 := p6.below b7; have q7 := q6.below b7; have t7 := t6.below b7)
              | (go_at_call 15; refine (unhide H7 _ L5 p5).mono ?_; rintro e w6 ⟨v6, rfl, r6, f6, b6⟩; have c6 := c5.trans (b6.mono c5.size); have L6 := hL.keep c6; have p6 := p5.below b6; have q6 := q5.below b6; have t6 := t5.below b6; obtain ⟨xa, xc, rfl⟩ := row0 r6)
              | (go_at_call 12; refine (unhide H5 _ L4 q4).mono ?_; rintro e w5 ⟨rfl, b5⟩; have c5 := c4.trans (b5.mono c4.size); have L5 := hL.keep c5; have p5 := p4.below b5; have q5 := q4.below b5; have t5 := t4.below b5)
              | (go_at_call 19; refine (unhide H4 _ L3 q3 p3).mono ?_; rintro e w4 ⟨rfl, b4⟩; have c4 := c3.trans (b4.mono c3.size); have L4 := hL.keep c4; have p4 := p3.below b4; have q4 := q3.below b4; have t4 := t3.below b4)
              | (go_at_call 19; refine (unhide H3 _ L2 t2 q2).mono ?_; rintro e w3 ⟨rfl, b3⟩; have c3 := c2.trans (b3.mono c2.size); have L3 := hL.keep c3; have p3 := p2.below b3; have q3 := q2.below b3; have t3 := t2.below b3)
              | (go_at_call 19; refine (unhide H2 _ L1 t1 p1).mono ?_; rintro e w2 ⟨rfl, b2⟩; have c2 := c1.trans (b2.mono c1.size); have L2 := hL.keep c2; have p2 := p1.below b2; have q2 := q1.below b2; have t2 := t1.below b2)
              | (go_at_call 21; refine (unhide H1 _ L0 p0 t0).mono ?_; rintro e w1 ⟨rfl, b1⟩; have c1 := c0.trans (b1.mono c0.size); have L1 := hL.keep c1; have p1 := p0.below b1; have q1 := q0.below b1; have t1 := t0.below b1))
            go_ret
            exact ⟨rfl, c7⟩
        · clear hall
          go_enter Tryd.func8, Tryd.ntmps8
          go_wp2_with (first
            | (go_at_call 9; refine (unhide HA _ L5).mono ?_; rintro e w6 ⟨rfl, b6⟩; have c6 := c5.trans (b6.mono c5.size); have L6 := hL.keep c6; have p6 := p5.below b6; have q6 := q5.below b6; have t6 := t5.below b6)
            | (go_at_call 15; refine (unhide H7 _ L4 p4).mono ?_; rintro e w5 ⟨v5, rfl, r5, f5, b5⟩; have c5 := c4.trans (b5.mono c4.size); have L5 := hL.keep c5; have p5 := p4.below b5; have q5 := q4.below b5; have t5 := t4.below b5; obtain ⟨xa, xc, rfl⟩ := row0 r5)
            | (go_at_call 19; refine (unhide H4 _ L3 q3 p3).mono ?_; rintro e w4 ⟨rfl, b4⟩; have c4 := c3.trans (b4.mono c3.size); have L4 := hL.keep c4; have p4 := p3.below b4; have q4 := q3.below b4; have t4 := t3.below b4)
            | (go_at_call 19; refine (unhide H3 _ L2 t2 q2).mono ?_; rintro e w3 ⟨rfl, b3⟩; have c3 := c2.trans (b3.mono c2.size); have L3 := hL.keep c3; have p3 := p2.below b3; have q3 := q2.below b3; have t3 := t2.below b3)
            | (go_at_call 19; refine (unhide H2 _ L1 t1 p1).mono ?_; rintro e w2 ⟨rfl, b2⟩; have c2 := c1.trans (b2.mono c1.size); have L2 := hL.keep c2; have p2 := p1.below b2; have q2 := q1.below b2; have t2 := t1.below b2)
            | (go_at_call 21; refine (unhide H1 _ L0 p0 t0).mono ?_; rintro e w1 ⟨rfl, b1⟩; have c1 := c0.trans (b1.mono c0.size); have L1 := hL.keep c1; have p1 := p0.below b1; have q1 := q0.below b1; have t1 := t0.below b1))
          go_ret
          exact ⟨rfl, c6⟩
      · clear hall
        go_enter Tryd.func8, Tryd.ntmps8
        go_wp2_with (first
          | (go_at_call 9; refine (unhide HA _ L4).mono ?_; rintro e w5 ⟨rfl, b5⟩; have c5 := c4.trans (b5.mono c4.size); have L5 := hL.keep c5; have p5 := p4.below b5; have q5 := q4.below b5; have t5 := t4.below b5)
          | (go_at_call 15; refine (unhide H7 _ L3 p3).mono ?_; rintro e w4 ⟨v4, rfl, r4, f4, b4⟩; have c4 := c3.trans (b4.mono c3.size); have L4 := hL.keep c4; have p4 := p3.below b4; have q4 := q3.below b4; have t4 := t3.below b4; obtain ⟨xa, xc, rfl⟩ := row0 r4)
          | (go_at_call 19; refine (unhide H3 _ L2 t2 q2).mono ?_; rintro e w3 ⟨rfl, b3⟩; have c3 := c2.trans (b3.mono c2.size); have L3 := hL.keep c3; have p3 := p2.below b3; have q3 := q2.below b3; have t3 := t2.below b3)
          | (go_at_call 19; refine (unhide H2 _ L1 t1 p1).mono ?_; rintro e w2 ⟨rfl, b2⟩; have c2 := c1.trans (b2.mono c1.size); have L2 := hL.keep c2; have p2 := p1.below b2; have q2 := q1.below b2; have t2 := t1.below b2)
          | (go_at_call 21; refine (unhide H1 _ L0 p0 t0).mono ?_; rintro e w1 ⟨rfl, b1⟩; have c1 := c0.trans (b1.mono c0.size); have L1 := hL.keep c1; have p1 := p0.below b1; have q1 := q0.below b1; have t1 := t0.below b1))
        go_ret
        exact ⟨rfl, c5⟩
  · rw [hju] at H8
    have HJ := hide hjl
    have J0 : ¬ (j : Int) = 0 := by omega
    have J1 : IntKind.i64.wrap ((nl : Int) - 1) = j := (wrap_in (by omega) (by omega)).trans (by omega)
    have RJ : Hid (∀ (W : World) (v : Value), Row W v (aboveO l) → ∃ xa xc, v = .slice xa j xc) := fun W v h => by
      have := h.shape
      rwa [hjl] at this
    clear HB hju hjl hjn

    cases u
    · clear hall hta
      go_enter Tryd.func8, Tryd.ntmps8
      go_wp2_with (first
        | (go_at_call 9; refine (unhide HA _ L3).mono ?_; rintro e w4 ⟨rfl, b4⟩; have c4 := c3.trans (b4.mono c3.size); have L4 := hL.keep c4; have p4 := p3.below b4; have q4 := q3.below b4; have t4 := t3.below b4)
        | (go_at_call 21; refine (unhide H8 _ _ L2 p2 r2 f2).mono ?_; rintro e w3 ⟨rfl, b3⟩; have c3 := c2.trans (b3.mono c2.size); have L3 := hL.keep c3; have p3 := p2.below b3; have q3 := q2.below b3; have t3 := t2.below b3)
        | (go_at_call 15; refine (unhide H7 _ L1 p1).mono ?_; rintro e w2 ⟨v2, rfl, r2, f2, b2⟩; have c2 := c1.trans (b2.mono c1.size); have L2 := hL.keep c2; have p2 := p1.below b2; have q2 := q1.below b2; have t2 := t1.below b2; obtain ⟨xa, xc, rfl⟩ := unhide RJ _ _ r2)
        | (go_at_call 21; refine (unhide H1 _ L0 p0 t0).mono ?_; rintro e w1 ⟨rfl, b1⟩; have c1 := c0.trans (b1.mono c0.size); have L1 := hL.keep c1; have p1 := p0.below b1; have q1 := q0.below b1; have t1 := t0.below b1))
      go_ret
      exact ⟨rfl, c4⟩
    · have hta := hta rfl
      by_cases hx : x ≤ 0
      · by_cases hy : y ≤ 0
        · by_cases ho : k = 0
          · have hr := hall rfl hx hy ho
            clear hall
            subst ho
            subst hr
            go_enter Tryd.func8, Tryd.ntmps8
            go_wp2_with (first
              | (go_at_call 9; refine (unhide HA _ L8).mono ?_; rintro e w9 ⟨rfl, b9⟩; have c9 := c8.trans (b9.mono c8.size); have L9 := hL.keep c9; have p9 := p8.below b9; have q9 := q8.below b9; have t9 := t8.below b9)
              | (go_at_call 21; refine (unhide H8 _ _ L7 p7 r7 f7).mono ?_; rintro e w8 ⟨rfl, b8⟩; have c8 := c7.trans (b8.mono c7.size); have L8 := hL.keep c8; have p8 := p7.below b8; have q8 := q7.below b8; have t8 := t7.below b8)
              | (go_at_call 15; refine (unhide H7 _ L6 p6).mono ?_; rintro e w7 ⟨v7, rfl, r7, f7, b7⟩; have c7 := c6.trans (b7.mono c6.size); have L7 := hL.keep c7; have p7 := p6.below b7; have q7 := q6.below b7; have t7 := t6.below b7; obtain ⟨xa, xc, rfl⟩ := unhide RJ _ _ r7)
              | (go_at_call 21; refine (unhide H6 _ L5 q5 t5).mono ?_; rintro e w6 ⟨rfl, b6⟩; have c6 := c5.trans (b6.mono c5.size); have L6 := hL.keep c6; have p6 := p5.below b6; have q6 := q5.below b6; have t6 := t5.below b6)
              | (go_at_call 12; refine (unhide H5 _ L4 q4).mono ?_; rintro e w5 ⟨rfl, b5⟩; have c5 := c4.trans (b5.mono c4.size); have L5 := hL.keep c5; have p5 := p4.below b5; have q5 := q4.below b5; have t5 := t4.below b5)
              | (go_at_call 19; refine (unhide H4 _ L3 q3 p3).mono ?_; rintro e w4 ⟨rfl, b4⟩; have c4 := c3.trans (b4.mono c3.size); have L4 := hL.keep c4; have p4 := p3.below b4; have q4 := q3.below b4; have t4 := t3.below b4)
              | (go_at_call 19; refine (unhide H3 _ L2 t2 q2).mono ?_; rintro e w3 ⟨rfl, b3⟩; have c3 := c2.trans (b3.mono c2.size); have L3 := hL.keep c3; have p3 := p2.below b3; have q3 := q2.below b3; have t3 := t2.below b3)
              | (go_at_call 19; refine (unhide H2 _ L1 t1 p1).mono ?_; rintro e w2 ⟨rfl, b2⟩; have c2 := c1.trans (b2.mono c1.size); have L2 := hL.keep c2; have p2 := p1.below b2; have q2 := q1.below b2; have t2 := t1.below b2)
              | (go_at_call 21; refine (unhide H1 _ L0 p0 t0).mono ?_; rintro e w1 ⟨rfl, b1⟩; have c1 := c0.trans (b1.mono c0.size); have L1 := hL.keep c1; have p1 := p0.below b1; have q1 := q0.below b1; have t1 := t0.below b1))
            go_ret
            exact ⟨rfl, c9⟩
          · clear hall
            have ho' : (k == 0) = false := by simpa using ho
            go_enter Tryd.func8, Tryd.ntmps8
            go_wp2_with (first
              | (go_at_call 9; refine (unhide HA _ L7).mono ?_; rintro e w8 ⟨rfl, b8⟩; have c8 := c7.trans (b8.mono c7.size); have L8 := hL.keep c8; have p8 := p7.below b8; have q8 := q7.below b8; have t8 := t7.below b8)
              | (go_at_call 21; refine (unhide H8 _ _ L6 p6 r6 f6).mono ?_; rintro e w7 ⟨rfl, b7⟩; have c7 := c6.trans (b7.mono c6.size); have L7 := hL.keep c7; have p7 := p6.below b7; have q7 := q6.below b7; have t7 := t6.below b7)
              | (go_at_call 15; refine (unhide H7 _ L5 p5).mono ?_; rintro e w6 ⟨v6, rfl, r6, f6, b6⟩; have c6 := c5.trans (b6.mono c5.size); have L6 := hL.keep c6; have p6 := p5.below b6; have q6 := q5.below b6; have t6 := t5.below b6; obtain ⟨xa, xc, rfl⟩ := unhide RJ _ _ r6)
              | (go_at_call 12; refine (unhide H5 _ L4 q4).mono ?_; rintro e w5 ⟨rfl, b5⟩; have c5 := c4.trans (b5.mono c4.size); have L5 := hL.keep c5; have p5 := p4.below b5; have q5 := q4.below b5; have t5 := t4.below b5)
              | (go_at_call 19; refine (unhide H4 _ L3 q3 p3).mono ?_; rintro e w4 ⟨rfl, b4⟩; have c4 := c3.trans (b4.mono c3.size); have L4 := hL.keep c4; have p4 := p3.below b4; have q4 := q3.below b4; have t4 := t3.below b4)
              | (go_at_call 19; refine (unhide H3 _ L2 t2 q2).mono ?_; rintro e w3 ⟨rfl, b3⟩; have c3 := c2.trans (b3.mono c2.size); have L3 := hL.keep c3; have p3 := p2.below b3; have q3 := q2.below b3; have t3 := t2.below b3)
              | (go_at_call 19; refine (unhide H2 _ L1 t1 p1).mono ?_; rintro e w2 ⟨rfl, b2⟩; have c2 := c1.trans (b2.mono c1.size); have L2 := hL.keep c2; have p2 := p1.below b2; have q2 := q1.below b2; have t2 := t1.below b2)
              | (go_at_call 21; refine (unhide H1 _ L0 p0 t0).mono ?_; rintro e w1 ⟨rfl, b1⟩; have c1 := c0.trans (b1.mono c0.size); have L1 := hL.keep c1; have p1 := p0.below b1; have q1 := q0.below b1; have t1 := t0.below b1))
            go_ret
            exact ⟨rfl, c8⟩
        · clear hall
          go_enter Tryd.func8, Tryd.ntmps8
          go_wp2_with (first
            | (go_at_call 9; refine (unhide HA _ L6).mono ?_; rintro e w7 ⟨rfl, b7⟩; have c7 := c6.trans (b7.mono c6.size); have L7 := hL.keep c7; have p7 := p6.below b7; have q7 := q6.below b7; have t7 := t6.below b7)
            | (go_at_call 21; refine (unhide H8 _ _ L5 p5 r5 f5).mono ?_; rintro e w6 ⟨rfl, b6⟩; have c6 := c5.trans (b6.mono c5.size); have L6 := hL.keep c6; have p6 := p5.below b6; have q6 := q5.below b6; have t6 := t5.below b6)
            | (go_at_call 15; refine (unhide H7 _ L4 p4).mono ?_; rintro e w5 ⟨v5, rfl, r5, f5, b5⟩; have c5 := c4.trans (b5.mono c4.size); have L5 := hL.keep c5; have p5 := p4.below b5; have q5 := q4.below b5; have t5 := t4.below b5; obtain ⟨xa, xc, rfl⟩ := unhide RJ _ _ r5)
            | (go_at_call 19; refine (unhide H4 _ L3 q3 p3).mono ?_; rintro e w4 ⟨rfl, b4⟩; have c4 := c3.trans (b4.mono c3.size); have L4 := hL.keep c4; have p4 := p3.below b4; have q4 := q3.below b4; have t4 := t3.below b4)
            | (go_at_call 19; refine (unhide H3 _ L2 t2 q2).mono ?_; rintro e w3 ⟨rfl, b3⟩; have c3 := c2.trans (b3.mono c2.size); have L3 := hL.keep c3; have p3 := p2.below b3; have q3 := q2.below b3; have t3 := t2.below b3)
            | (go_at_call 19; refine (unhide H2 _ L1 t1 p1).mono ?_; rintro e w2 ⟨rfl, b2⟩; have c2 := c1.trans (b2.mono c1.size); have L2 := hL.keep c2; have p2 := p1.below b2; have q2 := q1.below b2; have t2 := t1.below b2)
            | (go_at_call 21; refine (unhide H1 _ L0 p0 t0).mono ?_; rintro e w1 ⟨rfl, b1⟩; have c1 := c0.trans (b1.mono c0.size); have L1 := hL.keep c1; have p1 := p0.below b1; have q1 := q0.below b1; have t1 := t0.below b1))
          go_ret
          exact ⟨rfl, c7⟩
      · clear hall
        go_enter Tryd.func8, Tryd.ntmps8
        go_wp2_with (first
          | (go_at_call 9; refine (unhide HA _ L5).mono ?_; rintro e w6 ⟨rfl, b6⟩; have c6 := c5.trans (b6.mono c5.size); have L6 := hL.keep c6; have p6 := p5.below b6; have q6 := q5.below b6; have t6 := t5.below b6)
          | (go_at_call 21; refine (unhide H8 _ _ L4 p4 r4 f4).mono ?_; rintro e w5 ⟨rfl, b5⟩; have c5 := c4.trans (b5.mono c4.size); have L5 := hL.keep c5; have p5 := p4.below b5; have q5 := q4.below b5; have t5 := t4.below b5)
          | (go_at_call 15; refine (unhide H7 _ L3 p3).mono ?_; rintro e w4 ⟨v4, rfl, r4, f4, b4⟩; have c4 := c3.trans (b4.mono c3.size); have L4 := hL.keep c4; have p4 := p3.below b4; have q4 := q3.below b4; have t4 := t3.below b4; obtain ⟨xa, xc, rfl⟩ := unhide RJ _ _ r4)
          | (go_at_call 19; refine (unhide H3 _ L2 t2 q2).mono ?_; rintro e w3 ⟨rfl, b3⟩; have c3 := c2.trans (b3.mono c2.size); have L3 := hL.keep c3; have p3 := p2.below b3; have q3 := q2.below b3; have t3 := t2.below b3)
          | (go_at_call 19; refine (unhide H2 _ L1 t1 p1).mono ?_; rintro e w2 ⟨rfl, b2⟩; have c2 := c1.trans (b2.mono c1.size); have L2 := hL.keep c2; have p2 := p1.below b2; have q2 := q1.below b2; have t2 := t1.below b2)
          | (go_at_call 21; refine (unhide H1 _ L0 p0 t0).mono ?_; rintro e w1 ⟨rfl, b1⟩; have c1 := c0.trans (b1.mono c0.size); have L1 := hL.keep c1; have p1 := p0.below b1; have q1 := q0.below b1; have t1 := t0.below b1))
        go_ret
        exact ⟨rfl, c6⟩
end Go.Proofs.YtifalmpcjkpodaaDoor
