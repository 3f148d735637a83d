/- The law GaussTurns. (By gen_laws.py.) -/
import Derived.Test.YtpkofpgdnbkknaaDoorLaw14b
namespace Go.Proofs.YtpkofpgdnbkknaaDoor
open Go.RowKit

theorem turn_back (n : Int) (p : Int × Int) : trn (4 - n.tmod 4) (some (trn n (some p))) = p := by
  show rot ((4 - n.tmod 4) % 4).toNat (rot (n % 4).toNat p) = p
  rw [← rot_add]
  have h := tmod_four n
  have e : (n % 4).toNat + ((4 - n.tmod 4) % 4).toNat = 0 ∨ (n % 4).toNat + ((4 - n.tmod 4) % 4).toNat = 4 := by omega
  rcases e with e | e
  · rw [e]; rfl
  · rw [e]; exact rot_four p
theorem tim_swap (p q : Option (Int × Int)) : tim q p = tim p q ∧ timE q p = timE p q := by
  cases p with
  | none => cases q <;> exact ⟨rfl, rfl⟩
  | some p =>
    cases q with
    | none => exact ⟨rfl, rfl⟩
    | some q =>
      unfold tim timE
      simp only
      rw [prod_comm q p]
      exact ⟨rfl, rfl⟩
theorem tim_cases (p q : Option (Int × Int)) : (timE p q ≠ 0 ∧ tim p q = (0, 0)) ∨ (timE p q = 0 ∧ nrm (some (tim p q)) = nrm p * nrm q) := by
  cases p with
  | none => exact .inl ⟨by cases q <;> simp [timE], by cases q <;> rfl⟩
  | some p =>
    cases q with
    | none => exact .inl ⟨by simp [timE], rfl⟩
    | some q =>
      simp only [tim, timE]
      split
      · exact .inr ⟨rfl, prod_nrm p q⟩
      · exact .inl ⟨by simp, rfl⟩
set_option maxHeartbeats 12800000 in
theorem turns14_law (x y u v : Nat) (n : Int) (w : World) (hL : Ly w) : Calls Tryd.prog 7 #[tt x y, tt u v, .int .i64 n] w fun e w' => e = .returned (.bool true) ∧ Below w.heap.size w w' := by
  have HA := hide awake14
  have Z1 := hide (fun W => lz_b x y W)
  have Z2 := hide (fun W => lz_b u v W)
  obtain ⟨x1, y1, z1, h1⟩ := gturn_any x y n
  obtain ⟨x5, y5, z5, h5⟩ := gtimes_any x y u v
  obtain ⟨x6, y6, z6, h6⟩ := gtimes_any u v x y
  rw [(tim_swap (pz x y) (pz u v)).1] at z6
  rw [(tim_swap (pz x y) (pz u v)).2] at h6
  have h7 := fun W hW => gnorm_any x5 y5 W hW
  have H8 := hide (fun W hW => gnorm_any x y W hW)
  have H9 := hide (fun W hW => gnorm_any u v W hW)
  have H5 := hide h5
  have H6 := hide h6
  have o5 := ord_eq z6.1 z5.1
  have o6 := ord_eq z6.2 z5.2
  have hz5 := isZ_pz z5 (tim_bnd x y u v)
  rw [hz5] at h7
  have hn := nrm_bound (x := x5) (y := y5)
  rw [hz5] at hn
  cases hp : pz x y with
  | none =>
    have he : errZ (pz x y) = 140 := by rw [hp]; rfl
    rw [he] at h1
    have H1 := hide h1
    clear h1 z1 he hp
    rcases tim_cases (pz x y) (pz u v) with ⟨t1, t2⟩ | ⟨t1, t2⟩
    · rw [t2] at z5
      have o7 := ord_eq z5.1 sc0
      have o8 := ord_eq z5.2 sc0
      have te : (timE (pz x y) (pz u v) == 0) = false := by simpa using t1
      clear t1 t2 z5 z6 h5 h6 h7 hn hz5 H6 H9 o5 o6
      generalize timE (pz x y) (pz u v) = er at *
      generalize nrm (pz x y) = m1 at *
      have mx : Tryd.prog.follows .mixedOrders = true := by kernel_rfl
      have c0 : Below w.heap.size w ((w.alloc (.cells #[.float .f64 x, .float .f64 y] 24)).alloc (.cells #[.float .f64 u, .float .f64 v] 24)) := (Below.one w _).trans ((Below.one _ _).mono (by simp <;> omega))
      have L0 := hL.keep c0
      have p0 : Bx ((w.alloc (.cells #[.float .f64 x, .float .f64 y] 24)).alloc (.cells #[.float .f64 u, .float .f64 v] 24)) (w.heap.size) x y := (bxn w x y (w.heap.size) 24 (by simp)).below (Below.one _ _)
      have p0a := p0.1
      have p0b := p0.2
      have q0 : Bx ((w.alloc (.cells #[.float .f64 x, .float .f64 y] 24)).alloc (.cells #[.float .f64 u, .float .f64 v] 24)) (w.heap.size + 1) u v := bxn (w.alloc (.cells #[.float .f64 x, .float .f64 y] 24)) u v (w.heap.size + 1) 24 (by simp)
      have q0a := q0.1
      have q0b := q0.2
      go_enter Tryd.func7, Tryd.ntmps7
      go_wp2_with (first
        | (go_at_call 13; refine (unhide H1 _ L1).mono ?_; rintro e w2 ⟨rfl, b2⟩; have c2 := c1.trans (b2.mono c1.size); have L2 := hL.keep c2; have p2 := p1.below b2; have p2a := p2.1; have p2b := p2.2; have q2 := q1.below b2; have q2a := q2.1; have q2b := q2.2)
        | (go_at_call 10; refine (unhide Z1 _).mono ?_; rintro e w1 ⟨rfl, b1⟩; have c1 := c0.trans (b1.mono c0.size); have L1 := hL.keep c1; have p1 := p0.below b1; have p1a := p1.1; have p1b := p1.2; have q1 := q0.below b1; have q1a := q1.1; have q1b := q1.2))
      have p2q := p2.bb.1
      have p2r := p2.bb.2
      have q2q := q2.bb.1
      have q2r := q2.bb.2
      refine wp_region_below mx (by kernel_rfl) ?_
      intro nebb
      repeat (go_big_quiet_step (fail))
      go_big_quiet_step ((go_at_call 10; exact callsBB (unhide Z1 _)))
      repeat (go_big_quiet_step (fail))
      go_big_quiet_step ((go_at_call 10; exact callsBB (unhide Z2 _)))
      repeat (go_big_quiet_step (fail))
      go_big_quiet_step ((go_at_call 23; exact callsBB (unhide H5 _ (lyBB L2))))
      repeat (go_big_quiet_step (fail))
      refine wpQuiet_nil ?_
      intro _ hw'
      obtain ⟨pq, hw''⟩ := hw'
      subst hw''
      have b3 := pq.b
      generalize pq.W = w3 at *
      have c3 := c2.trans (b3.mono c2.size)
      have L3 := hL.keep c3
      have p3 := p2.below b3
      have p3a := p3.1
      have p3b := p3.2
      have q3 := q2.below b3
      have q3a := q3.1
      have q3b := q3.2
      clear p2q p2r q2q q2r
      go_wp2_with (first
        | (go_at_call 20; refine (unhide HA _ L3).mono ?_; rintro e w4 ⟨rfl, b4⟩; have c4 := c3.trans (b4.mono c3.size); have L4 := hL.keep c4; have p4 := p3.below b4; have p4a := p4.1; have p4b := p4.2; have q4 := q3.below b4; have q4a := q4.1; have q4b := q4.2))
      go_ret
      exact ⟨rfl, c4⟩
    · rw [t2] at h7 hn
      have H7 := hide h7
      have wm : IntKind.i64.wrap (nrm (pz x y) * nrm (pz u v)) = nrm (pz x y) * nrm (pz u v) := wrap_in (by omega) (by omega)
      rw [t1] at H5 H6
      clear t1 t2 z5 z6 h5 h6 h7 hn hz5
      generalize nrm (pz x y) = m1 at *
      generalize nrm (pz u v) = m2 at *
      have mx : Tryd.prog.follows .mixedOrders = true := by kernel_rfl
      have c0 : Below w.heap.size w ((w.alloc (.cells #[.float .f64 x, .float .f64 y] 24)).alloc (.cells #[.float .f64 u, .float .f64 v] 24)) := (Below.one w _).trans ((Below.one _ _).mono (by simp <;> omega))
      have L0 := hL.keep c0
      have p0 : Bx ((w.alloc (.cells #[.float .f64 x, .float .f64 y] 24)).alloc (.cells #[.float .f64 u, .float .f64 v] 24)) (w.heap.size) x y := (bxn w x y (w.heap.size) 24 (by simp)).below (Below.one _ _)
      have p0a := p0.1
      have p0b := p0.2
      have q0 : Bx ((w.alloc (.cells #[.float .f64 x, .float .f64 y] 24)).alloc (.cells #[.float .f64 u, .float .f64 v] 24)) (w.heap.size + 1) u v := bxn (w.alloc (.cells #[.float .f64 x, .float .f64 y] 24)) u v (w.heap.size + 1) 24 (by simp)
      have q0a := q0.1
      have q0b := q0.2
      go_enter Tryd.func7, Tryd.ntmps7
      go_wp2_with (first
        | (go_at_call 13; refine (unhide H1 _ L1).mono ?_; rintro e w2 ⟨rfl, b2⟩; have c2 := c1.trans (b2.mono c1.size); have L2 := hL.keep c2; have p2 := p1.below b2; have p2a := p2.1; have p2b := p2.2; have q2 := q1.below b2; have q2a := q2.1; have q2b := q2.2)
        | (go_at_call 10; refine (unhide Z1 _).mono ?_; rintro e w1 ⟨rfl, b1⟩; have c1 := c0.trans (b1.mono c0.size); have L1 := hL.keep c1; have p1 := p0.below b1; have p1a := p1.1; have p1b := p1.2; have q1 := q0.below b1; have q1a := q1.1; have q1b := q1.2))
      have p2q := p2.bb.1
      have p2r := p2.bb.2
      have q2q := q2.bb.1
      have q2r := q2.bb.2
      refine wp_region_below mx (by kernel_rfl) ?_
      intro nebb
      repeat (go_big_quiet_step (fail))
      go_big_quiet_step ((go_at_call 10; exact callsBB (unhide Z1 _)))
      repeat (go_big_quiet_step (fail))
      go_big_quiet_step ((go_at_call 10; exact callsBB (unhide Z2 _)))
      repeat (go_big_quiet_step (fail))
      go_big_quiet_step ((go_at_call 23; exact callsBB (unhide H5 _ (lyBB L2))))
      repeat (go_big_quiet_step (fail))
      refine wpQuiet_nil ?_
      intro _ hw'
      obtain ⟨pq, hw''⟩ := hw'
      subst hw''
      have b3 := pq.b
      generalize pq.W = w3 at *
      have c3 := c2.trans (b3.mono c2.size)
      have L3 := hL.keep c3
      have p3 := p2.below b3
      have p3a := p3.1
      have p3b := p3.2
      have q3 := q2.below b3
      have q3a := q3.1
      have q3b := q3.2
      clear p2q p2r q2q q2r
      go_wp2
      have p3q := p3.bb.1
      have p3r := p3.bb.2
      have q3q := q3.bb.1
      have q3r := q3.bb.2
      refine wp_region_below mx (by kernel_rfl) ?_
      intro nebb
      repeat (go_big_quiet_step (fail))
      go_big_quiet_step ((go_at_call 10; exact callsBB (unhide Z2 _)))
      repeat (go_big_quiet_step (fail))
      go_big_quiet_step ((go_at_call 10; exact callsBB (unhide Z1 _)))
      repeat (go_big_quiet_step (fail))
      go_big_quiet_step ((go_at_call 23; exact callsBB (unhide H6 _ (lyBB L3))))
      repeat (go_big_quiet_step (fail))
      refine wpQuiet_nil ?_
      intro _ hw'
      obtain ⟨pq, hw''⟩ := hw'
      subst hw''
      have b4 := pq.b
      generalize pq.W = w4 at *
      have c4 := c3.trans (b4.mono c3.size)
      have L4 := hL.keep c4
      have p4 := p3.below b4
      have p4a := p4.1
      have p4b := p4.2
      have q4 := q3.below b4
      have q4a := q4.1
      have q4b := q4.2
      clear p3q p3r q3q q3r
      go_wp2
      have p4q := p4.bb.1
      have p4r := p4.bb.2
      have q4q := q4.bb.1
      have q4r := q4.bb.2
      refine wp_region_below mx (by kernel_rfl) ?_
      intro nebb
      repeat (go_big_quiet_step (fail))
      go_big_quiet_step ((go_at_call 18; exact callsBB (unhide H7 _ (lyBB L4))))
      repeat (go_big_quiet_step (fail))
      go_big_quiet_step ((go_at_call 10; exact callsBB (unhide Z1 _)))
      repeat (go_big_quiet_step (fail))
      go_big_quiet_step ((go_at_call 18; exact callsBB (unhide H8 _ (lyBB L4))))
      repeat (go_big_quiet_step (fail))
      go_big_quiet_step ((go_at_call 10; exact callsBB (unhide Z2 _)))
      repeat (go_big_quiet_step (fail))
      go_big_quiet_step ((go_at_call 18; exact callsBB (unhide H9 _ (lyBB L4))))
      repeat (go_big_quiet_step (fail))
      go_big_quiet_step ((go_at_call 20; exact callsBB (unhide HA _ (lyBB L4))))
      repeat (go_big_quiet_step (fail))
      refine wpQuiet_nil ?_
      intro _ hw'
      obtain ⟨pq, hw''⟩ := hw'
      subst hw''
      have b5 := pq.b
      generalize pq.W = w5 at *
      have c5 := c4.trans (b5.mono c4.size)
      have L5 := hL.keep c5
      have p5 := p4.below b5
      have p5a := p5.1
      have p5b := p5.2
      have q5 := q4.below b5
      have q5a := q5.1
      have q5b := q5.2
      clear p4q p4r q4q q4r
      go_wp2
      go_ret
      exact ⟨rfl, c5⟩
  | some p =>
    have he : errZ (pz x y) = 0 := by rw [hp]; rfl
    rw [he] at h1
    have H1 := hide h1
    have hz1 := isZ_pz z1 (trn_in n x y)
    obtain ⟨x2, y2, z2, h2⟩ := gturn_any x1 y1 (4 - n.tmod 4)
    have he2 : errZ (pz x1 y1) = 0 := by rw [hz1]; rfl
    rw [he2] at h2
    have H2 := hide h2
    rw [hz1, hp, turn_back] at z2
    obtain ⟨v1, v2⟩ := pz_val hp
    have o1 := ord_eq z2.1 (wh_val v1).1
    have o2 := ord_eq z2.2 (wh_val v2).1
    have h3 := fun W hW => gnorm_any x1 y1 W hW
    have hnn : nrm (pz x1 y1) = nrm (pz x y) := by rw [hz1, hp]; exact rot_nrm _ p
    rw [hnn] at h3
    have H3 := hide h3
    have wk : IntKind.i64.wrap (4 - n.tmod 4) = 4 - n.tmod 4 := wrap_in (by have := tmod_four n; omega) (by have := tmod_four n; omega)
    clear h1 z1 he hp hz1 he2 h2 z2 v1 v2 h3 hnn
    rcases tim_cases (pz x y) (pz u v) with ⟨t1, t2⟩ | ⟨t1, t2⟩
    · rw [t2] at z5
      have o7 := ord_eq z5.1 sc0
      have o8 := ord_eq z5.2 sc0
      have te : (timE (pz x y) (pz u v) == 0) = false := by simpa using t1
      clear t1 t2 z5 z6 h5 h6 h7 hn hz5 H6 H9 o5 o6
      generalize timE (pz x y) (pz u v) = er at *
      generalize nrm (pz x y) = m1 at *
      have mx : Tryd.prog.follows .mixedOrders = true := by kernel_rfl
      have c0 : Below w.heap.size w ((w.alloc (.cells #[.float .f64 x, .float .f64 y] 24)).alloc (.cells #[.float .f64 u, .float .f64 v] 24)) := (Below.one w _).trans ((Below.one _ _).mono (by simp <;> omega))
      have L0 := hL.keep c0
      have p0 : Bx ((w.alloc (.cells #[.float .f64 x, .float .f64 y] 24)).alloc (.cells #[.float .f64 u, .float .f64 v] 24)) (w.heap.size) x y := (bxn w x y (w.heap.size) 24 (by simp)).below (Below.one _ _)
      have p0a := p0.1
      have p0b := p0.2
      have q0 : Bx ((w.alloc (.cells #[.float .f64 x, .float .f64 y] 24)).alloc (.cells #[.float .f64 u, .float .f64 v] 24)) (w.heap.size + 1) u v := bxn (w.alloc (.cells #[.float .f64 x, .float .f64 y] 24)) u v (w.heap.size + 1) 24 (by simp)
      have q0a := q0.1
      have q0b := q0.2
      go_enter Tryd.func7, Tryd.ntmps7
      go_wp2_with (first
        | (go_at_call 13; refine (unhide H2 _ L2).mono ?_; rintro e w3 ⟨rfl, b3⟩; have c3 := c2.trans (b3.mono c2.size); have L3 := hL.keep c3; have p3 := p2.below b3; have p3a := p3.1; have p3b := p3.2; have q3 := q2.below b3; have q3a := q3.1; have q3b := q3.2)
        | (go_at_call 13; refine (unhide H1 _ L1).mono ?_; rintro e w2 ⟨rfl, b2⟩; have c2 := c1.trans (b2.mono c1.size); have L2 := hL.keep c2; have p2 := p1.below b2; have p2a := p2.1; have p2b := p2.2; have q2 := q1.below b2; have q2a := q2.1; have q2b := q2.2)
        | (go_at_call 10; refine (unhide Z1 _).mono ?_; rintro e w1 ⟨rfl, b1⟩; have c1 := c0.trans (b1.mono c0.size); have L1 := hL.keep c1; have p1 := p0.below b1; have p1a := p1.1; have p1b := p1.2; have q1 := q0.below b1; have q1a := q1.1; have q1b := q1.2))
      have p3q := p3.bb.1
      have p3r := p3.bb.2
      have q3q := q3.bb.1
      have q3r := q3.bb.2
      refine wp_region_below mx (by kernel_rfl) ?_
      intro nebb
      repeat (go_big_quiet_step (fail))
      go_big_quiet_step ((go_at_call 10; exact callsBB (unhide Z1 _)))
      repeat (go_big_quiet_step (fail))
      go_big_quiet_step ((go_at_call 18; exact callsBB (unhide H3 _ (lyBB L3))))
      repeat (go_big_quiet_step (fail))
      go_big_quiet_step ((go_at_call 10; exact callsBB (unhide Z1 _)))
      repeat (go_big_quiet_step (fail))
      go_big_quiet_step ((go_at_call 18; exact callsBB (unhide H8 _ (lyBB L3))))
      repeat (go_big_quiet_step (fail))
      refine wpQuiet_nil ?_
      intro _ hw'
      obtain ⟨pq, hw''⟩ := hw'
      subst hw''
      have b4 := pq.b
      generalize pq.W = w4 at *
      have c4 := c3.trans (b4.mono c3.size)
      have L4 := hL.keep c4
      have p4 := p3.below b4
      have p4a := p4.1
      have p4b := p4.2
      have q4 := q3.below b4
      have q4a := q4.1
      have q4b := q4.2
      clear p3q p3r q3q q3r
      go_wp2
      have p4q := p4.bb.1
      have p4r := p4.bb.2
      have q4q := q4.bb.1
      have q4r := q4.bb.2
      refine wp_region_below mx (by kernel_rfl) ?_
      intro nebb
      repeat (go_big_quiet_step (fail))
      go_big_quiet_step ((go_at_call 10; exact callsBB (unhide Z1 _)))
      repeat (go_big_quiet_step (fail))
      go_big_quiet_step ((go_at_call 10; exact callsBB (unhide Z2 _)))
      repeat (go_big_quiet_step (fail))
      go_big_quiet_step ((go_at_call 23; exact callsBB (unhide H5 _ (lyBB L4))))
      repeat (go_big_quiet_step (fail))
      refine wpQuiet_nil ?_
      intro _ hw'
      obtain ⟨pq, hw''⟩ := hw'
      subst hw''
      have b5 := pq.b
      generalize pq.W = w5 at *
      have c5 := c4.trans (b5.mono c4.size)
      have L5 := hL.keep c5
      have p5 := p4.below b5
      have p5a := p5.1
      have p5b := p5.2
      have q5 := q4.below b5
      have q5a := q5.1
      have q5b := q5.2
      clear p4q p4r q4q q4r
      go_wp2_with (first
        | (go_at_call 20; refine (unhide HA _ L5).mono ?_; rintro e w6 ⟨rfl, b6⟩; have c6 := c5.trans (b6.mono c5.size); have L6 := hL.keep c6; have p6 := p5.below b6; have p6a := p6.1; have p6b := p6.2; have q6 := q5.below b6; have q6a := q6.1; have q6b := q6.2))
      go_ret
      exact ⟨rfl, c6⟩
    · rw [t2] at h7 hn
      have H7 := hide h7
      have wm : IntKind.i64.wrap (nrm (pz x y) * nrm (pz u v)) = nrm (pz x y) * nrm (pz u v) := wrap_in (by omega) (by omega)
      rw [t1] at H5 H6
      clear t1 t2 z5 z6 h5 h6 h7 hn hz5
      generalize nrm (pz x y) = m1 at *
      generalize nrm (pz u v) = m2 at *
      have mx : Tryd.prog.follows .mixedOrders = true := by kernel_rfl
      have c0 : Below w.heap.size w ((w.alloc (.cells #[.float .f64 x, .float .f64 y] 24)).alloc (.cells #[.float .f64 u, .float .f64 v] 24)) := (Below.one w _).trans ((Below.one _ _).mono (by simp <;> omega))
      have L0 := hL.keep c0
      have p0 : Bx ((w.alloc (.cells #[.float .f64 x, .float .f64 y] 24)).alloc (.cells #[.float .f64 u, .float .f64 v] 24)) (w.heap.size) x y := (bxn w x y (w.heap.size) 24 (by simp)).below (Below.one _ _)
      have p0a := p0.1
      have p0b := p0.2
      have q0 : Bx ((w.alloc (.cells #[.float .f64 x, .float .f64 y] 24)).alloc (.cells #[.float .f64 u, .float .f64 v] 24)) (w.heap.size + 1) u v := bxn (w.alloc (.cells #[.float .f64 x, .float .f64 y] 24)) u v (w.heap.size + 1) 24 (by simp)
      have q0a := q0.1
      have q0b := q0.2
      go_enter Tryd.func7, Tryd.ntmps7
      go_wp2_with (first
        | (go_at_call 13; refine (unhide H2 _ L2).mono ?_; rintro e w3 ⟨rfl, b3⟩; have c3 := c2.trans (b3.mono c2.size); have L3 := hL.keep c3; have p3 := p2.below b3; have p3a := p3.1; have p3b := p3.2; have q3 := q2.below b3; have q3a := q3.1; have q3b := q3.2)
        | (go_at_call 13; refine (unhide H1 _ L1).mono ?_; rintro e w2 ⟨rfl, b2⟩; have c2 := c1.trans (b2.mono c1.size); have L2 := hL.keep c2; have p2 := p1.below b2; have p2a := p2.1; have p2b := p2.2; have q2 := q1.below b2; have q2a := q2.1; have q2b := q2.2)
        | (go_at_call 10; refine (unhide Z1 _).mono ?_; rintro e w1 ⟨rfl, b1⟩; have c1 := c0.trans (b1.mono c0.size); have L1 := hL.keep c1; have p1 := p0.below b1; have p1a := p1.1; have p1b := p1.2; have q1 := q0.below b1; have q1a := q1.1; have q1b := q1.2))
      have p3q := p3.bb.1
      have p3r := p3.bb.2
      have q3q := q3.bb.1
      have q3r := q3.bb.2
      refine wp_region_below mx (by kernel_rfl) ?_
      intro nebb
      repeat (go_big_quiet_step (fail))
      go_big_quiet_step ((go_at_call 10; exact callsBB (unhide Z1 _)))
      repeat (go_big_quiet_step (fail))
      go_big_quiet_step ((go_at_call 18; exact callsBB (unhide H3 _ (lyBB L3))))
      repeat (go_big_quiet_step (fail))
      go_big_quiet_step ((go_at_call 10; exact callsBB (unhide Z1 _)))
      repeat (go_big_quiet_step (fail))
      go_big_quiet_step ((go_at_call 18; exact callsBB (unhide H8 _ (lyBB L3))))
      repeat (go_big_quiet_step (fail))
      refine wpQuiet_nil ?_
      intro _ hw'
      obtain ⟨pq, hw''⟩ := hw'
      subst hw''
      have b4 := pq.b
      generalize pq.W = w4 at *
      have c4 := c3.trans (b4.mono c3.size)
      have L4 := hL.keep c4
      have p4 := p3.below b4
      have p4a := p4.1
      have p4b := p4.2
      have q4 := q3.below b4
      have q4a := q4.1
      have q4b := q4.2
      clear p3q p3r q3q q3r
      go_wp2
      have p4q := p4.bb.1
      have p4r := p4.bb.2
      have q4q := q4.bb.1
      have q4r := q4.bb.2
      refine wp_region_below mx (by kernel_rfl) ?_
      intro nebb
      repeat (go_big_quiet_step (fail))
      go_big_quiet_step ((go_at_call 10; exact callsBB (unhide Z1 _)))
      repeat (go_big_quiet_step (fail))
      go_big_quiet_step ((go_at_call 10; exact callsBB (unhide Z2 _)))
      repeat (go_big_quiet_step (fail))
      go_big_quiet_step ((go_at_call 23; exact callsBB (unhide H5 _ (lyBB L4))))
      repeat (go_big_quiet_step (fail))
      refine wpQuiet_nil ?_
      intro _ hw'
      obtain ⟨pq, hw''⟩ := hw'
      subst hw''
      have b5 := pq.b
      generalize pq.W = w5 at *
      have c5 := c4.trans (b5.mono c4.size)
      have L5 := hL.keep c5
      have p5 := p4.below b5
      have p5a := p5.1
      have p5b := p5.2
      have q5 := q4.below b5
      have q5a := q5.1
      have q5b := q5.2
      clear p4q p4r q4q q4r
      go_wp2
      have p5q := p5.bb.1
      have p5r := p5.bb.2
      have q5q := q5.bb.1
      have q5r := q5.bb.2
      refine wp_region_below mx (by kernel_rfl) ?_
      intro nebb
      repeat (go_big_quiet_step (fail))
      go_big_quiet_step ((go_at_call 10; exact callsBB (unhide Z2 _)))
      repeat (go_big_quiet_step (fail))
      go_big_quiet_step ((go_at_call 10; exact callsBB (unhide Z1 _)))
      repeat (go_big_quiet_step (fail))
      go_big_quiet_step ((go_at_call 23; exact callsBB (unhide H6 _ (lyBB L5))))
      repeat (go_big_quiet_step (fail))
      refine wpQuiet_nil ?_
      intro _ hw'
      obtain ⟨pq, hw''⟩ := hw'
      subst hw''
      have b6 := pq.b
      generalize pq.W = w6 at *
      have c6 := c5.trans (b6.mono c5.size)
      have L6 := hL.keep c6
      have p6 := p5.below b6
      have p6a := p6.1
      have p6b := p6.2
      have q6 := q5.below b6
      have q6a := q6.1
      have q6b := q6.2
      clear p5q p5r q5q q5r
      go_wp2
      have p6q := p6.bb.1
      have p6r := p6.bb.2
      have q6q := q6.bb.1
      have q6r := q6.bb.2
      refine wp_region_below mx (by kernel_rfl) ?_
      intro nebb
      repeat (go_big_quiet_step (fail))
      go_big_quiet_step ((go_at_call 18; exact callsBB (unhide H7 _ (lyBB L6))))
      repeat (go_big_quiet_step (fail))
      go_big_quiet_step ((go_at_call 10; exact callsBB (unhide Z1 _)))
      repeat (go_big_quiet_step (fail))
      go_big_quiet_step ((go_at_call 18; exact callsBB (unhide H8 _ (lyBB L6))))
      repeat (go_big_quiet_step (fail))
      go_big_quiet_step ((go_at_call 10; exact callsBB (unhide Z2 _)))
      repeat (go_big_quiet_step (fail))
      go_big_quiet_step ((go_at_call 18; exact callsBB (unhide H9 _ (lyBB L6))))
      repeat (go_big_quiet_step (fail))
      go_big_quiet_step ((go_at_call 20; exact callsBB (unhide HA _ (lyBB L6))))
      repeat (go_big_quiet_step (fail))
      refine wpQuiet_nil ?_
      intro _ hw'
      obtain ⟨pq, hw''⟩ := hw'
      subst hw''
      have b7 := pq.b
      generalize pq.W = w7 at *
      have c7 := c6.trans (b7.mono c6.size)
      have L7 := hL.keep c7
      have p7 := p6.below b7
      have p7a := p7.1
      have p7b := p7.2
      have q7 := q6.below b7
      have q7a := q7.1
      have q7b := q7.2
      clear p6q p6r q6q q6r
      go_wp2
      go_ret
      exact ⟨rfl, c7⟩
end Go.Proofs.YtpkofpgdnbkknaaDoor
