/- The laws GaussShows and GaussParses. (By gen_laws.py.) -/
import Derived.Test.YtpkofpgdnbkknaaDoorLaw14b
namespace Go.Proofs.YtpkofpgdnbkknaaDoor
open Go.RowKit

set_option maxHeartbeats 6400000 in
theorem shows14_law (x y : Nat) (n : Int) (w : World) (hL : Ly w) : Calls Tryd.prog 3 #[tt x y, .int .i64 n] w fun e w' => e = .returned (.bool true) ∧ Below w.heap.size w w' := by
  have HA := hide awake14
  have Z1 := hide (fun W => lz_b x y W)
  have R1 := hide (fun W => lr_b x y W)
  have H1 := hide (fun W hW => gshow_any x y W hW)
  have H2 := hide (fun W => rshow_b x y W)
  obtain ⟨x3, y3, z3, h3⟩ := gturn_any x y n
  have H3 := hide h3
  have H4 := hide (fun W => rturn_b x y n W)
  have H5 := hide (fun W => rparts_b x y W)
  have HI := hide (fun W => lis_b x3 y3 _ z3 (trn_in n x y) W)
  have H6 := hide (fun W hW => gfits_any x y W hW)
  have H7 := hide (fun W hW => gnorm_any x y W hW)
  have H8 := hide (fun W => rnorm_b x y W)
  have hq : ((shZ (pz x y)).toList == (shZ (pz x y)).toList) = true := by simp
  clear h3 z3
  generalize shZ (pz x y) = s at *
  generalize errZ (pz x y) = er at *
  generalize trn n (pz x y) = t at *
  generalize reZ (pz x y) = ra at *
  generalize imZ (pz x y) = ia at *
  generalize (pz x y).isSome = o at *
  generalize nrm (pz x y) = m at *
  have mx : Tryd.prog.follows .mixedOrders = true := by kernel_rfl
  have c0 : Below w.heap.size w (w.alloc (.cells #[.float .f64 x, .float .f64 y] 24)) := Below.one w _
  have L0 := hL.keep c0
  have p0 : Bx (w.alloc (.cells #[.float .f64 x, .float .f64 y] 24)) (w.heap.size) x y := bxn w x y (w.heap.size) 24 (by simp)
  have p0a := p0.1
  have p0b := p0.2
  go_enter Tryd.func3, Tryd.ntmps3
  go_wp2_with (first
    | (go_at_call 15; refine (unhide H5 _).mono ?_; rintro e w10 ⟨rfl, b10⟩; have c10 := c9.trans (b10.mono c9.size); have L10 := hL.keep c10; have p10 := p9.below b10; have p10a := p10.1; have p10b := p10.2)
    | (go_at_call 12; refine (unhide R1 _).mono ?_; rintro e w9 ⟨rfl, b9⟩; have c9 := c8.trans (b9.mono c8.size); have L9 := hL.keep c9; have p9 := p8.below b9; have p9a := p9.1; have p9b := p9.2)
    | (go_at_call 14; refine (unhide H4 _).mono ?_; rintro e w8 ⟨rfl, b8⟩; have c8 := c7.trans (b8.mono c7.size); have L8 := hL.keep c8; have p8 := p7.below b8; have p8a := p8.1; have p8b := p8.2)
    | (go_at_call 12; refine (unhide R1 _).mono ?_; rintro e w7 ⟨rfl, b7⟩; have c7 := c6.trans (b7.mono c6.size); have L7 := hL.keep c7; have p7 := p6.below b7; have p7a := p7.1; have p7b := p7.2)
    | (go_at_call 13; refine (unhide H3 _ L5).mono ?_; rintro e w6 ⟨rfl, b6⟩; have c6 := c5.trans (b6.mono c5.size); have L6 := hL.keep c6; have p6 := p5.below b6; have p6a := p6.1; have p6b := p6.2)
    | (go_at_call 10; refine (unhide Z1 _).mono ?_; rintro e w5 ⟨rfl, b5⟩; have c5 := c4.trans (b5.mono c4.size); have L5 := hL.keep c5; have p5 := p4.below b5; have p5a := p5.1; have p5b := p5.2)
    | (go_at_call 11; refine (unhide H2 _).mono ?_; rintro e w4 ⟨rfl, b4⟩; have c4 := c3.trans (b4.mono c3.size); have L4 := hL.keep c4; have p4 := p3.below b4; have p4a := p4.1; have p4b := p4.2)
    | (go_at_call 12; refine (unhide R1 _).mono ?_; rintro e w3 ⟨rfl, b3⟩; have c3 := c2.trans (b3.mono c2.size); have L3 := hL.keep c3; have p3 := p2.below b3; have p3a := p3.1; have p3b := p3.2)
    | (go_at_call 9; refine (unhide H1 _ L1).mono ?_; rintro e w2 ⟨rfl, b2⟩; have c2 := c1.trans (b2.mono c1.size); have L2 := hL.keep c2; have p2 := p1.below b2; have p2a := p2.1; have p2b := p2.2)
    | (go_at_call 10; refine (unhide Z1 _).mono ?_; rintro e w1 ⟨rfl, b1⟩; have c1 := c0.trans (b1.mono c0.size); have L1 := hL.keep c1; have p1 := p0.below b1; have p1a := p1.1; have p1b := p1.2))
  have p10q := p10.bb.1
  have p10r := p10.bb.2
  refine wp_region_below mx (by kernel_rfl) ?_
  intro nebb
  repeat (go_big_quiet_step (fail))
  go_big_quiet_step ((go_at_call 16; exact callsBB (unhide HI _)))
  repeat (go_big_quiet_step (fail))
  go_big_quiet_step ((go_at_call 10; exact callsBB (unhide Z1 _)))
  repeat (go_big_quiet_step (fail))
  go_big_quiet_step ((go_at_call 17; exact callsBB (unhide H6 _ (lyBB L10))))
  repeat (go_big_quiet_step (fail))
  go_big_quiet_step ((go_at_call 10; exact callsBB (unhide Z1 _)))
  repeat (go_big_quiet_step (fail))
  go_big_quiet_step ((go_at_call 18; exact callsBB (unhide H7 _ (lyBB L10))))
  repeat (go_big_quiet_step (fail))
  go_big_quiet_step ((go_at_call 12; exact callsBB (unhide R1 _)))
  repeat (go_big_quiet_step (fail))
  go_big_quiet_step ((go_at_call 19; exact callsBB (unhide H8 _)))
  repeat (go_big_quiet_step (fail))
  go_big_quiet_step ((go_at_call 20; exact callsBB (unhide HA _ (lyBB L10))))
  repeat (go_big_quiet_step (fail))
  refine wpQuiet_nil ?_
  intro _ hw'
  obtain ⟨pq, hw''⟩ := hw'
  subst hw''
  have b11 := pq.b
  generalize pq.W = w11 at *
  have c11 := c10.trans (b11.mono c10.size)
  have L11 := hL.keep c11
  have p11 := p10.below b11
  have p11a := p11.1
  have p11b := p11.2
  clear p10q p10r
  go_wp2
  go_ret
  exact ⟨rfl, c11⟩
set_option maxHeartbeats 3200000 in
theorem parses14_law (s : ByteArray) (w : World) (hL : Ly w) (hs : s.size ≤ 9223372036854775806) : Calls Tryd.prog 4 #[.string s] w fun e w' => e = .returned (.bool true) ∧ Below w.heap.size w w' := by
  have HA := hide awake14
  obtain ⟨x1, y1, z1, h1⟩ := gparse_any s hs
  have H1 := hide h1
  have H2 := hide (fun W => rparse_b s W hs)
  have HI := hide (fun W => lis_b x1 y1 _ z1 (parG_in (nums s)) W)
  clear h1 z1
  generalize parG (nums s) = t at *
  generalize parF (nums s) = er at *
  have c0 := Below.refl w.heap.size w
  have L0 := hL
  go_enter Tryd.func4, Tryd.ntmps4
  go_wp2_with (first
    | (go_at_call 20; refine (unhide HA _ L3).mono ?_; rintro e w4 ⟨rfl, b4⟩; have c4 := c3.trans (b4.mono c3.size); have L4 := hL.keep c4)
    | (go_at_call 16; refine (unhide HI _).mono ?_; rintro e w3 ⟨rfl, b3⟩; have c3 := c2.trans (b3.mono c2.size); have L3 := hL.keep c3)
    | (go_at_call 22; refine (unhide H2 _).mono ?_; rintro e w2 ⟨rfl, b2⟩; have c2 := c1.trans (b2.mono c1.size); have L2 := hL.keep c2)
    | (go_at_call 21; refine (unhide H1 _ L0).mono ?_; rintro e w1 ⟨rfl, b1⟩; have c1 := c0.trans (b1.mono c0.size); have L1 := hL.keep c1))
  go_ret
  exact ⟨rfl, c4⟩
end Go.Proofs.YtpkofpgdnbkknaaDoor
