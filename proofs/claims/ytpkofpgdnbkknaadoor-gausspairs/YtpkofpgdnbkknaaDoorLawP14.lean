/- The law GaussPairs. (By gen_laws.py.) -/
import Derived.Test.YtpkofpgdnbkknaaDoorLaw14b
namespace Go.Proofs.YtpkofpgdnbkknaaDoor
open Go.RowKit

set_option maxHeartbeats 12800000 in
theorem pairs14_law (x y u v : Nat) (w : World) (hL : Ly w) : Calls Tryd.prog 5 #[tt x y, tt u v] w fun e w' => e = .returned (.bool true) ∧ Below w.heap.size w w' := by
  have HA := hide awake14
  have Z1 := hide (fun W => lz_b x y W)
  have R1 := hide (fun W => lr_b x y W)
  have Z2 := hide (fun W => lz_b u v W)
  have R2 := hide (fun W => lr_b u v W)
  obtain ⟨x3, y3, z3, h3⟩ := gtimes_any x y u v
  have H3 := hide h3
  have H4 := hide (fun W => rtimes_b x y u v W)
  have HI := hide (fun W => lis_b x3 y3 _ z3 (tim_bnd x y u v) W)
  have H6 := hide (fun W hW => gcmp_any x y u v W hW)
  have H7 := hide (fun W => rcmp_b x y u v W)
  clear h3 z3
  generalize tim (pz x y) (pz u v) = t at *
  generalize timE (pz x y) (pz u v) = er at *
  generalize cmpG (pz x y) (pz u v) = m at *
  have mx : Tryd.prog.follows .mixedOrders = true := by kernel_rfl
  have c0 : Below w.heap.size w ((w.alloc (.cells #[.float .f64 x, .float .f64 y] 24)).alloc (.cells #[.float .f64 u, .float .f64 v] 24)) := (Below.one w _).trans ((Below.one _ _).mono (by simp <;> omega))
  have L0 := hL.keep c0
  have p0 : Bx ((w.alloc (.cells #[.float .f64 x, .float .f64 y] 24)).alloc (.cells #[.float .f64 u, .float .f64 v] 24)) (w.heap.size) x y := (bxn w x y (w.heap.size) 24 (by simp)).below (Below.one _ _)
  have p0a := p0.1
  have p0b := p0.2
  have q0 : Bx ((w.alloc (.cells #[.float .f64 x, .float .f64 y] 24)).alloc (.cells #[.float .f64 u, .float .f64 v] 24)) (w.heap.size + 1) u v := bxn (w.alloc (.cells #[.float .f64 x, .float .f64 y] 24)) u v (w.heap.size + 1) 24 (by simp)
  have q0a := q0.1
  have q0b := q0.2
  go_enter Tryd.func5, Tryd.ntmps5
  go_wp2
  have p0q := p0.bb.1
  have p0r := p0.bb.2
  have q0q := q0.bb.1
  have q0r := q0.bb.2
  refine wp_region_below mx (by kernel_rfl) ?_
  intro nebb
  repeat (go_big_quiet_step (fail))
  go_big_quiet_step ((go_at_call 10; exact callsBB (unhide Z1 _)))
  repeat (go_big_quiet_step (fail))
  go_big_quiet_step ((go_at_call 10; exact callsBB (unhide Z2 _)))
  repeat (go_big_quiet_step (fail))
  go_big_quiet_step ((go_at_call 23; exact callsBB (unhide H3 _ (lyBB L0))))
  repeat (go_big_quiet_step (fail))
  refine wpQuiet_nil ?_
  intro _ hw'
  obtain ⟨pq, hw''⟩ := hw'
  subst hw''
  have b1 := pq.b
  generalize pq.W = w1 at *
  have c1 := c0.trans (b1.mono c0.size)
  have L1 := hL.keep c1
  have p1 := p0.below b1
  have p1a := p1.1
  have p1b := p1.2
  have q1 := q0.below b1
  have q1a := q1.1
  have q1b := q1.2
  clear p0q p0r q0q q0r
  go_wp2
  have p1q := p1.bb.1
  have p1r := p1.bb.2
  have q1q := q1.bb.1
  have q1r := q1.bb.2
  refine wp_region_below mx (by kernel_rfl) ?_
  intro nebb
  repeat (go_big_quiet_step (fail))
  go_big_quiet_step ((go_at_call 12; exact callsBB (unhide R1 _)))
  repeat (go_big_quiet_step (fail))
  go_big_quiet_step ((go_at_call 12; exact callsBB (unhide R2 _)))
  repeat (go_big_quiet_step (fail))
  go_big_quiet_step ((go_at_call 24; exact callsBB (unhide H4 _)))
  repeat (go_big_quiet_step (fail))
  refine wpQuiet_nil ?_
  intro _ hw'
  obtain ⟨pq, hw''⟩ := hw'
  subst hw''
  have b2 := pq.b
  generalize pq.W = w2 at *
  have c2 := c1.trans (b2.mono c1.size)
  have L2 := hL.keep c2
  have p2 := p1.below b2
  have p2a := p2.1
  have p2b := p2.2
  have q2 := q1.below b2
  have q2a := q2.1
  have q2b := q2.2
  clear p1q p1r q1q q1r
  go_wp2
  have p2q := p2.bb.1
  have p2r := p2.bb.2
  have q2q := q2.bb.1
  have q2r := q2.bb.2
  refine wp_region_below mx (by kernel_rfl) ?_
  intro nebb
  repeat (go_big_quiet_step (fail))
  go_big_quiet_step ((go_at_call 16; exact callsBB (unhide HI _)))
  repeat (go_big_quiet_step (fail))
  go_big_quiet_step ((go_at_call 10; exact callsBB (unhide Z1 _)))
  repeat (go_big_quiet_step (fail))
  go_big_quiet_step ((go_at_call 10; exact callsBB (unhide Z2 _)))
  repeat (go_big_quiet_step (fail))
  go_big_quiet_step ((go_at_call 25; exact callsBB (unhide H6 _ (lyBB L2))))
  repeat (go_big_quiet_step (fail))
  go_big_quiet_step ((go_at_call 12; exact callsBB (unhide R1 _)))
  repeat (go_big_quiet_step (fail))
  go_big_quiet_step ((go_at_call 12; exact callsBB (unhide R2 _)))
  repeat (go_big_quiet_step (fail))
  go_big_quiet_step ((go_at_call 26; exact callsBB (unhide H7 _)))
  repeat (go_big_quiet_step (fail))
  go_big_quiet_step ((go_at_call 20; exact callsBB (unhide HA _ (lyBB L2))))
  repeat (go_big_quiet_step (fail))
  refine wpQuiet_nil ?_
  intro _ hw'
  obtain ⟨pq, hw''⟩ := hw'
  subst hw''
  have b3 := pq.b
  generalize pq.W = w3 at *
  have c3 := c2.trans (b3.mono c2.size)
  have L3 := hL.keep c3
  have p3 := p2.below b3
  have p3a := p3.1
  have p3b := p3.2
  have q3 := q2.below b3
  have q3a := q3.1
  have q3b := q3.2
  clear p2q p2r q2q q2r
  go_wp2
  go_ret
  exact ⟨rfl, c3⟩
end Go.Proofs.YtpkofpgdnbkknaaDoor
