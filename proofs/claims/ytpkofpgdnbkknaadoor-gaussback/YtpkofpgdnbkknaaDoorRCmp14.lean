/- The document's Cmp of layer 14. -/
import Derived.Test.YtpkofpgdnbkknaaDoorRTim14
namespace Go.Proofs.YtpkofpgdnbkknaaDoor
open Go.RowKit

set_option maxHeartbeats 6400000 in
theorem rcmp14_any (x y u v : Nat) (w : World) : Calls Tryd.prog 26 #[zz x y, zz u v] w fun e w' => e = .returned (.int .i64 (cmpG (pz x y) (pz u v))) ∧ Gr w w' := by
  have mx : Tryd.prog.follows .mixedOrders = true := by kernel_rfl
  have g0 := fun o1 o2 => (Gr.one w o1).alloc o2
  have HP := hide (fun W => rparts_any x y W)
  have HQ := hide (fun W => rparts_any u v W)
  have HM := hide (fun W => rnorm_any x y W)
  have HN := hide (fun W => rnorm_any u v W)
  have HE : Hid (cmpG (pz x y) (pz u v) = cm3 (nrm (pz x y)) (nrm (pz u v)) (reZ (pz x y)) (reZ (pz u v)) (imZ (pz x y)) (imZ (pz u v))) := rfl
  rw [unhide HE]
  clear HE
  generalize nrm (pz x y) = m at *
  generalize nrm (pz u v) = n at *
  generalize reZ (pz x y) = a at *
  generalize reZ (pz u v) = c at *
  generalize imZ (pz x y) = b at *
  generalize imZ (pz u v) = d at *
  generalize (pz x y).isSome = o1 at *
  generalize (pz u v).isSome = o2 at *
  by_cases c1 : m < n
  · go_enter Tryd.func26, Tryd.ntmps26
    go_wp2_with (first | (go_at_call 15; have m1 := k1; refine (unhide HQ _).mono ?_; rintro e w2 ⟨rfl, g2⟩) | (go_at_call 15; refine (unhide HP _).mono ?_; rintro e w1 ⟨rfl, g1⟩; obtain ⟨k1, k2, k3, k4⟩ := two_gr g1))
    have j1 := g2.cell k1
    have j2 := g2.cell k2
    have j3 := g2.cell k3
    have j4 := g2.cell k4
    replace j1 := cell_gr j1
    replace j2 := cell_gr j2
    replace j3 := cell_gr j3
    replace j4 := cell_gr j4
    refine wp_region_quiet_grown (by exact mx) (by kernel_rfl) ?_
    repeat (go_big_quiet_step (fail))
    go_big_quiet_step ((go_at_call 19; exact callsGr (unhide HM _)))
    repeat (go_big_quiet_step (fail))
    go_big_quiet_step ((go_at_call 19; exact callsGr (unhide HN _)))
    repeat (go_big_quiet_step (fail))
    refine wpQuiet_nil ?_
    intro _ hw'
    obtain ⟨⟨nq, osq⟩, hw''⟩ := hw'
    subst hw''
    go_wp2
    go_ret
    exact ⟨ret_int (by unfold cm3; rw [if_pos (by omega)]), (((g0 _ _).trans g1).trans g2).grow _ _⟩
  · by_cases c2 : n < m
    · go_enter Tryd.func26, Tryd.ntmps26
      go_wp2_with (first | (go_at_call 15; have m1 := k1; refine (unhide HQ _).mono ?_; rintro e w2 ⟨rfl, g2⟩) | (go_at_call 15; refine (unhide HP _).mono ?_; rintro e w1 ⟨rfl, g1⟩; obtain ⟨k1, k2, k3, k4⟩ := two_gr g1))
      have j1 := g2.cell k1
      have j2 := g2.cell k2
      have j3 := g2.cell k3
      have j4 := g2.cell k4
      replace j1 := cell_gr j1
      replace j2 := cell_gr j2
      replace j3 := cell_gr j3
      replace j4 := cell_gr j4
      refine wp_region_quiet_grown (by exact mx) (by kernel_rfl) ?_
      repeat (go_big_quiet_step (fail))
      go_big_quiet_step ((go_at_call 19; exact callsGr (unhide HM _)))
      repeat (go_big_quiet_step (fail))
      go_big_quiet_step ((go_at_call 19; exact callsGr (unhide HN _)))
      repeat (go_big_quiet_step (fail))
      refine wpQuiet_nil ?_
      intro _ hw'
      obtain ⟨⟨nq, osq⟩, hw''⟩ := hw'
      subst hw''
      go_wp2
      go_ret
      exact ⟨ret_int (by unfold cm3; rw [if_neg (by omega), if_pos (by omega)]), (((g0 _ _).trans g1).trans g2).grow _ _⟩
    · by_cases c3 : a < c
      · go_enter Tryd.func26, Tryd.ntmps26
        go_wp2_with (first | (go_at_call 15; have m1 := k1; refine (unhide HQ _).mono ?_; rintro e w2 ⟨rfl, g2⟩) | (go_at_call 15; refine (unhide HP _).mono ?_; rintro e w1 ⟨rfl, g1⟩; obtain ⟨k1, k2, k3, k4⟩ := two_gr g1))
        have j1 := g2.cell k1
        have j2 := g2.cell k2
        have j3 := g2.cell k3
        have j4 := g2.cell k4
        replace j1 := cell_gr j1
        replace j2 := cell_gr j2
        replace j3 := cell_gr j3
        replace j4 := cell_gr j4
        refine wp_region_quiet_grown (by exact mx) (by kernel_rfl) ?_
        repeat (go_big_quiet_step (fail))
        go_big_quiet_step ((go_at_call 19; exact callsGr (unhide HM _)))
        repeat (go_big_quiet_step (fail))
        go_big_quiet_step ((go_at_call 19; exact callsGr (unhide HN _)))
        repeat (go_big_quiet_step (fail))
        refine wpQuiet_nil ?_
        intro _ hw'
        obtain ⟨⟨nq, osq⟩, hw''⟩ := hw'
        subst hw''
        go_wp2
        go_ret
        exact ⟨ret_int (by unfold cm3; rw [if_neg (by omega), if_neg (by omega), if_pos (by omega)]), (((g0 _ _).trans g1).trans g2).grow _ _⟩
      · by_cases c4 : c < a
        · go_enter Tryd.func26, Tryd.ntmps26
          go_wp2_with (first | (go_at_call 15; have m1 := k1; refine (unhide HQ _).mono ?_; rintro e w2 ⟨rfl, g2⟩) | (go_at_call 15; refine (unhide HP _).mono ?_; rintro e w1 ⟨rfl, g1⟩; obtain ⟨k1, k2, k3, k4⟩ := two_gr g1))
          have j1 := g2.cell k1
          have j2 := g2.cell k2
          have j3 := g2.cell k3
          have j4 := g2.cell k4
          replace j1 := cell_gr j1
          replace j2 := cell_gr j2
          replace j3 := cell_gr j3
          replace j4 := cell_gr j4
          refine wp_region_quiet_grown (by exact mx) (by kernel_rfl) ?_
          repeat (go_big_quiet_step (fail))
          go_big_quiet_step ((go_at_call 19; exact callsGr (unhide HM _)))
          repeat (go_big_quiet_step (fail))
          go_big_quiet_step ((go_at_call 19; exact callsGr (unhide HN _)))
          repeat (go_big_quiet_step (fail))
          refine wpQuiet_nil ?_
          intro _ hw'
          obtain ⟨⟨nq, osq⟩, hw''⟩ := hw'
          subst hw''
          go_wp2
          go_ret
          exact ⟨ret_int (by unfold cm3; rw [if_neg (by omega), if_neg (by omega), if_neg (by omega), if_pos (by omega)]), (((g0 _ _).trans g1).trans g2).grow _ _⟩
        · by_cases c5 : b < d
          · go_enter Tryd.func26, Tryd.ntmps26
            go_wp2_with (first | (go_at_call 15; have m1 := k1; refine (unhide HQ _).mono ?_; rintro e w2 ⟨rfl, g2⟩) | (go_at_call 15; refine (unhide HP _).mono ?_; rintro e w1 ⟨rfl, g1⟩; obtain ⟨k1, k2, k3, k4⟩ := two_gr g1))
            have j1 := g2.cell k1
            have j2 := g2.cell k2
            have j3 := g2.cell k3
            have j4 := g2.cell k4
            replace j1 := cell_gr j1
            replace j2 := cell_gr j2
            replace j3 := cell_gr j3
            replace j4 := cell_gr j4
            refine wp_region_quiet_grown (by exact mx) (by kernel_rfl) ?_
            repeat (go_big_quiet_step (fail))
            go_big_quiet_step ((go_at_call 19; exact callsGr (unhide HM _)))
            repeat (go_big_quiet_step (fail))
            go_big_quiet_step ((go_at_call 19; exact callsGr (unhide HN _)))
            repeat (go_big_quiet_step (fail))
            refine wpQuiet_nil ?_
            intro _ hw'
            obtain ⟨⟨nq, osq⟩, hw''⟩ := hw'
            subst hw''
            go_wp2
            go_ret
            exact ⟨ret_int (by unfold cm3; rw [if_neg (by omega), if_neg (by omega), if_neg (by omega), if_neg (by omega), if_pos (by omega)]), (((g0 _ _).trans g1).trans g2).grow _ _⟩
          · by_cases c6 : d < b
            · go_enter Tryd.func26, Tryd.ntmps26
              go_wp2_with (first | (go_at_call 15; have m1 := k1; refine (unhide HQ _).mono ?_; rintro e w2 ⟨rfl, g2⟩) | (go_at_call 15; refine (unhide HP _).mono ?_; rintro e w1 ⟨rfl, g1⟩; obtain ⟨k1, k2, k3, k4⟩ := two_gr g1))
              have j1 := g2.cell k1
              have j2 := g2.cell k2
              have j3 := g2.cell k3
              have j4 := g2.cell k4
              replace j1 := cell_gr j1
              replace j2 := cell_gr j2
              replace j3 := cell_gr j3
              replace j4 := cell_gr j4
              refine wp_region_quiet_grown (by exact mx) (by kernel_rfl) ?_
              repeat (go_big_quiet_step (fail))
              go_big_quiet_step ((go_at_call 19; exact callsGr (unhide HM _)))
              repeat (go_big_quiet_step (fail))
              go_big_quiet_step ((go_at_call 19; exact callsGr (unhide HN _)))
              repeat (go_big_quiet_step (fail))
              refine wpQuiet_nil ?_
              intro _ hw'
              obtain ⟨⟨nq, osq⟩, hw''⟩ := hw'
              subst hw''
              go_wp2
              go_ret
              exact ⟨ret_int (by unfold cm3; rw [if_neg (by omega), if_neg (by omega), if_neg (by omega), if_neg (by omega), if_neg (by omega), if_pos (by omega)]), (((g0 _ _).trans g1).trans g2).grow _ _⟩
            · go_enter Tryd.func26, Tryd.ntmps26
              go_wp2_with (first | (go_at_call 15; have m1 := k1; refine (unhide HQ _).mono ?_; rintro e w2 ⟨rfl, g2⟩) | (go_at_call 15; refine (unhide HP _).mono ?_; rintro e w1 ⟨rfl, g1⟩; obtain ⟨k1, k2, k3, k4⟩ := two_gr g1))
              have j1 := g2.cell k1
              have j2 := g2.cell k2
              have j3 := g2.cell k3
              have j4 := g2.cell k4
              replace j1 := cell_gr j1
              replace j2 := cell_gr j2
              replace j3 := cell_gr j3
              replace j4 := cell_gr j4
              refine wp_region_quiet_grown (by exact mx) (by kernel_rfl) ?_
              repeat (go_big_quiet_step (fail))
              go_big_quiet_step ((go_at_call 19; exact callsGr (unhide HM _)))
              repeat (go_big_quiet_step (fail))
              go_big_quiet_step ((go_at_call 19; exact callsGr (unhide HN _)))
              repeat (go_big_quiet_step (fail))
              refine wpQuiet_nil ?_
              intro _ hw'
              obtain ⟨⟨nq, osq⟩, hw''⟩ := hw'
              subst hw''
              go_wp2
              go_ret
              exact ⟨ret_int (by unfold cm3; rw [if_neg (by omega), if_neg (by omega), if_neg (by omega), if_neg (by omega), if_neg (by omega), if_neg (by omega)]), (((g0 _ _).trans g1).trans g2).grow _ _⟩
end Go.Proofs.YtpkofpgdnbkknaaDoor
