/- The document's One of layer 9. -/
import Derived.Test.YtbffmopenjjjlaaDoorRows9
namespace Go.Proofs.YtbffmopenjjjlaaDoor
open Go.RowKit

set_option maxHeartbeats 1600000 in
theorem rone9_ascii (r : Int) (w : World) (h0 : 0 ≤ r) (h1 : r < 128) :
    Calls Tryd.prog 9 #[.int .i32 r] w fun e w' => ∃ v, e = .returned v ∧ Rn w.heap.size v (foldL r) w' ∧ Below w.heap.size w w' := by
  unfold foldL
  rw [if_pos ⟨h0, h1⟩]
  by_cases h2 : 65 ≤ r
  · by_cases h3 : r ≤ 90
    · rw [if_pos ⟨h2, h3⟩]
      have k1 : IntKind.i32.wrap (r + 32) = r + 32 := wrap_in (by omega) (by omega)
      go_enter Tryd.func9, Tryd.ntmps9
      go_wp2
      go_ret
      exact ⟨_, rfl, Rn.new1 w _, Below.one w _⟩
    · rw [if_neg (fun h => h3 h.2)]
      go_enter Tryd.func9, Tryd.ntmps9
      go_wp2
      go_ret
      exact ⟨_, rfl, Rn.new1 w _, Below.one w _⟩
  · rw [if_neg (fun h => h2 h.1)]
    go_enter Tryd.func9, Tryd.ntmps9
    go_wp2
    go_ret
    exact ⟨_, rfl, Rn.new1 w _, Below.one w _⟩
set_option maxHeartbeats 1600000 in
theorem rone9_223 (w : World) : Calls Tryd.prog 9 #[.int .i32 223] w fun e w' => ∃ v, e = .returned v ∧ Rn w.heap.size v [115, 115] w' ∧ Below w.heap.size w w' := by
  go_enter Tryd.func9, Tryd.ntmps9
  go_wp2
  go_ret
  exact ⟨_, rfl, Rn.new2 w 115 115, Below.one w _⟩
set_option maxHeartbeats 1600000 in
theorem rone9_304 (w : World) : Calls Tryd.prog 9 #[.int .i32 304] w fun e w' => ∃ v, e = .returned v ∧ Rn w.heap.size v [105, 775] w' ∧ Below w.heap.size w w' := by
  go_enter Tryd.func9, Tryd.ntmps9
  go_wp2
  go_ret
  exact ⟨_, rfl, Rn.new2 w 105 775, Below.one w _⟩
set_option maxHeartbeats 1600000 in
theorem rone9_329 (w : World) : Calls Tryd.prog 9 #[.int .i32 329] w fun e w' => ∃ v, e = .returned v ∧ Rn w.heap.size v [700, 110] w' ∧ Below w.heap.size w w' := by
  go_enter Tryd.func9, Tryd.ntmps9
  go_wp2
  go_ret
  exact ⟨_, rfl, Rn.new2 w 700 110, Below.one w _⟩
set_option maxHeartbeats 1600000 in
theorem rone9_64256 (w : World) : Calls Tryd.prog 9 #[.int .i32 64256] w fun e w' => ∃ v, e = .returned v ∧ Rn w.heap.size v [102, 102] w' ∧ Below w.heap.size w w' := by
  go_enter Tryd.func9, Tryd.ntmps9
  go_wp2
  go_ret
  exact ⟨_, rfl, Rn.new2 w 102 102, Below.one w _⟩
set_option maxHeartbeats 1600000 in
theorem rone9_64257 (w : World) : Calls Tryd.prog 9 #[.int .i32 64257] w fun e w' => ∃ v, e = .returned v ∧ Rn w.heap.size v [102, 105] w' ∧ Below w.heap.size w w' := by
  go_enter Tryd.func9, Tryd.ntmps9
  go_wp2
  go_ret
  exact ⟨_, rfl, Rn.new2 w 102 105, Below.one w _⟩
set_option maxHeartbeats 1600000 in
theorem rone9_64258 (w : World) : Calls Tryd.prog 9 #[.int .i32 64258] w fun e w' => ∃ v, e = .returned v ∧ Rn w.heap.size v [102, 108] w' ∧ Below w.heap.size w w' := by
  go_enter Tryd.func9, Tryd.ntmps9
  go_wp2
  go_ret
  exact ⟨_, rfl, Rn.new2 w 102 108, Below.one w _⟩
set_option maxHeartbeats 1600000 in
theorem rone9_64259 (w : World) : Calls Tryd.prog 9 #[.int .i32 64259] w fun e w' => ∃ v, e = .returned v ∧ Rn w.heap.size v [102, 102, 105] w' ∧ Below w.heap.size w w' := by
  go_enter Tryd.func9, Tryd.ntmps9
  go_wp2
  go_ret
  exact ⟨_, rfl, Rn.new3 w 102 102 105, Below.one w _⟩
set_option maxHeartbeats 1600000 in
theorem rone9_64260 (w : World) : Calls Tryd.prog 9 #[.int .i32 64260] w fun e w' => ∃ v, e = .returned v ∧ Rn w.heap.size v [102, 102, 108] w' ∧ Below w.heap.size w w' := by
  go_enter Tryd.func9, Tryd.ntmps9
  go_wp2
  go_ret
  exact ⟨_, rfl, Rn.new3 w 102 102 108, Below.one w _⟩
set_option maxHeartbeats 1600000 in
theorem rone9_64261 (w : World) : Calls Tryd.prog 9 #[.int .i32 64261] w fun e w' => ∃ v, e = .returned v ∧ Rn w.heap.size v [115, 116] w' ∧ Below w.heap.size w w' := by
  go_enter Tryd.func9, Tryd.ntmps9
  go_wp2
  go_ret
  exact ⟨_, rfl, Rn.new2 w 115 116, Below.one w _⟩
theorem inF_yes {f t s u r : Int} (h1 : f ≤ r) (h2 : r ≤ t) (h3 : (r - f) % s = 0) : inF ⟨f, t, s, u⟩ r = true := decide_eq_true ⟨h1, h2, h3⟩
theorem inF_no {f t s u r : Int} (h : ¬ (f ≤ r ∧ r ≤ t ∧ (r - f) % s = 0)) : inF ⟨f, t, s, u⟩ r = false := decide_eq_false h

set_option maxHeartbeats 6400000 in
theorem rone9_rows (r : Int) (w : World) (hr : -2147483648 ≤ r ∧ r ≤ 2147483647) (h0 : ¬ (0 ≤ r ∧ r < 128)) (hs : spec9 r = none) :
    Calls Tryd.prog 9 #[.int .i32 r] w fun e w' => ∃ v, e = .returned v ∧ Rn w.heap.size v (rowF r rows9) w' ∧ Below w.heap.size w w' := by
  have mx : Tryd.prog.follows .mixedOrders = true := by kernel_rfl
  have HR := hide rows9_any
  have HCE := hide (rows9_cell w)
  have n223 : ¬ r = 223 := fun h => by subst h; exact absurd hs (by decide)
  have m223 : (r == 223) = false := by simpa using n223
  have n304 : ¬ r = 304 := fun h => by subst h; exact absurd hs (by decide)
  have m304 : (r == 304) = false := by simpa using n304
  have n329 : ¬ r = 329 := fun h => by subst h; exact absurd hs (by decide)
  have m329 : (r == 329) = false := by simpa using n329
  have n64256 : ¬ r = 64256 := fun h => by subst h; exact absurd hs (by decide)
  have m64256 : (r == 64256) = false := by simpa using n64256
  have n64257 : ¬ r = 64257 := fun h => by subst h; exact absurd hs (by decide)
  have m64257 : (r == 64257) = false := by simpa using n64257
  have n64258 : ¬ r = 64258 := fun h => by subst h; exact absurd hs (by decide)
  have m64258 : (r == 64258) = false := by simpa using n64258
  have n64259 : ¬ r = 64259 := fun h => by subst h; exact absurd hs (by decide)
  have m64259 : (r == 64259) = false := by simpa using n64259
  have n64260 : ¬ r = 64260 := fun h => by subst h; exact absurd hs (by decide)
  have m64260 : (r == 64260) = false := by simpa using n64260
  have n64261 : ¬ r = 64261 := fun h => by subst h; exact absurd hs (by decide)
  have m64261 : (r == 64261) = false := by simpa using n64261
  clear hs
  by_cases hneg : 0 ≤ r
  · have hbig : ¬ r < 128 := fun h => h0 ⟨hneg, h⟩
    go_enter Tryd.func9, Tryd.ntmps9
    go_wp2_with (go_at_call 18; refine (unhide HR _).mono ?_; rintro e w1 ⟨rfl, rfl⟩)
    go_loopw [4] (fun i wr => ∃ n : Nat, n ≤ 25 ∧ i = .int .i64 (n : Int) ∧ Hid (rowF r (rows9.drop n) = rowF r rows9) ∧ Gr (w.alloc (.cells cells9 37)) wr) (fun i _ => 25 - (intOf i).toNat)
    case atStart => exact ⟨0, Nat.zero_le _, rfl, hide rfl, Gr.refl _⟩
    case round =>
      obtain ⟨n, hn, rfl, HP, hg⟩ := hrel
      have hs1 := hg.size
      rw [World.size_alloc] at hs1
      by_cases hlt : n < 25
      · have hzl : (n : Int) < 25 := by omega
        have hz0 : (0 : Int) ≤ (n : Int) := by omega
        obtain ⟨c1, c2, c3, c4⟩ := unhide HCE n hlt
        have d1 := cell_gr (hg.cell c1)
        have d2 := cell_gr (hg.cell c2)
        have d3 := cell_gr (hg.cell c3)
        have d4 := cell_gr (hg.cell c4)
        have hst := rowF_step r n hlt
        have hok := row9_ok n hlt
        rw [unhide HP] at hst
        clear c1 c2 c3 c4
        generalize rows9.getD n fo0 = o at *
        obtain ⟨f, t, s, u⟩ := o
        simp only [okF, decide_eq_true_eq] at hok
        obtain ⟨o1, o2, o3, o4, o5, o6, o7, o8⟩ := hok
        dsimp only at d1 d2 d3 d4 hst
        have HST := hide hst
        clear hst
        by_cases q1 : f ≤ r
        · have z1 : decide (f ≤ r) = true := by simpa using q1
          by_cases q2 : r ≤ t
          · have z2 : decide (r ≤ t) = true := by simpa using q2
            have ks : IntKind.i32.wrap (r - f) = r - f := wrap_in (by omega) (by omega)
            have z3 : ¬ s = 0 := by omega
            have z4 : (s == 0) = false := by simpa using z3
            have q3' : (r - f).tmod s = (r - f) % s := Int.tmod_eq_emod_of_nonneg (by omega)
            by_cases q3 : (r - f) % s = 0
            · have HE : Hid (rowF r rows9 = [r + u]) := by
                show _ = _
                rw [unhide HST, if_pos (inF_yes q1 q2 q3)]
              have z5 : ((r - f) % s == 0) = true := by simpa using q3
              have ku : IntKind.i32.wrap (r + u) = r + u := wrap_in (by omega) (by omega)
              clear HST HP
              go_wp2
              refine wp_region_quiet_grown (by first | exact mx | assumption) (by kernel_rfl) ?_
              repeat (go_big_quiet_step (fail))
              refine wpQuiet_nil ?_
              intro _ hw'
              obtain ⟨⟨nq, osq⟩, hw''⟩ := hw'
              subst hw''
              go_wp2
              go_ret
              have g9 := (((Gr.one w _).trans hg).grow nq osq)
              have s9 : (Go.Sort.grow (wr.drewN nq) osq).heap.size = wr.heap.size + osq.size := by simp [Go.Sort.grow, World.drewN]
              have n9 := (Rn.new1 (Go.Sort.grow (wr.drewN nq) osq) (r + u)).base g9.size
              rw [s9] at n9
              exact ⟨_, rfl, by rw [unhide HE]; exact n9, (g9.alloc _).below⟩
            · have z5 : ((r - f) % s == 0) = false := by simpa using q3
              have HE : Hid (rowF r (rows9.drop (n + 1)) = rowF r rows9) := by
                show _ = _
                rw [unhide HST, if_neg (by rw [inF_no (fun h => q3 h.2.2)]; simp)]
              clear HST HP
              go_wp2
              refine wp_region_quiet_grown (by first | exact mx | assumption) (by kernel_rfl) ?_
              repeat (go_big_quiet_step (fail))
              refine wpQuiet_nil ?_
              intro _ hw'
              obtain ⟨⟨nq, osq⟩, hw''⟩ := hw'
              subst hw''
              go_wp2
              go_roundw
              case rel => exact ⟨n + 1, by omega, by go_num, HE, hg.grow _ _⟩
              case measure => simp [intOf]; omega
          · have HE : Hid (rowF r (rows9.drop (n + 1)) = rowF r rows9) := by
              show _ = _
              rw [unhide HST, if_neg (by rw [inF_no (fun h => q2 h.2.1)]; simp)]
            have z2 : decide (r ≤ t) = false := by simpa using q2
            clear HST HP
            go_wp2
            refine wp_region_quiet_grown (by first | exact mx | assumption) (by kernel_rfl) ?_
            repeat (go_big_quiet_step (fail))
            refine wpQuiet_nil ?_
            intro _ hw'
            obtain ⟨⟨nq, osq⟩, hw''⟩ := hw'
            subst hw''
            go_wp2
            go_roundw
            case rel => exact ⟨n + 1, by omega, by go_num, HE, hg.grow _ _⟩
            case measure => simp [intOf]; omega
        · have HE : Hid (rowF r (rows9.drop (n + 1)) = rowF r rows9) := by
            show _ = _
            rw [unhide HST, if_neg (by rw [inF_no (fun h => q1 h.1)]; simp)]
          have z1 : decide (f ≤ r) = false := by simpa using q1
          clear HST HP
          go_wp2
          refine wp_region_quiet_grown (by first | exact mx | assumption) (by kernel_rfl) ?_
          repeat (go_big_quiet_step (fail))
          refine wpQuiet_nil ?_
          intro _ hw'
          obtain ⟨⟨nq, osq⟩, hw''⟩ := hw'
          subst hw''
          go_wp2
          go_roundw
          case rel => exact ⟨n + 1, by omega, by go_num, HE, hg.grow _ _⟩
          case measure => simp [intOf]; omega
      · have hzl : ¬ (n : Int) < 25 := by omega
        obtain rfl : n = 25 := by omega
        have HE : Hid (rowF r rows9 = [r]) := (unhide HP).symm
        clear HP
        go_wp2
        go_ret
        exact ⟨_, rfl, by rw [unhide HE]; exact (Rn.new1 wr r).base (Nat.le_of_lt hs1), (((Gr.one w _).trans hg).alloc _).below⟩
  · have hneg2 : ¬ (0 : Int) ≤ r := hneg
    go_enter Tryd.func9, Tryd.ntmps9
    go_wp2_with (go_at_call 18; refine (unhide HR _).mono ?_; rintro e w1 ⟨rfl, rfl⟩)
    go_loopw [4] (fun i wr => ∃ n : Nat, n ≤ 25 ∧ i = .int .i64 (n : Int) ∧ Hid (rowF r (rows9.drop n) = rowF r rows9) ∧ Gr (w.alloc (.cells cells9 37)) wr) (fun i _ => 25 - (intOf i).toNat)
    case atStart => exact ⟨0, Nat.zero_le _, rfl, hide rfl, Gr.refl _⟩
    case round =>
      obtain ⟨n, hn, rfl, HP, hg⟩ := hrel
      have hs1 := hg.size
      rw [World.size_alloc] at hs1
      by_cases hlt : n < 25
      · have hzl : (n : Int) < 25 := by omega
        have hz0 : (0 : Int) ≤ (n : Int) := by omega
        obtain ⟨c1, c2, c3, c4⟩ := unhide HCE n hlt
        have d1 := cell_gr (hg.cell c1)
        have d2 := cell_gr (hg.cell c2)
        have d3 := cell_gr (hg.cell c3)
        have d4 := cell_gr (hg.cell c4)
        have hst := rowF_step r n hlt
        have hok := row9_ok n hlt
        rw [unhide HP] at hst
        clear c1 c2 c3 c4
        generalize rows9.getD n fo0 = o at *
        obtain ⟨f, t, s, u⟩ := o
        simp only [okF, decide_eq_true_eq] at hok
        obtain ⟨o1, o2, o3, o4, o5, o6, o7, o8⟩ := hok
        dsimp only at d1 d2 d3 d4 hst
        have HST := hide hst
        clear hst
        by_cases q1 : f ≤ r
        · exfalso; omega
        · have HE : Hid (rowF r (rows9.drop (n + 1)) = rowF r rows9) := by
            show _ = _
            rw [unhide HST, if_neg (by rw [inF_no (fun h => q1 h.1)]; simp)]
          have z1 : decide (f ≤ r) = false := by simpa using q1
          clear HST HP
          go_wp2
          refine wp_region_quiet_grown (by first | exact mx | assumption) (by kernel_rfl) ?_
          repeat (go_big_quiet_step (fail))
          refine wpQuiet_nil ?_
          intro _ hw'
          obtain ⟨⟨nq, osq⟩, hw''⟩ := hw'
          subst hw''
          go_wp2
          go_roundw
          case rel => exact ⟨n + 1, by omega, by go_num, HE, hg.grow _ _⟩
          case measure => simp [intOf]; omega
      · have hzl : ¬ (n : Int) < 25 := by omega
        obtain rfl : n = 25 := by omega
        have HE : Hid (rowF r rows9 = [r]) := (unhide HP).symm
        clear HP
        go_wp2
        go_ret
        exact ⟨_, rfl, by rw [unhide HE]; exact (Rn.new1 wr r).base (Nat.le_of_lt hs1), (((Gr.one w _).trans hg).alloc _).below⟩
/-- The document's One of layer 9, of any number. -/
theorem rone9_any (r : Int) (w : World) (hr : -2147483648 ≤ r ∧ r ≤ 2147483647) : Calls Tryd.prog 9 #[.int .i32 r] w fun e w' => ∃ v, e = .returned v ∧ Rn w.heap.size v (foldL r) w' ∧ Below w.heap.size w w' := by
  by_cases h0 : 0 ≤ r ∧ r < 128
  · exact rone9_ascii r w h0.1 h0.2
  · unfold foldL
    rw [if_neg h0]
    cases hs : spec9 r with
    | none => exact rone9_rows r w hr h0 hs
    | some l =>
      dsimp only
      unfold spec9 at hs
      repeat' split at hs
      · subst_vars; cases hs; exact rone9_223 w
      · subst_vars; cases hs; exact rone9_304 w
      · subst_vars; cases hs; exact rone9_329 w
      · subst_vars; cases hs; exact rone9_64256 w
      · subst_vars; cases hs; exact rone9_64257 w
      · subst_vars; cases hs; exact rone9_64258 w
      · subst_vars; cases hs; exact rone9_64259 w
      · subst_vars; cases hs; exact rone9_64260 w
      · subst_vars; cases hs; exact rone9_64261 w
      · cases hs
end Go.Proofs.YtbffmopenjjjlaaDoor
