/- Stage 15: BerEncodes, over the contracts. -/
import Derived.Test.YtlhkplhfofkbbaaLaw15e
import Derived.Test.YtlhkplhfofkbbaaQuietB
namespace Go.Proofs.Ytlhkplhfofkbbaa
open Go.RowKit

set_option maxHeartbeats 3200000 in
theorem encodes15_law (l : List El) (v : Value) (w : World) (hL : Ly w) (hV : ElsV w v l) : Calls Try.prog 3 #[v] w fun e w' => e = .returned (.bool true) ∧ Below w.heap.size w w' := by
  have HA := hide awake15
  have HL := hide hL
  have HV := hide hV
  obtain ⟨ad, cap, rfl, hn, hc⟩ := hV
  have HC := hide hc
  clear hc hL
  have mx : Try.prog.follows .mixedOrders = true := by kernel_rfl
  go_enter Try.func3, Try.ntmps3
  go_wp2
  go_loopw [3, 4] (fun vl vi wr => ∃ (i : Nat) (k : Int), i ≤ l.length ∧ vl = .int .i64 k ∧ vi = .int .i64 (i : Int) ∧ k ≤ 1000 ∧ Below w.heap.size w wr) (fun _ i _ => l.length - (intOf i).toNat)
  case atStart => exact ⟨0, 300, Nat.zero_le _, rfl, rfl, by omega, Below.refl _ _⟩
  case round =>
    obtain ⟨i, k, hi, rfl, rfl, hk, hb⟩ := hrel
    have hsz := hb.size
    by_cases hlt : i < l.length
    · have hzl : (i : Int) < (l.length : Int) := by omega
      have hz0 : (0 : Int) ≤ (i : Int) := by omega
      have w1 : IntKind.i64.wrap ((i : Int) + 1) = (i : Int) + 1 := wrap_in (by omega) (by omega)
      by_cases hk0 : k < 0
      · go_wp2_with (go_at_call 9; refine (unhide HA _ (Ly.keep (unhide HL) hb)).mono ?_; rintro r w1 ⟨rfl, b1⟩)
        go_ret
        exact ⟨rfl, below_next hb b1⟩
      · obtain ⟨g, off, rfl, hl⟩ := (unhide HC).resolve_left (by omega)
        obtain ⟨a0, a1, a2, a3, a4, q0, q1, q2, q3, q4, hv⟩ := hl.get i hlt
        have k0 := (hb.cell (cell_lt q0)).trans q0
        have k1 := (hb.cell (cell_lt q1)).trans q1
        have k2 := (hb.cell (cell_lt q2)).trans q2
        have k3 := (hb.cell (cell_lt q3)).trans q3
        have k4 := (hb.cell (cell_lt q4)).trans q4
        have CF := few_any _ k _ wr (hv.grow hb) (by omega) (by omega)
        have hfi := (fewE_in (l.getD i el0) k (by omega) (by omega)).2
        generalize fewE (l.getD i el0) k = k2' at *
        clear hv hl q0 q1 q2 q3 q4
        go_wp2_with (go_at_call 10; refine CF.mono ?_; rintro r w2 ⟨rfl, g2⟩)
        go_roundw
        case rel => exact ⟨i + 1, k2', by omega, rfl, by go_num, hfi, below_next hb g2.below⟩
        case measure => simp [intOf]; omega
    · have hzl : ¬ (i : Int) < (l.length : Int) := by omega
      by_cases hk0 : k < 0
      · go_wp2_with (go_at_call 9; refine (unhide HA _ (Ly.keep (unhide HL) hb)).mono ?_; rintro r w1 ⟨rfl, b1⟩)
        go_ret
        exact ⟨rfl, below_next hb b1⟩
      · have HB1 := hide hb
        have HSZ := hide hsz
        clear hb hsz
        go_wp2
        go_loopw [5] (fun vi wr => ∃ j : Nat, j ≤ l.length ∧ vi = .int .i64 (j : Int) ∧ Below w.heap.size w wr) (fun i _ => l.length - (intOf i).toNat)
        case atStart => exact ⟨0, Nat.zero_le _, rfl, unhide HB1⟩
        case round =>
          obtain ⟨j, hj, rfl, hb⟩ := hrel
          clear HB1 HSZ
          have hsz := hb.size
          by_cases hlt2 : j < l.length
          · have hzl2 : (j : Int) < (l.length : Int) := by omega
            have hz0 : (0 : Int) ≤ (j : Int) := by omega
            have w1 : IntKind.i64.wrap ((j : Int) + 1) = (j : Int) + 1 := wrap_in (by omega) (by omega)
            obtain ⟨g, off, rfl, hl⟩ := (unhide HC).resolve_left (by omega)
            obtain ⟨a0, a1, a2, a3, a4, q0, q1, q2, q3, q4, hv⟩ := hl.get j hlt2
            have k0 := (hb.cell (cell_lt q0)).trans q0
            have k1 := (hb.cell (cell_lt q1)).trans q1
            have k2 := (hb.cell (cell_lt q2)).trans q2
            have k3 := (hb.cell (cell_lt q3)).trans q3
            have k4 := (hb.cell (cell_lt q4)).trans q4
            have hvz := hv.grow hb
            have HL2 := hide (Ly.keep (unhide HL) hb)
            have HC1 := hide (fun (W : World) (b : Below wr.heap.size wr W) => bcheck_any (l.getD j el0) _ W (Ly.keep (unhide HL2) b) (hvz.grow b))
            have HC2 := hide (fun (W : World) (b : Below wr.heap.size wr W) => (rcheck15_any (l.getD j el0) _ W (hvz.grow b)).mono fun _ _ ⟨h1, h2⟩ => (⟨h1, h2.below⟩ : _ ∧ Below W.heap.size W _))
            have HD1 := hide (fun (W : World) (b : Below wr.heap.size wr W) => bdeep_any (l.getD j el0) _ W (Ly.keep (unhide HL2) b) (hvz.grow b))
            have HD2 := hide (fun (W : World) (b : Below wr.heap.size wr W) => (rDeep_any (l.getD j el0) _ W (hvz.grow b)).mono fun _ _ ⟨h1, h2⟩ => (⟨h1, h2.below⟩ : _ ∧ Below W.heap.size W _))
            generalize chkB (l.getD j el0) = x at *
            generalize ((deepE (l.getD j el0) 13 : Nat) : Int) = d at *
            have ex : (x == x) = true := by simp
            have ed : (d == d) = true := by simp
            clear hv hl q0 q1 q2 q3 q4 hvz
            go_wp2
            replace k0 := cell_bb k0
            replace k1 := cell_bb k1
            replace k2 := cell_bb k2
            replace k3 := cell_bb k3
            replace k4 := cell_bb k4
            refine wp_region_below (by first | exact mx | assumption) (by kernel_rfl) ?_
            intro nebb
            repeat (go_big_quiet_step (first | (go_at_call 11; exact callsBB (unhide HC1 _ (BB.b _))) | (go_at_call 12; exact callsBB (unhide HC2 _ (BB.b _))) | (go_at_call 13; exact callsBB (unhide HD1 _ (BB.b _))) | (go_at_call 14; exact callsBB (unhide HD2 _ (BB.b _)))))
            refine wpQuiet_nil ?_
            intro _ hw'
            obtain ⟨pq, hw''⟩ := hw'
            subst hw''
            have bq := pq.b
            generalize pq.W = wq at *
            go_wp2
            go_roundw
            case rel => exact ⟨j + 1, by omega, by go_num, below_next hb bq⟩
            case measure => simp [intOf]; omega
          · have hzl2 : ¬ (j : Int) < (l.length : Int) := by omega
            have HE1 := hide (bencode_any l _ wr (Ly.keep (unhide HL) hb) ((unhide HV).below hb))
            have HE2 := hide (fun (W : World) (b : Below wr.heap.size wr W) => rencode15_any l _ W (((unhide HV).below hb).below b))
            generalize encS l = S at *
            generalize encE l = x at *
            clear HC
            go_wp2_with (first
              | (go_at_call 9; refine (unhide HA _ (Ly.keep (unhide HL) t2)).mono ?_; rintro r w3 ⟨rfl, b3⟩)
              | (go_at_call 16; refine (unhide HE2 _ b1).mono ?_; rintro r w2 ⟨rfl, g2⟩; have t2 := below_next t1 g2.below)
              | (go_at_call 15; refine (unhide HE1).mono ?_; rintro r w1 ⟨rfl, b1⟩; have t1 := below_next hb b1))
            go_ret
            exact ⟨rfl, below_next t2 b3⟩
end Go.Proofs.Ytlhkplhfofkbbaa
