/- The law ArrangeRuns. -/
import Derived.Test.YtlbigebaepecpaaLaw6
namespace Go.Proofs.Ytlbigebaepecpaa
open Go.RowKit
open Go.Sort (grow)

theorem rows_len (rs : List (List Int)) (h : ∀ r, r ∈ rs → r ≠ []) : rs.length ≤ rs.flatten.length := by
  induction rs with
  | nil => simp
  | cons r rs ih =>
    have := ih fun q hq => h q (by simp [hq])
    have h1 : 0 < r.length := List.length_pos_iff.2 (h r (by simp))
    simp only [List.length_cons, List.flatten_cons, List.length_append]
    omega
theorem row_len (rs : List (List Int)) (i : Nat) : (rs.getD i []).length ≤ rs.flatten.length := by
  induction rs generalizing i with
  | nil => simp
  | cons r rs ih =>
    cases i with
    | zero => simp [List.getD]
    | succ i =>
      have := ih i
      simp only [List.getD_cons_succ, List.flatten_cons, List.length_append]
      omega
theorem runs_cnt (l : List Int) : (runsL cls l).length ≤ l.length := by
  have h := rows_len (runsL cls l) fun r hr => ((runs_runny (c := cls) l).1 r hr).1
  rwa [runs_flat] at h
theorem run_len (l : List Int) (i : Nat) : ((runsL cls l).getD i []).length ≤ l.length := by
  have h := row_len (runsL cls l) i
  rwa [runs_flat] at h

set_option maxHeartbeats 3200000 in
theorem runs6_law (a : Option Addr) (cap : Nat) (l : List Int) (w : World) (hL : Ly w) (hr : Row w (.slice a l.length cap) l) : Calls Try.prog 4 #[.slice a l.length cap] w fun e w' => e = .returned (.bool true) ∧ Below w.heap.size w w' := by
  have HA := hide awake6
  have mx := mixed
  by_cases hlen : 400 < l.length
  · have hz : (400 : Int) < (l.length : Int) := by omega
    go_enter Try.func4, Try.ntmps4
    go_wp2_with (go_at_call 7; refine (unhide HA _ hL).mono ?_; rintro e w5 ⟨rfl, b5⟩)
    go_ret
    exact ⟨rfl, b5⟩
  · have hz : ¬ (400 : Int) < (l.length : Int) := by omega
    have hn := runs_cnt l
    have hi := run_len l
    have H1 := hide (fun W hW hR => aruns_any (.slice a l.length cap) l W hW (by omega) hR)
    have H2 := hide (fun W hR => rruns_any (.slice a l.length cap) l W (by omega) hR)
    have HR := hide hr
    clear hr
    generalize runsL cls l = rs at *
    have HI := hide hi
    clear hi
    go_enter Try.func4, Try.ntmps4
    go_wp2_with (first
      | (go_at_call 13; refine (unhide H1 _ hL (unhide HR)).mono ?_; rintro e w1 ⟨v1, rfl, r1, b1⟩; have hL1 := hL.keep b1; have HR1 := hide ((unhide HR).below b1))
      | (go_at_call 14; refine (unhide H2 _ (unhide HR1)).mono ?_; rintro e w2 ⟨v2, rfl, r2, b2⟩; have c2 := b1.trans (b2.mono b1.size); have r12 := r1.below b2; have hL2 := hL.keep c2; clear r1; obtain ⟨xa, xc, rfl, hc⟩ := r12; obtain ⟨ya, yc, rfl, hd⟩ := r2; have HC := hide hc; have HD := hide hd; clear hc hd))
    go_loopw [5] (fun y wr => ∃ k : Nat, k ≤ rs.length ∧ y = .int .i64 (k : Int) ∧ Gr w2 wr) (fun y _ => rs.length - (intOf y).toNat)
    case atStart => exact ⟨0, Nat.zero_le _, rfl, Gr.refl _⟩
    case round =>
      obtain ⟨k, hk, rfl, hg⟩ := hrel
      by_cases hlt : k < rs.length
      · obtain ⟨b, o, rfl, hcc⟩ := unhide HC (by omega)
        obtain ⟨p, q, rfl, hdd⟩ := unhide HD (by omega)
        obtain ⟨g5, o5, c5, m1, m2⟩ := hcc k hlt
        obtain ⟨g6, o6, c6, n1, n2⟩ := hdd k hlt
        clear hcc hdd
        have hzl : (k : Int) < (rs.length : Int) := by omega
        have hz0 : (0 : Int) ≤ (k : Int) := by omega
        have g1 := cell_gr (hg.cell m1)
        have g2 := cell_gr (hg.cell n1)
        have hil := unhide HI k
        clear m1 n1
        generalize rs.getD k [] = r at *
        have HS : Hid (∀ W, Gr w2 W → Calls Try.prog 8 #[.slice (some ⟨g5, o5, none⟩) r.length c5, .slice (some ⟨g6, o6, none⟩) r.length c6] W fun e w' => e = .returned (.bool true) ∧ Gr W w') := fun W hW =>
          same_any_g _ _ r W (by omega) ⟨_, _, rfl, fun _ => ⟨g5, o5, rfl, fun j hj => hW.cell (m2 j hj)⟩⟩ ⟨_, _, rfl, fun _ => ⟨g6, o6, rfl, fun j hj => hW.cell (n2 j hj)⟩⟩
        clear m2 n2 hil
        generalize r.length = R at *
        go_wp2
        refine wp_region_quiet_grown (by first | exact mx | assumption) (by kernel_rfl) ?_
        repeat (go_big_quiet_step ((go_at_call 8; exact callsGr (unhide HS _ (hg.grow _ _)))))
        refine wpQuiet_nil ?_
        intro _ hw'
        obtain ⟨⟨nq, osq⟩, hw''⟩ := hw'
        subst hw''
        go_wp2
        go_roundw
        case rel => exact ⟨k + 1, by omega, by go_num, hg.grow _ _⟩
        case measure => simp [intOf]; omega
      · have hzl : ¬ (k : Int) < (rs.length : Int) := by omega
        have hb := c2.trans (hg.below.mono c2.size)
        have hL3 := hL.keep hb
        go_wp2_with (go_at_call 7; refine (unhide HA _ hL3).mono ?_; rintro e w6 ⟨rfl, b6⟩; have c6 := hb.trans (b6.mono hb.size))
        go_ret
        exact ⟨rfl, c6⟩
end Go.Proofs.Ytlbigebaepecpaa
