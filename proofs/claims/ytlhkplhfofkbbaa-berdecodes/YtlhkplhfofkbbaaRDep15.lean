/- The document's Deep of layer 15. -/
import Derived.Test.YtlhkplhfofkbbaaProg
import Derived.Test.YtlhkplhfofkbbaaEl
import Derived.Test.YtlhkplhfofkbbaaRn
namespace Go.Proofs.Ytlhkplhfofkbbaa
open Go.RowKit

set_option maxHeartbeats 1600000 in
theorem rdeep_any (e : El) : ∀ (k : Nat) (v : Value) (w : World), ElV w e v → 1 ≤ k → k ≤ 1000 → Calls Try.prog 28 #[v, .int .i64 k] w fun r w' => r = .returned (.int .i64 (deepE e k)) ∧ Gr w w' := by
  induction e using El.ind with
  | h c m n s els ih =>
    intro k v w hV hk1 hk2
    simp only [ElV] at hV
    obtain ⟨ad, cap, rfl, hn, hc⟩ := hV
    have HIH := hide ih
    have HD : Hid (deepE (.mk c m n s els) k = (if 1 < k then deepE.L els (k - 1) else 0) + 1) := by show _ = _; simp only [deepE]
    clear ih
    by_cases hz : els.length = 0 ∨ k = 1
    · have HE : Hid (deepE (.mk c m n s els) k = 1) := by
        show _ = _
        rw [unhide HD]
        rcases hz with h0 | h0
        · rw [List.eq_nil_of_length_eq_zero h0]; simp [deepE.L]
        · rw [if_neg (by omega)]
      clear HD hc
      by_cases h0 : els.length = 0
      · rw [h0]
        go_enter Try.func28, Try.ntmps28
        go_wp2
        refine wp_loop_rounds 1 ?_
        rw [rounds_succ]
        go_wp2
        go_ret
        exact ⟨ret_int (by rw [unhide HE]; rfl), Gr.one w _⟩
      · have k1 : k = 1 := by omega
        subst k1
        have z1 : (0 : Int) < (els.length : Int) := by omega
        go_enter Try.func28, Try.ntmps28
        go_wp2
        refine wp_loop_rounds 1 ?_
        rw [rounds_succ]
        go_wp2
        go_ret
        exact ⟨ret_int (by rw [unhide HE]; rfl), Gr.one w _⟩
    · have h0 : ¬ els.length = 0 := fun h => hz (.inl h)
      have hk : 1 < k := by omega
      obtain ⟨g, off, rfl, hl⟩ := hc.resolve_left h0
      have HL := hide hl
      have zk : (1 : Int) < (k : Int) := by omega
      have wk : IntKind.i64.wrap ((k : Int) - 1) = ((k - 1 : Nat) : Int) := (wrap_in (by omega) (by omega)).trans (by omega)
      clear hl hz hc
      go_enter Try.func28, Try.ntmps28
      go_wp2
      go_loopw [5, 6] (fun vb vi wr => ∃ (i b : Nat), i ≤ els.length ∧ vi = .int .i64 (i : Int) ∧ vb = .int .i64 (b : Int) ∧ b ≤ k - 1 ∧ Hid (deepE.L els (k - 1) = max b (deepE.L (els.drop i) (k - 1))) ∧ Gr (w.alloc (.cells #[.int .i64 c, .bool m, .int .i64 n, .string s, .slice (some ⟨g, off, none⟩) els.length cap] 26)) wr) (fun _ i _ => els.length - (intOf i).toNat)
      case atStart => exact ⟨0, 0, Nat.zero_le _, rfl, rfl, Nat.zero_le _, (by show _ = _; simp), Gr.refl _⟩
      case round =>
        obtain ⟨i, b, hi, rfl, rfl, hb, HB, hnx⟩ := hrel
        obtain ⟨b0, b1, b2, b3, b4⟩ := box5 hnx
        by_cases hlt : i < els.length
        · have hzl : (i : Int) < (els.length : Int) := by omega
          have hz0 : (0 : Int) ≤ (i : Int) := by omega
          have gw := (Gr.one w _).trans hnx
          obtain ⟨a0, a1, a2, a3, a4, q0, q1, q2, q3, q4, hv⟩ := (unhide HL).get i hlt
          have k0 := gw.cell q0
          have k1 := gw.cell q1
          have k2 := gw.cell q2
          have k3 := gw.cell q3
          have k4 := gw.cell q4
          have CI := unhide HIH _ (getD_mem els i hlt) (k - 1) _ wr (hv.grow gw.below) (by omega) (by omega)
          have hdl := deepE_le (els.getD i el0) (k - 1) (by omega)
          have HS : Hid (deepE.L (els.drop i) (k - 1) = max (deepE (els.getD i el0) (k - 1)) (deepE.L (els.drop (i + 1)) (k - 1))) := by show _ = _; rw [drop_cons els i hlt]; simp only [deepE.L]
          clear q0 q1 q2 q3 q4 hv
          generalize deepE (els.getD i el0) (k - 1) = d at *
          generalize ((k - 1 : Nat) : Int) = kk at *
          by_cases hd : b < d
          · have hdz : (b : Int) < (d : Int) := by omega
            go_wp2_with (go_at_call 28; refine CI.mono ?_; rintro e w2 ⟨rfl, g2⟩)
            go_roundw
            case rel => exact ⟨i + 1, d, by omega, by go_num, rfl, hdl, (by show _ = _; rw [unhide HB, unhide HS]; omega), hnx.trans g2⟩
            case measure => simp [intOf]; omega
          · have hdz : ¬ (b : Int) < (d : Int) := by omega
            go_wp2_with (go_at_call 28; refine CI.mono ?_; rintro e w2 ⟨rfl, g2⟩)
            go_roundw
            case rel => exact ⟨i + 1, b, by omega, by go_num, rfl, hb, (by show _ = _; rw [unhide HB, unhide HS]; omega), hnx.trans g2⟩
            case measure => simp [intOf]; omega
        · have hzl : ¬ (i : Int) < (els.length : Int) := by omega
          have wb : IntKind.i64.wrap ((b : Int) + 1) = (b : Int) + 1 := wrap_in (by omega) (by omega)
          have HE : Hid (deepE.L els (k - 1) = b) := by
            show _ = _
            rw [unhide HB, List.drop_eq_nil_of_le (by omega)]
            simp [deepE.L]
          go_wp2
          go_ret
          exact ⟨ret_int (by rw [unhide HD, if_pos hk, unhide HE]; rfl), (Gr.one w _).trans hnx⟩
end Go.Proofs.Ytlhkplhfofkbbaa
