/- Stage 15: BerDecodes, over the contracts. -/
import Derived.Test.YtlhkplhfofkbbaaLaw15a
import Derived.Test.YtlhkplhfofkbbaaTakeK15
namespace Go.Proofs.Ytlhkplhfofkbbaa
open Go.RowKit

set_option maxHeartbeats 1600000 in
theorem decodes15_law (s : ByteArray) (at_ : Int) (w : World) (hL : Ly w) (h0 : -9223372036854775808 ≤ at_) (h1 : at_ ≤ 9223372036854775807) : Calls Try.prog 4 #[.string s, .int .i64 at_] w fun e w' => e = .returned (.bool true) ∧ Below w.heap.size w w' := by
  by_cases h8 : 8000 < s.size
  · have z : (8000 : Int) < (s.size : Int) := by omega
    have HA := awake15 w hL
    go_enter Try.func4, Try.ntmps4
    go_wp2_with (go_at_call 9; refine HA.mono ?_; rintro r w1 ⟨rfl, b1⟩)
    go_ret
    exact ⟨rfl, b1⟩
  · have z : ¬ (8000 : Int) < (s.size : Int) := by omega
    have H1 := hide (bdecode_any s at_ w hL (by omega) h0 h1)
    have H2 := hide (fun w2 => rdecode_any s at_ w2 (by omega) h0 h1)
    have HA := hide awake15
    have HL := hide hL
    clear hL h0 h1
    generalize (decB (nums s) at_).2.1 = tq at *
    generalize (decB (nums s) at_).2.2 = x at *
    generalize (decB (nums s) at_).1 = e at *
    have HS := hide (rsame_any e)
    go_enter Try.func4, Try.ntmps4
    go_wp2_with (first
      | (go_at_call 9; refine (unhide HA _ (Ly.keep (unhide HL) t3)).mono ?_; rintro r w4 ⟨rfl, b4⟩)
      | (go_at_call 19; refine (unhide HS _ _ _ (e1.grow (below_next (Below.one w1 (bxE e ad1 cap1)) c2)) (e2.grow (Below.one w2 (bxE e ad2 cap2)))).mono ?_; rintro r w3 ⟨rfl, g3⟩; have t3 := below_next t2 g3.below)
      | (go_at_call 18; refine (unhide H2 _).mono ?_; rintro r w2 ⟨v2, rfl, p2, b2⟩; obtain ⟨ad2, cap2, rfl⟩ := p2.shape; have e2 := ElP.toV _ _ p2; have c2 := below_one b2 (bxE e ad2 cap2); have t2 := below_next t1 c2; have k0 := (c2.cell (cell_lt q0)).trans q0; have k1 := (c2.cell (cell_lt q1)).trans q1; have k2 := (c2.cell (cell_lt q2)).trans q2; have k3 := (c2.cell (cell_lt q3)).trans q3; have k4 := (c2.cell (cell_lt q4)).trans q4)
      | (go_at_call 17; refine (unhide H1).mono ?_; rintro r w1 ⟨v1, rfl, p1, b1⟩; obtain ⟨ad1, cap1, rfl⟩ := p1.shape; have e1 := ElP.toV _ _ p1; have t1 := below_one b1 (bxE e ad1 cap1); obtain ⟨q0, q1, q2, q3, q4⟩ := bxE_cells w1 e ad1 cap1))
    go_ret
    exact ⟨rfl, below_next t3 b4⟩
end Go.Proofs.Ytlhkplhfofkbbaa
