/- The law CharsSome. -/
import Derived.Test.YtjoafogemjllhaaSame1
import Derived.Test.YtjoafogemjllhaaLawKinds
namespace Go.Proofs.Ytjoafogemjllhaa
open Go.RowKit

set_option maxHeartbeats 1600000 in
theorem some_law (q n : Int) (w : World) :
    Calls Try.prog 4 #[.int .i64 q, .int .i64 n] w fun e w' => e = .returned (.bool true) ∧ Below w.heap.size w w' := by
  have H1 := hide (some_any q n w)
  have H2 := hide (rsome_any q n)
  have hlen := someL_len q n
  have H3 := hide (fun W v1 v2 h1 h2 => same_any v1 v2 (someL q n) W (by omega) h1 h2)
  have HA := hide awake_any
  generalize someL q n = zs at *
  go_enter Try.func4, Try.ntmps4
  go_wp2_with (first
    | (go_at_call 16; refine (unhide H1).mono ?_; rintro e w1 ⟨v1, rfl, ho1, hb1⟩; have HT1 := hide ho1.row; clear ho1)
    | (go_at_call 17; refine (unhide H2 _).mono ?_; rintro e w2 ⟨v2, rfl, ho2, hb2⟩; have HT2 := hide ho2.row; have HT1' := hide ((unhide HT1).below hb2); have hb := below_on hb1 hb2; clear ho2 HT1)
    | (go_at_call 15; refine (unhide H3 _ _ _ (unhide HT1') (unhide HT2)).mono ?_; rintro e w3 ⟨rfl, gg⟩; replace hb := below_on hb gg; clear gg)
    | (go_at_call 14; refine (unhide HA _).mono ?_; rintro e w6 ⟨rfl, gg⟩; replace hb := below_gr hb gg; clear gg))
  go_ret
  exact ⟨rfl, hb⟩
end Go.Proofs.Ytjoafogemjllhaa
