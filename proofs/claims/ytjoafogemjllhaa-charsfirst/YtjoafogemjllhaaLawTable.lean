/- The law CharsTable. -/
import Derived.Test.YtjoafogemjllhaaRTbl
import Derived.Test.YtjoafogemjllhaaFind
import Derived.Test.YtjoafogemjllhaaSame
import Derived.Test.YtjoafogemjllhaaLawKinds
namespace Go.Proofs.Ytjoafogemjllhaa
open Go.RowKit

theorem rowsT_chk : chk rowsT = 0 := by
  refine chk_ok (by rw [rowsT_len]; omega) ?_
  rw [rowsT_len]
  exact rowsT_ok


theorem tab_of {w : World} {B g cap : Nat} (h : w.ownsRow B 44 3 (.slice (some ⟨g, 0, none⟩) 106 cap) 106 (spcs rowsT)) : Tab w (.slice (some ⟨g, 0, none⟩) 106 cap) rowsT :=
  Ow.tab (B := B) (by unfold Ow; rw [rowsT_len]; exact h)

set_option maxHeartbeats 1600000 in
theorem table_law (r : Int) (w : World) :
    Calls Try.prog 5 #[.int .i32 r] w fun e w' => e = .returned (.bool true) ∧ Below w.heap.size w w' := by
  have H1 := hide (table_any w)
  have H2 := hide rtable_any
  have H3 : Hid (∀ (W : World) v1 v2, Tab W v1 rowsT → Tab W v2 rowsT → Calls Try.prog 19 #[v1, v2] W fun e w' => e = .returned (.bool true) ∧ Gr W w') := fun W v1 v2 h1 h2 => by
    have := rsame_any v1 v2 rowsT rowsT W h1 h2 (by rw [rowsT_len]; omega)
    rwa [eqL_true rfl] at this
  have H4 : Hid (∀ (W : World) v1, Tab W v1 rowsT → Calls Try.prog 21 #[v1, .int .i32 r] W fun e w' => e = .returned (.int .i64 (kd r)) ∧ Gr W w') := fun W v1 h1 => by
    have := rfind_any v1 rowsT r W h1 (by rw [rowsT_len]; omega)
    rwa [fndT_yes rowsT_chk r] at this
  have H5 := hide (kind_any r)
  have HA := hide awake_any
  generalize kd r = Y at *
  go_enter Try.func5, Try.ntmps5
  go_wp2_with (first
    | (go_at_call 18; refine (unhide H1).mono ?_; rintro e w1 ⟨g1, c1, rfl, ho1, hb1⟩; have HT1 := hide (tab_of ho1); clear ho1)
    | (go_at_call 20; refine (unhide H2 _).mono ?_; rintro e w2 ⟨g2, c2, rfl, ho2, hb2⟩; have HT2 := hide (tab_of ho2); have HT1' := hide ((unhide HT1).below hb2); have hb := below_on hb1 hb2; clear ho2 HT1)
    | (go_at_call 19; refine (unhide H3 _ _ _ (unhide HT1') (unhide HT2)).mono ?_; rintro e w3 ⟨rfl, gg⟩; replace hb := below_gr hb gg; have HT3 := hide (gg.tab (unhide HT1')); clear gg)
    | (go_at_call 21; refine (unhide H4 _ _ (unhide HT3)).mono ?_; rintro e w4 ⟨rfl, gg⟩; replace hb := below_gr hb gg; clear gg)
    | (go_at_call 8; refine (unhide H5 _).mono ?_; rintro e w5 ⟨rfl, gg⟩; replace hb := below_gr hb gg; clear gg)
    | (go_at_call 14; refine (unhide HA _).mono ?_; rintro e w6 ⟨rfl, gg⟩; replace hb := below_gr hb gg; clear gg))
  go_ret
  exact ⟨rfl, hb⟩
end Go.Proofs.Ytjoafogemjllhaa
