/- The law CharsKinds. -/
import Derived.Test.YtjoafogemjllhaaRef2
import Derived.Test.YtjoafogemjllhaaAwake
namespace Go.Proofs.Ytjoafogemjllhaa
open Go.RowKit

theorem below_gr {w a b : World} (h : Below w.heap.size w a) (g : Gr a b) : Below w.heap.size w b := h.trans (g.below.mono h.size)
theorem below_on {w a b : World} (h : Below w.heap.size w a) (g : Below a.heap.size a b) : Below w.heap.size w b := h.trans (g.mono h.size)

set_option maxHeartbeats 1600000 in
theorem kinds_law (r : Int) (v : Value) (zs : List Int) (w : World) (hI : Ints w v zs) :
    Calls Try.prog 3 #[.int .i32 r, v] w fun e w' => e = .returned (.bool true) ∧ Below w.heap.size w w' := by
  have H1 := hide (kind_any r)
  have H2 := hide (rkind_any r)
  have H5 := hide (class_any r)
  have H6 := hide (rclass_any r)
  have HA := hide awake_any
  have hb := Below.refl w.heap.size w
  by_cases hl : zs.length ≤ 10000
  · have H3 := hide (fun W (hW : Below w.heap.size w W) => is_any r v zs W (hI.below hW) hl)
    have H4 := hide (fun W (hW : Below w.heap.size w W) => ris_any r v zs W (hI.below hW) hl)
    obtain ⟨a, c, rfl, -⟩ := hI
    generalize decide (kd r ∈ zs) = X at *
    generalize cls r = Z at *
    generalize kd r = Y at *
    have hz : ¬ (10000 : Int) < (zs.length : Int) := by omega
    go_enter Try.func3, Try.ntmps3
    go_wp2_with (first
      | (go_at_call 8; refine (unhide H1 _).mono ?_; rintro e w1 ⟨rfl, g1⟩; replace hb := below_gr hb g1; clear g1)
      | (go_at_call 9; refine (unhide H2 _).mono ?_; rintro e w1 ⟨rfl, g1⟩; replace hb := below_on hb g1; clear g1)
      | (go_at_call 10; refine (unhide H3 _ hb).mono ?_; rintro e w1 ⟨rfl, g1⟩; replace hb := below_gr hb g1; clear g1)
      | (go_at_call 11; refine (unhide H4 _ hb).mono ?_; rintro e w1 ⟨rfl, g1⟩; replace hb := below_on hb g1; clear g1)
      | (go_at_call 12; refine (unhide H5 _).mono ?_; rintro e w1 ⟨rfl, g1⟩; replace hb := below_gr hb g1; clear g1)
      | (go_at_call 13; refine (unhide H6 _).mono ?_; rintro e w1 ⟨rfl, g1⟩; replace hb := below_on hb g1; clear g1)
      | (go_at_call 14; refine (unhide HA _).mono ?_; rintro e w1 ⟨rfl, g1⟩; replace hb := below_gr hb g1; clear g1))
    go_ret
    exact ⟨rfl, hb⟩
  · obtain ⟨a, c, rfl, -⟩ := hI
    generalize cls r = Z at *
    generalize kd r = Y at *
    have hz : (10000 : Int) < (zs.length : Int) := by omega
    go_enter Try.func3, Try.ntmps3
    go_wp2_with (first
      | (go_at_call 8; refine (unhide H1 _).mono ?_; rintro e w1 ⟨rfl, g1⟩; replace hb := below_gr hb g1; clear g1)
      | (go_at_call 9; refine (unhide H2 _).mono ?_; rintro e w1 ⟨rfl, g1⟩; replace hb := below_on hb g1; clear g1)
      | (go_at_call 12; refine (unhide H5 _).mono ?_; rintro e w1 ⟨rfl, g1⟩; replace hb := below_gr hb g1; clear g1)
      | (go_at_call 13; refine (unhide H6 _).mono ?_; rintro e w1 ⟨rfl, g1⟩; replace hb := below_on hb g1; clear g1)
      | (go_at_call 14; refine (unhide HA _).mono ?_; rintro e w1 ⟨rfl, g1⟩; replace hb := below_gr hb g1; clear g1))
    go_ret
    exact ⟨rfl, hb⟩
end Go.Proofs.Ytjoafogemjllhaa
