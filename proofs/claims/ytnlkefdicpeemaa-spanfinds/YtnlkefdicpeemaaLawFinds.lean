/- The law SpanFinds. -/
import Derived.Test.YtnlkefdicpeemaaAwake
namespace Go.Proofs.Ytnlkefdicpeemaa
open Go.RowKit

set_option maxHeartbeats 1600000 in
theorem finds_law (v : Value) (l : List Sp) (r q : Int) (w : World) (hT : Tab w v l) :
    Calls Try.prog 3 #[v, .int .i32 r, .int .i64 q] w fun e w' => e = .returned (.bool true) ∧ Below w.heap.size w w' := by
  have H1 := hide (fun W (hW : Gr w W) => check_any v l W (hW.tab hT))
  have H2 := hide (fun W (hW : Gr w W) => rcheck_any v l W (hW.tab hT))
  have H3 := hide (fun W (hW : Gr w W) => find_any v l r W (hW.tab hT))
  have H5 := hide (fun W (hW : Gr w W) => count_any v l q W (hW.tab hT))
  have H6 := hide (fun W (hW : Gr w W) => rcount_any v l q W (hW.tab hT))
  have HA := hide awake_any
  by_cases hl : l.length ≤ 700
  · have H4 := hide (fun W (hW : Gr w W) => rfind_any v l r W (hW.tab hT) hl)
    obtain ⟨a, c, rfl, -⟩ := hT
    generalize chk l = X at *
    generalize fndT l r = Y at *
    generalize cntT l q = Z at *
    have hz : ¬ (700 : Int) < (l.length : Int) := by omega
    go_enter Try.func3, Try.ntmps3
    go_wp2_with (first
      | (go_at_call 9; refine (unhide H1 _ (Gr.refl _)).mono ?_; rintro e w1 ⟨rfl, g1⟩)
      | (go_at_call 10; refine (unhide H2 _ g1).mono ?_; rintro e w2 ⟨rfl, g2⟩; replace g2 := g1.trans g2)
      | (go_at_call 11; refine (unhide H3 _ g2).mono ?_; rintro e w3 ⟨rfl, g3⟩; replace g3 := g2.trans g3)
      | (go_at_call 12; refine (unhide H4 _ g3).mono ?_; rintro e w4 ⟨rfl, g4⟩; replace g4 := g3.trans g4)
      | (go_at_call 13; refine (unhide H5 _ g4).mono ?_; rintro e w5 ⟨rfl, g5⟩; replace g5 := g4.trans g5)
      | (go_at_call 14; refine (unhide H6 _ g5).mono ?_; rintro e w6 ⟨rfl, g6⟩; replace g6 := g5.trans g6)
      | (go_at_call 8; refine (unhide HA _).mono ?_; rintro e w7 ⟨rfl, hb7⟩))
    go_ret
    exact ⟨rfl, g6.below.trans (hb7.mono g6.size)⟩
  · obtain ⟨a, c, rfl, -⟩ := hT
    have hz : (700 : Int) < (l.length : Int) := by omega
    clear H1 H2 H3 H5 H6
    go_enter Try.func3, Try.ntmps3
    go_wp2_with (go_at_call 8; refine (unhide HA _).mono ?_; rintro e w7 ⟨rfl, hb7⟩)
    go_ret
    exact ⟨rfl, hb7⟩
end Go.Proofs.Ytnlkefdicpeemaa
