/- The law DnMoves of layer 18. -/
import Derived.Test.YtpfpaponlmfofaaDoorAw18
import Derived.Test.YtpfpaponlmfofaaDoorRMov18
import Derived.Test.YtpfpaponlmfofaaDoorDq18
import Derived.Test.YtpfpaponlmfofaaDoorFew18
namespace Go.Proofs.YtpfpaponlmfofaaDoor
set_option maxRecDepth 100000
open Go.RowKit

set_option maxHeartbeats 2000000 in
theorem moves18_law (va vb rv : Value) (a b : List (List Pr)) (r : List Pr) (w : World) (hL : Ly w) (hA : NmV w va a) (hB : NmV w vb b) (hR : PsV w rv r) : Calls Tryd.prog 5 #[va, vb, rv] w fun e w' => e = .returned (.bool true) ∧ Below w.heap.size w w' := by
  have CF := hide (few_any va a w hA)
  have CF2 := hide (few_any vb b w hB)
  have CG := hide (few_any _ [r] _ (one_nm hR 40))
  have CA := hide awake18
  have HL := hide hL
  have HA := hide hA
  have HB := hide hB
  have C1 := hide (fun W hb => above_any va a W (hA.below hb))
  have C2 := hide (fun W hb => rabove_any va a W (hA.below hb))
  have C3 := hide (fun W hb => below_any va rv a r W (hA.below hb) (hR.below hb))
  have C4 := hide (fun W hb => rbelow_any va rv a r W (hA.below hb) (hR.below hb))
  have C5 := hide (fun v u W h1 h2 => rsame_any v u (abN a) (abN a) W h1 h2)
  rw [(eqN_iff _ _).2 rfl] at C5
  have C6 := hide (fun v u W h1 h2 => rsame_any v u (blN a r) (blN a r) W h1 h2)
  rw [(eqN_iff _ _).2 rfl] at C6
  have C7 := hide (fun W hb => same_any va vb a b W (hA.below hb) (hB.below hb))
  have C8 := hide (fun W hb => rsame_any va vb a b W (hA.below hb) (hB.below hb))
  obtain ⟨ra, rc, hrv⟩ := hR.shape
  subst hrv
  clear hL hA hB hR HA HB
  have b0 := Below.one w (.cells #[.slice ra r.length rc] 40)
  cases hf : fewN a <;> rw [hf] at CF
  · clear hf CF2 CG C1 C2 C3 C4 C5 C6 C7 C8
    go_enter Tryd.func5, Tryd.ntmps5
    go_wp2_with (first
      | (go_at_call 10; refine (unhide CA _ (unhide HL)).mono ?_; rintro e w5 ⟨rfl, b5⟩)
      | (go_at_call 9; refine (unhide CF).mono ?_; rintro e w1 ⟨rfl, rfl⟩))
    go_ret
    exact ⟨rfl, b5⟩
  clear hf
  cases hf : fewN b <;> rw [hf] at CF2
  · clear hf CG C1 C2 C3 C4 C5 C6 C7 C8
    go_enter Tryd.func5, Tryd.ntmps5
    go_wp2_with (first
      | (go_at_call 10; refine (unhide CA _ (unhide HL)).mono ?_; rintro e w5 ⟨rfl, b5⟩)
      | (go_at_call 9; have M2 := F1; refine (unhide CF2).mono ?_; rintro e w1 ⟨rfl, rfl⟩)
      | (go_at_call 9; refine (unhide CF).mono ?_; rintro e w1 ⟨rfl, rfl⟩; have F1 := trivial))
    go_ret
    exact ⟨rfl, b5⟩
  clear hf
  cases hf : fewN [r] <;> rw [hf] at CG
  · clear hf C1 C2 C3 C4 C5 C6 C7 C8
    go_enter Tryd.func5, Tryd.ntmps5
    go_wp2_with (first
      | (go_at_call 10; refine (unhide CA _ ((unhide HL).keep b0)).mono ?_; rintro e w5 ⟨rfl, b5⟩; have bb := b0.trans (b5.mono b0.size))
      | (go_at_call 9; have M3 := F2; refine (unhide CG).mono ?_; rintro e w1 ⟨rfl, rfl⟩)
      | (go_at_call 9; have M2 := F1; refine (unhide CF2).mono ?_; rintro e w1 ⟨rfl, rfl⟩; have F2 := trivial)
      | (go_at_call 9; refine (unhide CF).mono ?_; rintro e w1 ⟨rfl, rfl⟩; have F1 := trivial))
    go_ret
    exact ⟨rfl, bb⟩
  clear hf
  generalize abN a = ya at *
  generalize blN a r = yb at *
  generalize abB a = p at *
  generalize blE a r = q at *
  generalize eqN a b = x at *
  go_enter Tryd.func5, Tryd.ntmps5
  go_wp2_with (first
    | (go_at_call 10; refine (unhide CA _ ((unhide HL).keep b9)).mono ?_; rintro e w10 ⟨rfl, b10⟩; have bb := b9.trans (b10.mono b9.size))
    | (go_at_call 21; have M9 := F8; refine (unhide C8 _ b8).mono ?_; rintro e w9 ⟨rfl, g9⟩; have b9 := b8.trans (g9.below.mono b8.size))
    | (go_at_call 26; refine (unhide C7 _ b7).mono ?_; rintro e w8 ⟨rfl, g8⟩; have b8 := b7.trans (g8.below.mono b7.size); have F8 := trivial)
    | (go_at_call 21; have M7 := F6; refine (unhide C6 _ _ _ (unhide H4b) (unhide H5b)).mono ?_; rintro e w7 ⟨rfl, g7⟩; have b7 := b6.trans (g7.below.mono b6.size))
    | (go_at_call 21; refine (unhide C5 _ _ _ (unhide H2b) (unhide H3b)).mono ?_; rintro e w6 ⟨rfl, g6⟩; have b6 := b5.trans (g6.below.mono b5.size); have H4b := hide ((unhide H4a).below g6.below); have H5b := hide ((unhide H5).below g6.below); have F6 := trivial)
    | (go_at_call 25; refine (unhide C4 _ b4).mono ?_; rintro e w5 ⟨v5, rfl, h5, b45⟩; have H5 := hide h5; clear h5; have b5 := b4.trans (b45.mono b4.size); have H4a := hide ((unhide H4).below b45); have H2b := hide ((unhide H2a).below (b34.trans (b45.mono b34.size))); have H3b := hide ((unhide H3).below (b34.trans (b45.mono b34.size))))
    | (go_at_call 24; refine (unhide C3 _ b3).mono ?_; rintro e w4 ⟨v4, rfl, h4, b34⟩; have H4 := hide h4; clear h4; have b4 := b3.trans (b34.mono b3.size))
    | (go_at_call 23; refine (unhide C2 _ b2).mono ?_; rintro e w3 ⟨v3, rfl, h3, b23⟩; have H3 := hide h3; clear h3; have b3 := b2.trans (b23.mono b2.size); have H2a := hide ((unhide H2).below b23))
    | (go_at_call 22; refine (unhide C1 _ b0).mono ?_; rintro e w2 ⟨v2, rfl, h2, b12⟩; have H2 := hide h2; clear h2; have b2 := b0.trans (b12.mono b0.size))
    | (go_at_call 9; have M3 := F2; refine (unhide CG).mono ?_; rintro e w1 ⟨rfl, rfl⟩)
    | (go_at_call 9; have M2 := F1; refine (unhide CF2).mono ?_; rintro e w1 ⟨rfl, rfl⟩; have F2 := trivial)
    | (go_at_call 9; refine (unhide CF).mono ?_; rintro e w1 ⟨rfl, rfl⟩; have F1 := trivial))
  go_ret
  exact ⟨rfl, bb⟩
end Go.Proofs.YtpfpaponlmfofaaDoor
