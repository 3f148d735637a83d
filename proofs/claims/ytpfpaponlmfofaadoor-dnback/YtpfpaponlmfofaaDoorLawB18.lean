/- The law DnBack of layer 18. -/
import Derived.Test.YtpfpaponlmfofaaDoorAw18
import Derived.Test.YtpfpaponlmfofaaDoorDq18
import Derived.Test.YtpfpaponlmfofaaDoorBnd18
import Derived.Test.YtpfpaponlmfofaaDoorFew18
namespace Go.Proofs.YtpfpaponlmfofaaDoor
set_option maxRecDepth 100000
open Go.RowKit

set_option maxHeartbeats 3200000 in
theorem back18_law (v : Value) (n : List (List Pr)) (w : World) (hL : Ly w) (hV : NmV w v n) : Calls Tryd.prog 6 #[v] w fun e w' => e = .returned (.bool true) ∧ Below w.heap.size w w' := by
  have CF := hide (few_any v n w hV)
  have CA := hide awake18
  have HL := hide hL
  have HV := hide hV
  have C2 := hide (show_any v n w hV)
  clear hL hV
  cases hf : fewN n <;> rw [hf] at CF
  · clear hf C2 HV
    go_enter Tryd.func6, Tryd.ntmps6
    go_wp2_with (first
      | (go_at_call 10; refine (unhide CA _ (unhide HL)).mono ?_; rintro e w5 ⟨rfl, b5⟩)
      | (go_at_call 9; refine (unhide CF).mono ?_; rintro e w1 ⟨rfl, rfl⟩))
    go_ret
    exact ⟨rfl, b5⟩
  clear hf
  cases hk : okN n
  · rw [shS_no hk, chk_no hk] at C2
    have C4 := hide (fun v W h => check_any v n W h)
    rw [chk_no hk] at C4
    clear hk
    go_enter Tryd.func6, Tryd.ntmps6
    go_wp2_with (first
      | (go_at_call 10; refine (unhide CA _ ((unhide HL).keep b3)).mono ?_; rintro e w5 ⟨rfl, b5⟩; have bb := b3.trans (b5.mono b3.size))
      | (go_at_call 13; refine (unhide C4 _ _ ((unhide HV).below b2)).mono ?_; rintro e w3 ⟨rfl, g3⟩; have b3 := b2.trans (g3.below.mono b2.size))
      | (go_at_call 11; refine (unhide C2).mono ?_; rintro e w2 ⟨rfl, b2⟩)
      | (go_at_call 9; refine (unhide CF).mono ?_; rintro e w1 ⟨rfl, rfl⟩))
    go_ret
    exact ⟨rfl, bb⟩
  rw [shS_yes hk, chk_yes hk] at C2
  have C3 := hide (fun W h => parse_any (strOfNums (shN true n)) W h)
  rw [nums_strOfNums _ (shN_by n true)] at C3
  have hsz : (strOfNums (shN true n)).size = (shN true n).length := strOfNums_size _
  by_cases hl : 3000 < (shN true n).length
  · have z : 3000 < ((strOfNums (shN true n)).size : Int) := by rw [hsz]; omega
    obtain ⟨e1, e2⟩ := par_long hl
    rw [e1, e2] at C3
    clear hk hsz hl e1 e2
    generalize strOfNums (shN true n) = t at *
    go_enter Tryd.func6, Tryd.ntmps6
    go_wp2_with (first
      | (go_at_call 10; refine (unhide CA _ ((unhide HL).keep b3)).mono ?_; rintro e w5 ⟨rfl, b5⟩; have bb := b3.trans (b5.mono b3.size))
      | (go_at_call 17; refine (unhide C3 _ ((unhide HL).keep b2)).mono ?_; rintro e w3 ⟨v3, rfl, h3, b3'⟩; obtain ⟨a3, c3, rfl⟩ := h3.shape; clear h3; have b3 := b2.trans (b3'.mono b2.size))
      | (go_at_call 11; refine (unhide C2).mono ?_; rintro e w2 ⟨rfl, b2⟩)
      | (go_at_call 9; refine (unhide CF).mono ?_; rintro e w1 ⟨rfl, rfl⟩))
    go_ret
    exact ⟨rfl, bb⟩
  · have z : ¬ 3000 < ((strOfNums (shN true n)).size : Int) := by rw [hsz]; omega
    obtain ⟨e1, e2⟩ := par_back hk (by omega)
    rw [e1, e2] at C3
    have C5 := hide (fun v u W h1 h2 => rsame_any v u n n W h1 h2)
    rw [(eqN_iff n n).2 rfl] at C5
    have C6 := hide (fun v u W h1 h2 => same_any v u n n W h1 h2)
    rw [(eqN_iff n n).2 rfl] at C6
    clear hk hsz hl e1 e2
    generalize strOfNums (shN true n) = t at *
    go_enter Tryd.func6, Tryd.ntmps6
    go_wp2_with (first
      | (go_at_call 10; refine (unhide CA _ ((unhide HL).keep b5)).mono ?_; rintro e w6 ⟨rfl, b6⟩; have bb := b5.trans (b6.mono b5.size))
      | (go_at_call 26; refine (unhide C6 _ _ _ ((unhide HV3).below g4.below) ((unhide HV).below b4)).mono ?_; rintro e w5 ⟨rfl, g5⟩; have b5 := b4.trans (g5.below.mono b4.size))
      | (go_at_call 21; refine (unhide C5 _ _ _ (unhide HV3) ((unhide HV).below b3)).mono ?_; rintro e w4 ⟨rfl, g4⟩; have b4 := b3.trans (g4.below.mono b3.size))
      | (go_at_call 17; refine (unhide C3 _ ((unhide HL).keep b2)).mono ?_; rintro e w3 ⟨v3, rfl, h3, b3'⟩; have HV3 := hide h3; clear h3; have b3 := b2.trans (b3'.mono b2.size))
      | (go_at_call 11; refine (unhide C2).mono ?_; rintro e w2 ⟨rfl, b2⟩)
      | (go_at_call 9; refine (unhide CF).mono ?_; rintro e w1 ⟨rfl, rfl⟩))
    go_ret
    exact ⟨rfl, bb⟩
end Go.Proofs.YtpfpaponlmfofaaDoor
