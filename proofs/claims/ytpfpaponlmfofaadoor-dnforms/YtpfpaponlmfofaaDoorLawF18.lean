/- The law DnForms of layer 18. -/
import Derived.Test.YtpfpaponlmfofaaDoorAw18
import Derived.Test.YtpfpaponlmfofaaDoorRSam18
import Derived.Test.YtpfpaponlmfofaaDoorBnd18
namespace Go.Proofs.YtpfpaponlmfofaaDoor
set_option maxRecDepth 100000
open Go.RowKit

set_option maxHeartbeats 3200000 in
theorem forms18_law (s : ByteArray) (w : World) (hL : Ly w) : Calls Tryd.prog 7 #[.string s] w fun e w' => e = .returned (.bool true) ∧ Below w.heap.size w w' := by
  have C1 := hide (parse_any s w hL)
  have CA := hide awake18
  have HL := hide hL
  have HER := hide (fun h => par_err (l := nums s) h)
  have HOK := hide (par_ok (nums s))
  generalize parN (nums s) = n at *
  generalize parE (nums s) = x at *
  clear hL
  by_cases hx : x = 0
  · subst hx
    have C2 := hide (fun v W h => show_any v n W h)
    rw [chk_yes (unhide HOK), shS_yes (unhide HOK)] at C2
    have C3 := hide (fun W h => parse_any (strOfNums (shN true n)) W h)
    have C4 := hide (fun v W h => check_any v n W h)
    rw [chk_yes (unhide HOK)] at C4
    have hb : ∀ x ∈ shN true n, 0 ≤ x ∧ x < 256 := shN_by n true
    rw [nums_strOfNums _ hb] at C3
    have hsz : (strOfNums (shN true n)).size = (shN true n).length := strOfNums_size _
    by_cases hl : 3000 < (shN true n).length
    · have z : 3000 < ((strOfNums (shN true n)).size : Int) := by rw [hsz]; omega
      clear HER HOK hsz hl hb
      generalize parN (shN true n) = m at *
      generalize parE (shN true n) = y at *
      generalize strOfNums (shN true n) = t at *
      go_enter Tryd.func7, Tryd.ntmps7
      go_wp2_with (first
        | (go_at_call 10; refine (unhide CA _ ((unhide HL).keep b4)).mono ?_; rintro e w5 ⟨rfl, b5⟩; have bb := b4.trans (b5.mono b4.size))
        | (go_at_call 13; refine (unhide C4 _ _ ((unhide HV).below b13)).mono ?_; rintro e w4 ⟨rfl, g4⟩; have b4 := b3.trans (g4.below.mono b3.size))
        | (go_at_call 17; refine (unhide C3 _ ((unhide HL).keep b2)).mono ?_; rintro e w3 ⟨v3, rfl, h3, b3'⟩; obtain ⟨a3, c3, rfl⟩ := h3.shape; clear h3; have b3 := b2.trans (b3'.mono b2.size); have b13 := b12.trans (b3'.mono b12.size))
        | (go_at_call 11; refine (unhide C2 _ _ (unhide HV)).mono ?_; rintro e w2 ⟨rfl, b12⟩; have b2 := b1.trans (b12.mono b1.size))
        | (go_at_call 17; refine (unhide C1).mono ?_; rintro e w1 ⟨v1, rfl, h1, b1⟩; obtain ⟨a1, c1, rfl⟩ := h1.shape; have HV := hide h1; clear h1))
      go_ret
      exact ⟨rfl, bb⟩
    · have z : ¬ 3000 < ((strOfNums (shN true n)).size : Int) := by rw [hsz]; omega
      obtain ⟨e1, e2⟩ := par_back (unhide HOK) (by omega)
      rw [e1, e2] at C3
      have C5 := hide (fun v u W h1 h2 => rsame_any v u n n W h1 h2)
      rw [(eqN_iff n n).2 rfl] at C5
      clear HER HOK hsz hl hb e1 e2
      generalize strOfNums (shN true n) = t at *
      go_enter Tryd.func7, Tryd.ntmps7
      go_wp2_with (first
        | (go_at_call 10; refine (unhide CA _ ((unhide HL).keep b5)).mono ?_; rintro e w6 ⟨rfl, b6⟩; have bb := b5.trans (b6.mono b5.size))
        | (go_at_call 21; refine (unhide C5 _ _ _ ((unhide HV3).below g4.below) ((unhide HV).below b14)).mono ?_; rintro e w5 ⟨rfl, g5⟩; have b5 := b4.trans (g5.below.mono b4.size))
        | (go_at_call 13; refine (unhide C4 _ _ ((unhide HV).below b13)).mono ?_; rintro e w4 ⟨rfl, g4⟩; have b4 := b3.trans (g4.below.mono b3.size); have b14 := b13.trans (g4.below.mono b13.size))
        | (go_at_call 17; refine (unhide C3 _ ((unhide HL).keep b2)).mono ?_; rintro e w3 ⟨v3, rfl, h3, b3'⟩; have HV3 := hide h3; clear h3; have b3 := b2.trans (b3'.mono b2.size); have b13 := b12.trans (b3'.mono b12.size))
        | (go_at_call 11; refine (unhide C2 _ _ (unhide HV)).mono ?_; rintro e w2 ⟨rfl, b12⟩; have b2 := b1.trans (b12.mono b1.size))
        | (go_at_call 17; refine (unhide C1).mono ?_; rintro e w1 ⟨v1, rfl, h1, b1⟩; have HV := hide h1; clear h1))
      go_ret
      exact ⟨rfl, bb⟩
  · have hn : n = [] := unhide HER hx
    subst hn
    have z : (x == 0) = false := by rw [beq_eq_false_iff_ne]; exact hx
    clear HER HOK hx
    go_enter Tryd.func7, Tryd.ntmps7
    go_wp2_with (first
      | (go_at_call 10; refine (unhide CA _ ((unhide HL).keep b1)).mono ?_; rintro e w5 ⟨rfl, b5⟩; have bb := b1.trans (b5.mono b1.size))
      | (go_at_call 17; refine (unhide C1).mono ?_; rintro e w1 ⟨v1, rfl, h1, b1⟩; obtain ⟨a1, c1, rfl⟩ := h1.shape; clear h1))
    go_ret
    exact ⟨rfl, bb⟩
end Go.Proofs.YtpfpaponlmfofaaDoor
