/- The laws SyntaxSmall and SyntaxExact of layer 19. -/
import Derived.Test.YtpaenieafkmmeaaGreatDoorM47
namespace Go.Proofs.YtpaenieafkmmeaaGreatDoor
set_option maxRecDepth 100000
open Go.RowKit

theorem txt_beq (a b : ByteArray) : (a.toList == b.toList) = decide (a = b) := by
  rw [Lib.toList_data, Lib.toList_data]
  by_cases h : a = b
  · rw [decide_eq_true h, h]; simp
  · rw [decide_eq_false h, beq_eq_false_iff_ne]
    intro e
    apply h
    cases a with | mk x => cases b with | mk y =>
    simp only at e
    rw [Array.toList_inj.1 e]
set_option maxHeartbeats 1600000 in
theorem small19_law (a b : ByteArray) (w : World) (hL : LA w) (ha : a.size ≤ 281474976710656) (hb : b.size ≤ 281474976710656) : Calls Tryz.prog 4 #[.string a, .string b] w fun e w' => e = .returned (.bool true) ∧ Below w.heap.size w w' := by
  have C1 := hide (int_any a w hL.2 ha)
  have C2 := hide (fun W (h : LA W) => int_any b W h.2 hb)
  have CA := hide (fun W (h : LA W) => awake19 W h)
  have HL := hide hL
  clear hL
  cases hp : intP a with
  | none =>
    obtain ⟨e1, e2⟩ := int_none hp
    rw [e1, e2] at C1
    clear e1 e2 hp
    generalize intN b = n at *
    generalize intE b = f at *
    go_enter Tryz.func4, Tryz.ntmps4
    go_wp2_with (first
      | (go_at_call 7; refine (unhide CA _ ((unhide HL).keep t2)).mono ?_; rintro e w3 ⟨rfl, b3⟩; have t3 := t2.trans (b3.mono t2.size))
      | (go_at_call 8; have M2 := F1; refine (unhide C2 _ ((unhide HL).keep b1)).mono ?_; rintro e w2 ⟨rfl, b2⟩; have t2 := b1.trans (b2.mono b1.size))
      | (go_at_call 8; refine (unhide C1).mono ?_; rintro e w1 ⟨rfl, b1⟩; have F1 := trivial))
    go_ret
    exact ⟨rfl, t3⟩
  | some m =>
    obtain ⟨e1, e2⟩ := int_some hp
    rw [e1, e2] at C1
    clear e1 e2
    cases hq : intP b with
    | none =>
      obtain ⟨e1, e2⟩ := int_none hq
      rw [e1, e2] at C2
      clear e1 e2 hp hq
      go_enter Tryz.func4, Tryz.ntmps4
      go_wp2_with (first
        | (go_at_call 7; refine (unhide CA _ ((unhide HL).keep t2)).mono ?_; rintro e w3 ⟨rfl, b3⟩; have t3 := t2.trans (b3.mono t2.size))
        | (go_at_call 8; have M2 := F1; refine (unhide C2 _ ((unhide HL).keep b1)).mono ?_; rintro e w2 ⟨rfl, b2⟩; have t2 := b1.trans (b2.mono b1.size))
        | (go_at_call 8; refine (unhide C1).mono ?_; rintro e w1 ⟨rfl, b1⟩; have F1 := trivial))
      go_ret
      exact ⟨rfl, t3⟩
    | some n =>
      obtain ⟨e1, e2⟩ := int_some hq
      rw [e1, e2] at C2
      clear e1 e2
      have hab := txt_beq a b
      have HX : Hid ((m == n) = decide (a = b)) := by
        show _ = _
        by_cases h : a = b
        · subst h
          rw [hp] at hq
          cases hq
          simp
        · rw [decide_eq_false h, beq_eq_false_iff_ne]
          intro e
          subst e
          exact h (intP_inj hp hq)
      have hmn := unhide HX
      clear HX hp hq
      generalize decide (a = b) = q at *
      cases q
      all_goals
        go_enter Tryz.func4, Tryz.ntmps4
        go_wp2_with (first
          | (go_at_call 7; refine (unhide CA _ ((unhide HL).keep t2)).mono ?_; rintro e w3 ⟨rfl, b3⟩; have t3 := t2.trans (b3.mono t2.size))
          | (go_at_call 8; have M2 := F1; refine (unhide C2 _ ((unhide HL).keep b1)).mono ?_; rintro e w2 ⟨rfl, b2⟩; have t2 := b1.trans (b2.mono b1.size))
          | (go_at_call 8; refine (unhide C1).mono ?_; rintro e w1 ⟨rfl, b1⟩; have F1 := trivial))
        go_ret
        exact ⟨rfl, t3⟩
end Go.Proofs.YtpaenieafkmmeaaGreatDoor
