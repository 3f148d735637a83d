/- The laws DnkeyBetween and DnkeyUnder of layer 23, out of the landed contracts. -/
import Derived.Test.YtmemflanfklmpaaLw23
namespace Go.Proofs.Ytmemflanfklmpaa
open Go.RowKit

theorem chk_val (s : ByteArray) : (chkE s != 0) = !okK (bts s) := by
  unfold chkE
  cases okK (bts s) <;> rfl
set_option maxHeartbeats 3200000 in
theorem between23 (C : C23) (a b c : ByteArray) (w : World) : Calls Try.prog 6 #[.string a, .string b, .string c] w fun e w' => e = .returned (.bool true) ∧ Below w.heap.size w w' := by
  have CS := hide (short23 a b c w)
  cases hs : shB a b c <;> rw [hs] at CS
  · have CA := hide (awake23 C w)
    clear C hs
    go_enter Try.func6, Try.ntmps6
    go_wp2_with (first
      | (go_at_call 9; refine (unhide CA).mono ?_; rintro e w2 ⟨rfl, t2⟩)
      | (go_at_call 8; refine (unhide CS).mono ?_; rintro e w' ⟨rfl, rfl⟩))
    go_ret
    exact ⟨rfl, t2⟩
  · obtain ⟨h1, h2, h3⟩ := sh_yes hs
    have CA := hide (fun W => awake23 C W)
    have CB := hide (fun W => C.chk b W h2)
    have CU := hide (fun W => C.und a c W h1 h3)
    cases hb : okK (bts b)
    · rw [chk_no hb] at CB
      clear C hs h1 h2 h3 hb CU
      go_enter Try.func6, Try.ntmps6
      go_wp2_with (first
        | (go_at_call 9; refine (unhide CA _).mono ?_; rintro e w3 ⟨rfl, b3⟩; have t3 := t2.trans (b3.mono t2.size))
        | (go_at_call 12; refine (unhide CB _).mono ?_; rintro e w2 ⟨rfl, t2⟩)
        | (go_at_call 8; refine (unhide CS).mono ?_; rintro e w' ⟨rfl, rfl⟩))
      go_ret
      exact ⟨rfl, t3⟩
    · rw [chk_yes hb] at CB
      cases hu : undS a c
      · rw [hu] at CU
        clear C hs h1 h2 h3 hb hu
        go_enter Try.func6, Try.ntmps6
        go_wp2_with (first
          | (go_at_call 9; refine (unhide CA _).mono ?_; rintro e w4 ⟨rfl, b4⟩; have t4 := t3.trans (b4.mono t3.size))
          | (go_at_call 20; refine (unhide CU _).mono ?_; rintro e w3 ⟨rfl, b3⟩; have t3 := t2.trans (b3.mono t2.size))
          | (go_at_call 12; refine (unhide CB _).mono ?_; rintro e w2 ⟨rfl, t2⟩)
          | (go_at_call 8; refine (unhide CS).mono ?_; rintro e w' ⟨rfl, rfl⟩))
        go_ret
        exact ⟨rfl, t4⟩
      · rw [hu] at CU
        obtain ⟨hka, _, _⟩ := undK_iff.1 hu
        have e1 : undS a a = true := und_self hka
        have e2 : undS a ⟨#[]⟩ = true := und_nil hka
        have CU1 := hide (fun W => C.und a a W h1 h1)
        have CU2 := hide (fun W => C.und a ⟨#[]⟩ W h1 (by decide))
        rw [e1] at CU1
        rw [e2] at CU2
        have CM := hide (fun W => C.und b c W h2 h3)
        have HB : Hid ((Op.bytesLess c.toList b.toList = true ∨ c.toList = b.toList) → (Op.bytesLess b.toList a.toList = true ∨ b.toList = a.toList) → undS b c = true) := fun p q => by
          rw [Lib.toList_data, Lib.toList_data] at p q
          exact between_und hb hu (bls_le p) (bls_le q)
        clear C hs h1 h2 h3 hb hu hka e1 e2
        generalize undS b c = z at *
        by_cases g1 : (Op.bytesLess c.toList b.toList = true ∨ c.toList = b.toList)
        · by_cases g2 : (Op.bytesLess b.toList a.toList = true ∨ b.toList = a.toList)
          · obtain rfl := unhide HB g1 g2
            clear HB
            go_enter Try.func6, Try.ntmps6
            go_wp2_with (first
              | (go_at_call 9; refine (unhide CA _).mono ?_; rintro e w7 ⟨rfl, b7⟩; have t7 := t6.trans (b7.mono t6.size))
              | (go_at_call 20; have M := F3; refine (unhide CU2 _).mono ?_; rintro e w6 ⟨rfl, b6⟩; have t6 := t5.trans (b6.mono t5.size))
              | (go_at_call 20; have M := F2; refine (unhide CU1 _).mono ?_; rintro e w5 ⟨rfl, b5⟩; have t5 := t4.trans (b5.mono t4.size); have F3 := trivial)
              | (go_at_call 20; have M := F1; refine (unhide CM _).mono ?_; rintro e w4 ⟨rfl, b4⟩; have t4 := t3.trans (b4.mono t3.size); have F2 := trivial)
              | (go_at_call 20; refine (unhide CU _).mono ?_; rintro e w3 ⟨rfl, b3⟩; have t3 := t2.trans (b3.mono t2.size); have F1 := trivial)
              | (go_at_call 12; refine (unhide CB _).mono ?_; rintro e w2 ⟨rfl, t2⟩)
              | (go_at_call 8; refine (unhide CS).mono ?_; rintro e w' ⟨rfl, rfl⟩))
            go_ret
            exact ⟨rfl, t7⟩
          · obtain ⟨g3, g4⟩ := not_or.1 g2
            have g5 : Op.bytesLess b.toList a.toList = false := by simpa using g3
            clear HB CM g2 g3
            go_enter Try.func6, Try.ntmps6
            go_wp2_with (first
              | (go_at_call 9; refine (unhide CA _).mono ?_; rintro e w7 ⟨rfl, b7⟩; have t7 := t6.trans (b7.mono t6.size))
              | (go_at_call 20; have M := F3; refine (unhide CU2 _).mono ?_; rintro e w6 ⟨rfl, b6⟩; have t6 := t5.trans (b6.mono t5.size))
              | (go_at_call 20; have M := F1; refine (unhide CU1 _).mono ?_; rintro e w5 ⟨rfl, b5⟩; have t5 := t3.trans (b5.mono t3.size); have F3 := trivial)
              | (go_at_call 20; refine (unhide CU _).mono ?_; rintro e w3 ⟨rfl, b3⟩; have t3 := t2.trans (b3.mono t2.size); have F1 := trivial)
              | (go_at_call 12; refine (unhide CB _).mono ?_; rintro e w2 ⟨rfl, t2⟩)
              | (go_at_call 8; refine (unhide CS).mono ?_; rintro e w' ⟨rfl, rfl⟩))
            go_ret
            exact ⟨rfl, t7⟩
        · obtain ⟨g3, g4⟩ := not_or.1 g1
          have g5 : Op.bytesLess c.toList b.toList = false := by simpa using g3
          clear HB CM g1 g3
          go_enter Try.func6, Try.ntmps6
          go_wp2_with (first
            | (go_at_call 9; refine (unhide CA _).mono ?_; rintro e w7 ⟨rfl, b7⟩; have t7 := t6.trans (b7.mono t6.size))
            | (go_at_call 20; have M := F3; refine (unhide CU2 _).mono ?_; rintro e w6 ⟨rfl, b6⟩; have t6 := t5.trans (b6.mono t5.size))
            | (go_at_call 20; have M := F1; refine (unhide CU1 _).mono ?_; rintro e w5 ⟨rfl, b5⟩; have t5 := t3.trans (b5.mono t3.size); have F3 := trivial)
            | (go_at_call 20; refine (unhide CU _).mono ?_; rintro e w3 ⟨rfl, b3⟩; have t3 := t2.trans (b3.mono t2.size); have F1 := trivial)
            | (go_at_call 12; refine (unhide CB _).mono ?_; rintro e w2 ⟨rfl, t2⟩)
            | (go_at_call 8; refine (unhide CS).mono ?_; rintro e w' ⟨rfl, rfl⟩))
          go_ret
          exact ⟨rfl, t7⟩
end Go.Proofs.Ytmemflanfklmpaa
