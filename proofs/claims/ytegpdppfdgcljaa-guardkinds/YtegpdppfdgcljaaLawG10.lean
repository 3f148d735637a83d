/- The law GuardKinds. -/
import Derived.Test.YtegpdppfdgcljaaLawB10
namespace Go.Proofs.Ytegpdppfdgcljaa
open Go.RowKit

theorem gk (s : ByteArray) (hs : s.size ≤ 10000) (k : Int) (W : World) : Calls Try.prog 14 #[.string s, .slice (some ⟨W.heap.size, 0, none⟩) 1 1] (W.alloc (.cells #[.int .i64 k] 3)) fun e w' => e = .returned (.bool (onlyB s [k])) ∧ Below W.heap.size W w' :=
  (gonly_any s _ [k] _ hs (by simp) (intn W [k] _ _ rfl)).mono fun _ _ ⟨he, hb⟩ => ⟨he, below_new hb⟩
theorem gk8 (s : ByteArray) (hs : s.size ≤ 10000) (W : World) : Calls Try.prog 14 #[.string s, .slice (some ⟨W.heap.size, 0, none⟩) 8 8] (W.alloc (.cells #[.int .i64 0, .int .i64 1, .int .i64 2, .int .i64 3, .int .i64 4, .int .i64 5, .int .i64 6, .int .i64 7] 3)) fun e w' => e = .returned (.bool (!decide (txE s = 10))) ∧ Below W.heap.size W w' :=
  (gonly_any s _ [0, 1, 2, 3, 4, 5, 6, 7] _ hs (by simp) (intn W [0, 1, 2, 3, 4, 5, 6, 7] _ _ rfl)).mono fun _ _ ⟨he, hb⟩ => ⟨he.trans (ret_bool (kinds_all s)), below_new hb⟩
theorem ne10 (E : Int) : (E != 10) = !decide (E = 10) := by
  by_cases h : E = 10 <;> simp [h]
set_option maxHeartbeats 6400000 in
theorem kinds10_law (s : ByteArray) (k : Int) (w : World) : Calls Try.prog 6 #[.string s, .int .i64 k] w fun e w' => e = .returned (.bool true) ∧ Below w.heap.size w w' := by
  have HA := hide awake10
  by_cases hs : 5000 < s.size
  · have hz : (5000 : Int) < (s.size : Int) := by omega
    go_enter Try.func6, Try.ntmps6
    go_wp2_with (go_at_call 7; refine (unhide HA _).mono ?_; rintro e w5 ⟨rfl, b5⟩)
    go_ret
    exact ⟨rfl, b5⟩
  · have hz : ¬ (5000 : Int) < (s.size : Int) := by omega
    have H1 := hide (fun W => gtext_any s W (by omega))
    have H2 := hide (fun W => gk s (by omega) k W)
    have H3 := hide (fun W => gk8 s (by omega) W)
    cases ho : onlyB s [k]
    · rw [ho] at H2
      have HE := hide (ne10 (txE s))
      generalize txA s = A at *
      generalize txE s = E at *
      rw [← unhide HE] at H3
      have e1 : ((E != 10) == (E != 10)) = true := by simp
      clear ho
      go_enter Try.func6, Try.ntmps6
      go_wp2_with (first
        | (go_at_call 7; refine (unhide HA w3).mono ?_; rintro e w4 ⟨rfl, b4⟩; have c4 := c3.trans (b4.mono c3.size))
        | (go_at_call 14; refine (unhide H3 w2).mono ?_; rintro e w3 ⟨rfl, b3⟩; have c3 := c2.trans (b3.mono c2.size))
        | (go_at_call 14; refine (unhide H2 w1).mono ?_; rintro e w2 ⟨rfl, b2⟩; have c2 := b1.trans (b2.mono b1.size))
        | (go_at_call 12; refine (unhide H1 w).mono ?_; rintro e w1 ⟨rfl, b1⟩))
      go_ret
      exact ⟨rfl, c4⟩
    · rw [ho] at H2
      have HE := hide (ne10 (txE s))
      by_cases h0 : 0 < s.size
      · obtain ⟨f1, f2⟩ := kinds_fact s k ho h0
        have n1 : (s.toList == []) = false := by
          rw [beq_eq_false_iff_ne]
          intro e
          rw [ByteArray.toList_eq] at e
          have h9 := congrArg List.length e
          have h8 : s.data.toList.length = s.size := by simp
          rw [h8, List.length_nil] at h9
          omega
        by_cases k0 : k = 0
        · subst k0
          have h30 : txE s = 30 := by simpa using f1
          have H4 := hide (fun W => gk s (by omega) 1 W)
          rw [f2 1 (by decide)] at H4
          have e8 : (!decide ((30 : Int) = 10)) = true := by decide
          rw [h30] at H1 H3
          rw [e8] at H3
          generalize txA s = A at *
          clear ho f1 f2 HE h30
          go_enter Try.func6, Try.ntmps6
          go_wp2_with (first
          | (go_at_call 7; refine (unhide HA w4).mono ?_; rintro e w5 ⟨rfl, b5⟩; have c5 := c4.trans (b5.mono c4.size))
          | (go_at_call 14; refine (unhide H3 w3).mono ?_; rintro e w4 ⟨rfl, b4⟩; have c4 := c3.trans (b4.mono c3.size))
          | (go_at_call 14; refine (unhide H4 w2).mono ?_; rintro e w3 ⟨rfl, b3⟩; have c3 := c2.trans (b3.mono c2.size))
          | (go_at_call 14; refine (unhide H2 w1).mono ?_; rintro e w2 ⟨rfl, b2⟩; have c2 := b1.trans (b2.mono b1.size))
          | (go_at_call 12; refine (unhide H1 w).mono ?_; rintro e w1 ⟨rfl, b1⟩))
          go_ret
          exact ⟨rfl, c5⟩
        · by_cases k7 : k = 7
          · subst k7
            have h30 : txE s = 30 := by simpa using f1
            have H4 := hide (fun W => gk s (by omega) 8 W)
            rw [f2 8 (by decide)] at H4
            have e8 : (!decide ((30 : Int) = 10)) = true := by decide
            rw [h30] at H1 H3
            rw [e8] at H3
            generalize txA s = A at *
            clear ho f1 f2 HE h30
            go_enter Try.func6, Try.ntmps6
            go_wp2_with (first
          | (go_at_call 7; refine (unhide HA w4).mono ?_; rintro e w5 ⟨rfl, b5⟩; have c5 := c4.trans (b5.mono c4.size))
          | (go_at_call 14; refine (unhide H3 w3).mono ?_; rintro e w4 ⟨rfl, b4⟩; have c4 := c3.trans (b4.mono c3.size))
          | (go_at_call 14; refine (unhide H4 w2).mono ?_; rintro e w3 ⟨rfl, b3⟩; have c3 := c2.trans (b3.mono c2.size))
          | (go_at_call 14; refine (unhide H2 w1).mono ?_; rintro e w2 ⟨rfl, b2⟩; have c2 := b1.trans (b2.mono b1.size))
          | (go_at_call 12; refine (unhide H1 w).mono ?_; rintro e w1 ⟨rfl, b1⟩))
            go_ret
            exact ⟨rfl, c5⟩
          · have h30 : txE s ≠ 30 := fun e => by rw [e] at f1; simp [k0, k7] at f1
            have q0 : (k == 0) = false := by simpa using k0
            have q7 : (k == 7) = false := by simpa using k7
            have q30 : (txE s == 30) = false := by simpa using h30
            have hw : wrap64 (k + 1) ≠ k := by unfold wrap64; omega
            have H4 := hide (fun W => gk s (by omega) (wrap64 (k + 1)) W)
            rw [f2 _ hw] at H4
            generalize txA s = A at *
            generalize txE s = E at *
            rw [← unhide HE] at H3
            have e1 : ((E != 10) == (E != 10)) = true := by simp
            clear ho f1 f2 h30
            go_enter Try.func6, Try.ntmps6
            go_wp2_with (first
          | (go_at_call 7; refine (unhide HA w4).mono ?_; rintro e w5 ⟨rfl, b5⟩; have c5 := c4.trans (b5.mono c4.size))
          | (go_at_call 14; refine (unhide H3 w3).mono ?_; rintro e w4 ⟨rfl, b4⟩; have c4 := c3.trans (b4.mono c3.size))
          | (go_at_call 14; refine (unhide H4 w2).mono ?_; rintro e w3 ⟨rfl, b3⟩; have c3 := c2.trans (b3.mono c2.size))
          | (go_at_call 14; refine (unhide H2 w1).mono ?_; rintro e w2 ⟨rfl, b2⟩; have c2 := b1.trans (b2.mono b1.size))
          | (go_at_call 12; refine (unhide H1 w).mono ?_; rintro e w1 ⟨rfl, b1⟩))
            go_ret
            exact ⟨rfl, c5⟩
      · have hse : s = { data := #[] } := by
          obtain ⟨d⟩ := s
          congr 1
          exact Array.eq_empty_of_size_eq_zero (by simpa [ByteArray.size] using h0)
        subst hse
        have hE : txE { data := #[] } = 0 := by kernel_rfl
        have e8 : (!decide ((0 : Int) = 10)) = true := by decide
        rw [hE] at H1 H3
        rw [e8] at H3
        generalize txA { data := #[] } = A at *
        clear ho HE hE
        go_enter Try.func6, Try.ntmps6
        go_wp2_with (first
          | (go_at_call 7; refine (unhide HA w3).mono ?_; rintro e w4 ⟨rfl, b4⟩; have c4 := c3.trans (b4.mono c3.size))
          | (go_at_call 14; refine (unhide H3 w2).mono ?_; rintro e w3 ⟨rfl, b3⟩; have c3 := c2.trans (b3.mono c2.size))
          | (go_at_call 14; refine (unhide H2 w1).mono ?_; rintro e w2 ⟨rfl, b2⟩; have c2 := b1.trans (b2.mono b1.size))
          | (go_at_call 12; refine (unhide H1 w).mono ?_; rintro e w1 ⟨rfl, b1⟩))
        go_ret
        exact ⟨rfl, c4⟩
end Go.Proofs.Ytegpdppfdgcljaa
