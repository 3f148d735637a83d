/- The law CharsMarks. -/
import Derived.Test.YtjoafogemjllhaaAwake
namespace Go.Proofs.Ytjoafogemjllhaa
open Go.RowKit

theorem cl_mark (r : Int) : ∃ c : Int, cl r 3 = c ∧ c ≠ 0 := by
  refine ⟨_, rfl, ?_⟩
  unfold cl
  simp only [if_true]
  split
  · decide
  · split
    · decide
    · split <;> decide

set_option maxHeartbeats 1600000 in
theorem marks_law (r : Int) (w : World) :
    Calls Try.prog 6 #[.int .i32 r] w fun e w' => e = .returned (.bool true) ∧ Below w.heap.size w w' := by
  have HK := hide (kind_any r)
  have HC := hide (class_any r)
  have HA := hide awake_any
  have hb := kd_bound r
  have HI : Hid (∀ W : World, Calls Try.prog 10 #[.int .i32 r, .slice (some ⟨W.heap.size, 0, none⟩) 1 1] (W.alloc (.cells #[.int .i64 (kd r)] 3)) fun e w' => e = .returned (.bool true) ∧ Gr (W.alloc (.cells #[.int .i64 (kd r)] 3)) w') := fun W => by
    have := is_any r _ [kd r] _ (ints_new W [kd r] _ 3 rfl) (by simp)
    rw [show decide (kd r ∈ [kd r]) = true by simp] at this
    exact this
  have HJ : Hid (∀ W : World, Calls Try.prog 10 #[.int .i32 r, .slice (some ⟨W.heap.size, 0, none⟩) 1 1] (W.alloc (.cells #[.int .i64 (kd r + 1)] 3)) fun e w' => e = .returned (.bool false) ∧ Gr (W.alloc (.cells #[.int .i64 (kd r + 1)] 3)) w') := fun W => by
    have := is_any r _ [kd r + 1] _ (ints_new W [kd r + 1] _ 3 rfl) (by simp)
    rw [show decide (kd r ∈ [kd r + 1]) = false by simp; omega] at this
    exact this
  unfold cls at HC
  generalize kd r = k at *
  have d1 : decide (k < 0) = false := decide_eq_false (by omega)
  have d2 : decide (7 < k) = false := decide_eq_false (by omega)
  have k1 : IntKind.i64.wrap (k + 1) = k + 1 := by rw [IntKind.wrap_i64]; omega
  have n1 : ¬ k < 0 := by omega
  have n2 : ¬ 7 < k := by omega
  by_cases h3 : k = 3
  · subst h3
    obtain ⟨c, hc, hc0⟩ := cl_mark r
    rw [hc] at HC
    clear hc
    have r0 : 0 ≤ r := by omega
    have r1 : r ≤ 1114111 := by omega
    have hcz : (c == 0) = false := by simpa using hc0
    have hcn : (c != 0) = true := by simpa using hc0
    clear hb
    go_enter Try.func6, Try.ntmps6
    go_wp2_with (first
      | (go_at_call 8; refine (unhide HK _).mono ?_; rintro e w1 ⟨rfl, g1⟩)
      | (go_at_call 10; refine (unhide HI _).mono ?_; rintro e w2 ⟨rfl, g2⟩; replace g2 := (g1.alloc _).trans g2)
      | (go_at_call 10; refine (unhide HJ _).mono ?_; rintro e w3 ⟨rfl, g3⟩; replace g3 := (g2.alloc _).trans g3)
      | (go_at_call 12; refine (unhide HC _).mono ?_; rintro e w4 ⟨rfl, g4⟩; replace g4 := g3.trans g4)
      | (go_at_call 14; refine (unhide HA _).mono ?_; rintro e w5 ⟨rfl, g5⟩; replace g5 := g4.trans g5))
    go_ret
    exact ⟨rfl, g5.below⟩
  · rw [show cl r k = 0 by simp [cl, h3]] at HC
    have h3z : (k == 3) = false := by simpa using h3
    by_cases h0 : k = 0
    · subst h0
      by_cases r0 : 0 ≤ r
      · by_cases r1 : r ≤ 1114111
        · go_enter Try.func6, Try.ntmps6
          go_wp2_with (first
            | (go_at_call 8; refine (unhide HK _).mono ?_; rintro e w1 ⟨rfl, g1⟩)
            | (go_at_call 10; refine (unhide HI _).mono ?_; rintro e w2 ⟨rfl, g2⟩; replace g2 := (g1.alloc _).trans g2)
            | (go_at_call 10; refine (unhide HJ _).mono ?_; rintro e w3 ⟨rfl, g3⟩; replace g3 := (g2.alloc _).trans g3)
            | (go_at_call 12; refine (unhide HC _).mono ?_; rintro e w4 ⟨rfl, g4⟩; replace g4 := g3.trans g4)
            | (go_at_call 14; refine (unhide HA _).mono ?_; rintro e w5 ⟨rfl, g5⟩; replace g5 := g4.trans g5))
          go_ret
          exact ⟨rfl, g5.below⟩
        · go_enter Try.func6, Try.ntmps6
          go_wp2_with (first
            | (go_at_call 8; refine (unhide HK _).mono ?_; rintro e w1 ⟨rfl, g1⟩)
            | (go_at_call 10; refine (unhide HI _).mono ?_; rintro e w2 ⟨rfl, g2⟩; replace g2 := (g1.alloc _).trans g2)
            | (go_at_call 10; refine (unhide HJ _).mono ?_; rintro e w3 ⟨rfl, g3⟩; replace g3 := (g2.alloc _).trans g3)
            | (go_at_call 12; refine (unhide HC _).mono ?_; rintro e w4 ⟨rfl, g4⟩; replace g4 := g3.trans g4)
            | (go_at_call 14; refine (unhide HA _).mono ?_; rintro e w5 ⟨rfl, g5⟩; replace g5 := g4.trans g5))
          go_ret
          exact ⟨rfl, g5.below⟩
      · go_enter Try.func6, Try.ntmps6
        go_wp2_with (first
          | (go_at_call 8; refine (unhide HK _).mono ?_; rintro e w1 ⟨rfl, g1⟩)
          | (go_at_call 10; refine (unhide HI _).mono ?_; rintro e w2 ⟨rfl, g2⟩; replace g2 := (g1.alloc _).trans g2)
          | (go_at_call 10; refine (unhide HJ _).mono ?_; rintro e w3 ⟨rfl, g3⟩; replace g3 := (g2.alloc _).trans g3)
          | (go_at_call 12; refine (unhide HC _).mono ?_; rintro e w4 ⟨rfl, g4⟩; replace g4 := g3.trans g4)
          | (go_at_call 14; refine (unhide HA _).mono ?_; rintro e w5 ⟨rfl, g5⟩; replace g5 := g4.trans g5))
        go_ret
        exact ⟨rfl, g5.below⟩
    · have r0 : 0 ≤ r := by omega
      have r1 : r ≤ 1114111 := by omega
      clear hb h0
      go_enter Try.func6, Try.ntmps6
      go_wp2_with (first
        | (go_at_call 8; refine (unhide HK _).mono ?_; rintro e w1 ⟨rfl, g1⟩)
        | (go_at_call 10; refine (unhide HI _).mono ?_; rintro e w2 ⟨rfl, g2⟩; replace g2 := (g1.alloc _).trans g2)
        | (go_at_call 10; refine (unhide HJ _).mono ?_; rintro e w3 ⟨rfl, g3⟩; replace g3 := (g2.alloc _).trans g3)
        | (go_at_call 12; refine (unhide HC _).mono ?_; rintro e w4 ⟨rfl, g4⟩; replace g4 := g3.trans g4)
        | (go_at_call 14; refine (unhide HA _).mono ?_; rintro e w5 ⟨rfl, g5⟩; replace g5 := g4.trans g5))
      go_ret
      exact ⟨rfl, g5.below⟩
end Go.Proofs.Ytjoafogemjllhaa
