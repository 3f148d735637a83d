/- The document's Bytes, sort, Int, Bool, Text of layer 16 (made by gen_ref.py). -/
import Derived.Test.YtcboggoindhmkaaRDig16
import Derived.Test.YtcboggoindhmkaaDg16
namespace Go.Proofs.Ytcboggoindhmkaa
open Go.RowKit

set_option maxHeartbeats 800000 in
theorem rbytes_1 (n : Int) (h0 : -128 ≤ n ∧ n < 128) (w : World) : Calls Try.prog 31 #[.int .i64 n] w fun r w' => r = .returned (.string (strOfNums (dg 1 n))) ∧ Gr w w' := by
  have D1 := hide (rdig_1 n h0.1 h0.2)
  generalize strOfNums (dg 1 n) = S at *
  clear  h0
  go_enter Try.func31, Try.ntmps31
  go_wp2
  refine wp_loop_rounds 1 ?_
  rw [rounds_succ]
  go_wp2_with (go_at_call 41; refine (unhide D1 _).mono ?_; rintro r w1 ⟨rfl, g1⟩)
  go_ret
  exact ⟨rfl, g1⟩
set_option maxHeartbeats 800000 in
theorem rbytes_2 (n : Int) (h1 : ¬ (-128 ≤ n ∧ n < 128)) (h0 : -32768 ≤ n ∧ n < 32768) (w : World) : Calls Try.prog 31 #[.int .i64 n] w fun r w' => r = .returned (.string (strOfNums (dg 2 n))) ∧ Gr w w' := by
  have D1 := hide (rdig_1o n h1)
  have D2 := hide (rdig_2 n h0.1 h0.2)
  generalize strOfNums (dg 2 n) = S at *
  clear h1 h0
  go_enter Try.func31, Try.ntmps31
  go_wp2
  refine wp_loop_rounds 2 ?_
  rw [rounds_succ]
  go_wp2_with (go_at_call 41; refine (unhide D1 _).mono ?_; rintro r w1 ⟨rfl, g1⟩)
  rw [rounds_succ]
  go_wp2_with (go_at_call 41; refine (unhide D2 _).mono ?_; rintro r w2 ⟨rfl, g2⟩)
  go_ret
  exact ⟨rfl, (g1).trans g2⟩
set_option maxHeartbeats 800000 in
theorem rbytes_3 (n : Int) (h1 : ¬ (-128 ≤ n ∧ n < 128)) (h2 : ¬ (-32768 ≤ n ∧ n < 32768)) (h0 : -8388608 ≤ n ∧ n < 8388608) (w : World) : Calls Try.prog 31 #[.int .i64 n] w fun r w' => r = .returned (.string (strOfNums (dg 3 n))) ∧ Gr w w' := by
  have D1 := hide (rdig_1o n h1)
  have D2 := hide (rdig_2o n h2)
  have D3 := hide (rdig_3 n h0.1 h0.2)
  generalize strOfNums (dg 3 n) = S at *
  clear h1 h2 h0
  go_enter Try.func31, Try.ntmps31
  go_wp2
  refine wp_loop_rounds 3 ?_
  rw [rounds_succ]
  go_wp2_with (go_at_call 41; refine (unhide D1 _).mono ?_; rintro r w1 ⟨rfl, g1⟩)
  rw [rounds_succ]
  go_wp2_with (go_at_call 41; refine (unhide D2 _).mono ?_; rintro r w2 ⟨rfl, g2⟩)
  rw [rounds_succ]
  go_wp2_with (go_at_call 41; refine (unhide D3 _).mono ?_; rintro r w3 ⟨rfl, g3⟩)
  go_ret
  exact ⟨rfl, ((g1).trans g2).trans g3⟩
set_option maxHeartbeats 800000 in
theorem rbytes_4 (n : Int) (h1 : ¬ (-128 ≤ n ∧ n < 128)) (h2 : ¬ (-32768 ≤ n ∧ n < 32768)) (h3 : ¬ (-8388608 ≤ n ∧ n < 8388608)) (h0 : -2147483648 ≤ n ∧ n < 2147483648) (w : World) : Calls Try.prog 31 #[.int .i64 n] w fun r w' => r = .returned (.string (strOfNums (dg 4 n))) ∧ Gr w w' := by
  have D1 := hide (rdig_1o n h1)
  have D2 := hide (rdig_2o n h2)
  have D3 := hide (rdig_3o n h3)
  have D4 := hide (rdig_4 n h0.1 h0.2)
  generalize strOfNums (dg 4 n) = S at *
  clear h1 h2 h3 h0
  go_enter Try.func31, Try.ntmps31
  go_wp2
  refine wp_loop_rounds 4 ?_
  rw [rounds_succ]
  go_wp2_with (go_at_call 41; refine (unhide D1 _).mono ?_; rintro r w1 ⟨rfl, g1⟩)
  rw [rounds_succ]
  go_wp2_with (go_at_call 41; refine (unhide D2 _).mono ?_; rintro r w2 ⟨rfl, g2⟩)
  rw [rounds_succ]
  go_wp2_with (go_at_call 41; refine (unhide D3 _).mono ?_; rintro r w3 ⟨rfl, g3⟩)
  rw [rounds_succ]
  go_wp2_with (go_at_call 41; refine (unhide D4 _).mono ?_; rintro r w4 ⟨rfl, g4⟩)
  go_ret
  exact ⟨rfl, (((g1).trans g2).trans g3).trans g4⟩
set_option maxHeartbeats 800000 in
theorem rbytes_5 (n : Int) (h1 : ¬ (-128 ≤ n ∧ n < 128)) (h2 : ¬ (-32768 ≤ n ∧ n < 32768)) (h3 : ¬ (-8388608 ≤ n ∧ n < 8388608)) (h4 : ¬ (-2147483648 ≤ n ∧ n < 2147483648)) (w : World) : Calls Try.prog 31 #[.int .i64 n] w fun r w' => r = .returned (.string (strOfNums ([]))) ∧ Gr w w' := by
  have D1 := hide (rdig_1o n h1)
  have D2 := hide (rdig_2o n h2)
  have D3 := hide (rdig_3o n h3)
  have D4 := hide (rdig_4o n h4)
  clear h1 h2 h3 h4
  go_enter Try.func31, Try.ntmps31
  go_wp2
  refine wp_loop_rounds 5 ?_
  rw [rounds_succ]
  go_wp2_with (go_at_call 41; refine (unhide D1 _).mono ?_; rintro r w1 ⟨rfl, g1⟩)
  rw [rounds_succ]
  go_wp2_with (go_at_call 41; refine (unhide D2 _).mono ?_; rintro r w2 ⟨rfl, g2⟩)
  rw [rounds_succ]
  go_wp2_with (go_at_call 41; refine (unhide D3 _).mono ?_; rintro r w3 ⟨rfl, g3⟩)
  rw [rounds_succ]
  go_wp2_with (go_at_call 41; refine (unhide D4 _).mono ?_; rintro r w4 ⟨rfl, g4⟩)
  rw [rounds_succ]
  go_wp2
  go_ret
  exact ⟨rfl, (((g1).trans g2).trans g3).trans g4⟩
theorem rbytes_any (n : Int) (w : World) : Calls Try.prog 31 #[.int .i64 n] w fun r w' => r = .returned (.string (strOfNums (bytI n))) ∧ Gr w w' := by
  unfold bytI
  by_cases h1 : -128 ≤ n ∧ n < 128
  · rw [if_pos h1]; exact rbytes_1 n h1 w
  · rw [if_neg h1]
    by_cases h2 : -32768 ≤ n ∧ n < 32768
    · rw [if_pos h2]; exact rbytes_2 n h1 h2 w
    · rw [if_neg h2]
      by_cases h3 : -8388608 ≤ n ∧ n < 8388608
      · rw [if_pos h3]; exact rbytes_3 n h1 h2 h3 w
      · rw [if_neg h3]
        by_cases h4 : -2147483648 ≤ n ∧ n < 2147483648
        · rw [if_pos h4]; exact rbytes_4 n h1 h2 h3 h4 w
        · rw [if_neg h4]; exact rbytes_5 n h1 h2 h3 h4 w
/-- The element of a class and a number alone. -/
abbrev vBare (c n : Int) : Value := .agg #[.int .i64 c, .bool false, .int .i64 n, .string ⟨#[]⟩, .slice none 0 0]
set_option maxHeartbeats 800000 in
theorem rsort_ok (c n : Int) (h : mkOk c n = true) (w : World) : Calls Try.prog 32 #[.int .i64 c, .int .i64 n] w fun r w' => r = .returned (.tuple #[vBare c n, .int .i64 0]) ∧ Below w.heap.size w w' := by
  unfold mkOk at h
  rw [decide_eq_true_eq] at h
  have a0 : ¬ c < 0 := by omega
  have a1 : ¬ (3 : Int) < c := by omega
  have a2 : ¬ n < 0 := by omega
  have a3 : ¬ (30 : Int) < n := by omega
  clear h
  go_enter Try.func32, Try.ntmps32
  go_wp2
  go_returns
  exact ⟨rfl, Below.one w _⟩
set_option maxHeartbeats 1600000 in
theorem rsort_bad (c n : Int) (h : mkOk c n = false) (w : World) : Calls Try.prog 32 #[.int .i64 c, .int .i64 n] w fun r w' => r = .returned (.tuple #[vBare 0 0, .int .i64 2]) ∧ Below w.heap.size w w' := by
  unfold mkOk at h
  rw [decide_eq_false_iff_not] at h
  by_cases a0 : c < 0
  · clear h
    go_enter Try.func32, Try.ntmps32
    go_wp2
    go_returns
    exact ⟨rfl, Below.one w _⟩
  · by_cases a1 : (3 : Int) < c
    · clear h
      go_enter Try.func32, Try.ntmps32
      go_wp2
      go_returns
      exact ⟨rfl, Below.one w _⟩
    · by_cases a2 : n < 0
      · clear h
        go_enter Try.func32, Try.ntmps32
        go_wp2
        go_returns
        exact ⟨rfl, Below.one w _⟩
      · have a3 : (30 : Int) < n := by omega
        clear h
        go_enter Try.func32, Try.ntmps32
        go_wp2
        go_returns
        exact ⟨rfl, Below.one w _⟩
end Go.Proofs.Ytcboggoindhmkaa
