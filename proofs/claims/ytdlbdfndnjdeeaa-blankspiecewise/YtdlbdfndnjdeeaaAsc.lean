/- The document's ascii. -/
import Derived.Test.YtdlbdfndnjdeeaaRef
namespace Go.Proofs.Ytdlbdfndnjdeeaa
open Go.RowKit

def asc (r : Int) : Int := if (97 ≤ r ∧ r ≤ 122) ∨ (65 ≤ r ∧ r ≤ 90) then 1 else if 48 ≤ r ∧ r ≤ 57 then 2 else if r = 32 ∨ (9 ≤ r ∧ r ≤ 13) then 5 else if r < 32 ∨ r = 127 then 6 else 4
theorem asc_all : ((List.range 128).all fun (n : Nat) => decide (kd (n : Int) = asc (n : Int))) = true := by kernel_rfl
theorem asc_kd (r : Int) (h0 : 0 ≤ r) (h1 : r < 128) : asc r = kd r := by
  have := List.all_eq_true.1 asc_all r.toNat (by simp; omega)
  rw [show ((r.toNat : Nat) : Int) = r by omega] at this
  exact (of_decide_eq_true this).symm

set_option maxHeartbeats 1600000 in
theorem ascii_any (r : Int) (h0 : 0 ≤ r) (h1 : r < 128) (w : World) : Calls Try.prog 47 #[.int .i32 r] w fun e w' => e = .returned (.int .i64 (asc r)) ∧ Gr w w' := by
  by_cases c0 : r ≤ 8
  · have q0 : ¬ 97 ≤ r := by omega
    have q1 : r ≤ 122 := by omega
    have q2 : ¬ 65 ≤ r := by omega
    have q3 : r ≤ 90 := by omega
    have q4 : ¬ 48 ≤ r := by omega
    have q5 : r ≤ 57 := by omega
    have q6 : ¬ r = 32 := by omega
    have q7 : ¬ 9 ≤ r := by omega
    have q8 : r ≤ 13 := by omega
    have q9 : r < 32 := by omega
    have q10 : ¬ r = 127 := by omega
    have HX : Hid (asc r = 6) := by show asc _ = 6; unfold asc; (repeat' split) <;> omega
    go_enter Try.func47, Try.ntmps47
    go_wp2
    go_ret
    exact ⟨ret_int (unhide HX).symm, Gr.refl _⟩
  · by_cases c1 : r ≤ 13
    · have q0 : ¬ 97 ≤ r := by omega
      have q1 : r ≤ 122 := by omega
      have q2 : ¬ 65 ≤ r := by omega
      have q3 : r ≤ 90 := by omega
      have q4 : ¬ 48 ≤ r := by omega
      have q5 : r ≤ 57 := by omega
      have q6 : ¬ r = 32 := by omega
      have q7 : 9 ≤ r := by omega
      have q8 : r ≤ 13 := by omega
      have q9 : r < 32 := by omega
      have q10 : ¬ r = 127 := by omega
      have HX : Hid (asc r = 5) := by show asc _ = 5; unfold asc; (repeat' split) <;> omega
      go_enter Try.func47, Try.ntmps47
      go_wp2
      go_ret
      exact ⟨ret_int (unhide HX).symm, Gr.refl _⟩
    · by_cases c2 : r ≤ 31
      · have q0 : ¬ 97 ≤ r := by omega
        have q1 : r ≤ 122 := by omega
        have q2 : ¬ 65 ≤ r := by omega
        have q3 : r ≤ 90 := by omega
        have q4 : ¬ 48 ≤ r := by omega
        have q5 : r ≤ 57 := by omega
        have q6 : ¬ r = 32 := by omega
        have q7 : 9 ≤ r := by omega
        have q8 : ¬ r ≤ 13 := by omega
        have q9 : r < 32 := by omega
        have q10 : ¬ r = 127 := by omega
        have HX : Hid (asc r = 6) := by show asc _ = 6; unfold asc; (repeat' split) <;> omega
        go_enter Try.func47, Try.ntmps47
        go_wp2
        go_ret
        exact ⟨ret_int (unhide HX).symm, Gr.refl _⟩
      · by_cases c3 : r ≤ 32
        · obtain rfl : r = 32 := by omega
          have HX : Hid (asc 32 = 5) := by show asc _ = 5; unfold asc; decide
          go_enter Try.func47, Try.ntmps47
          go_wp2
          go_ret
          exact ⟨ret_int (unhide HX).symm, Gr.refl _⟩
        · by_cases c4 : r ≤ 47
          · have q0 : ¬ 97 ≤ r := by omega
            have q1 : r ≤ 122 := by omega
            have q2 : ¬ 65 ≤ r := by omega
            have q3 : r ≤ 90 := by omega
            have q4 : ¬ 48 ≤ r := by omega
            have q5 : r ≤ 57 := by omega
            have q6 : ¬ r = 32 := by omega
            have q7 : 9 ≤ r := by omega
            have q8 : ¬ r ≤ 13 := by omega
            have q9 : ¬ r < 32 := by omega
            have q10 : ¬ r = 127 := by omega
            have HX : Hid (asc r = 4) := by show asc _ = 4; unfold asc; (repeat' split) <;> omega
            go_enter Try.func47, Try.ntmps47
            go_wp2
            go_ret
            exact ⟨ret_int (unhide HX).symm, Gr.refl _⟩
          · by_cases c5 : r ≤ 57
            · have q0 : ¬ 97 ≤ r := by omega
              have q1 : r ≤ 122 := by omega
              have q2 : ¬ 65 ≤ r := by omega
              have q3 : r ≤ 90 := by omega
              have q4 : 48 ≤ r := by omega
              have q5 : r ≤ 57 := by omega
              have q6 : ¬ r = 32 := by omega
              have q7 : 9 ≤ r := by omega
              have q8 : ¬ r ≤ 13 := by omega
              have q9 : ¬ r < 32 := by omega
              have q10 : ¬ r = 127 := by omega
              have HX : Hid (asc r = 2) := by show asc _ = 2; unfold asc; (repeat' split) <;> omega
              go_enter Try.func47, Try.ntmps47
              go_wp2
              go_ret
              exact ⟨ret_int (unhide HX).symm, Gr.refl _⟩
            · by_cases c6 : r ≤ 64
              · have q0 : ¬ 97 ≤ r := by omega
                have q1 : r ≤ 122 := by omega
                have q2 : ¬ 65 ≤ r := by omega
                have q3 : r ≤ 90 := by omega
                have q4 : 48 ≤ r := by omega
                have q5 : ¬ r ≤ 57 := by omega
                have q6 : ¬ r = 32 := by omega
                have q7 : 9 ≤ r := by omega
                have q8 : ¬ r ≤ 13 := by omega
                have q9 : ¬ r < 32 := by omega
                have q10 : ¬ r = 127 := by omega
                have HX : Hid (asc r = 4) := by show asc _ = 4; unfold asc; (repeat' split) <;> omega
                go_enter Try.func47, Try.ntmps47
                go_wp2
                go_ret
                exact ⟨ret_int (unhide HX).symm, Gr.refl _⟩
              · by_cases c7 : r ≤ 90
                · have q0 : ¬ 97 ≤ r := by omega
                  have q1 : r ≤ 122 := by omega
                  have q2 : 65 ≤ r := by omega
                  have q3 : r ≤ 90 := by omega
                  have q4 : 48 ≤ r := by omega
                  have q5 : ¬ r ≤ 57 := by omega
                  have q6 : ¬ r = 32 := by omega
                  have q7 : 9 ≤ r := by omega
                  have q8 : ¬ r ≤ 13 := by omega
                  have q9 : ¬ r < 32 := by omega
                  have q10 : ¬ r = 127 := by omega
                  have HX : Hid (asc r = 1) := by show asc _ = 1; unfold asc; (repeat' split) <;> omega
                  go_enter Try.func47, Try.ntmps47
                  go_wp2
                  go_ret
                  exact ⟨ret_int (unhide HX).symm, Gr.refl _⟩
                · by_cases c8 : r ≤ 96
                  · have q0 : ¬ 97 ≤ r := by omega
                    have q1 : r ≤ 122 := by omega
                    have q2 : 65 ≤ r := by omega
                    have q3 : ¬ r ≤ 90 := by omega
                    have q4 : 48 ≤ r := by omega
                    have q5 : ¬ r ≤ 57 := by omega
                    have q6 : ¬ r = 32 := by omega
                    have q7 : 9 ≤ r := by omega
                    have q8 : ¬ r ≤ 13 := by omega
                    have q9 : ¬ r < 32 := by omega
                    have q10 : ¬ r = 127 := by omega
                    have HX : Hid (asc r = 4) := by show asc _ = 4; unfold asc; (repeat' split) <;> omega
                    go_enter Try.func47, Try.ntmps47
                    go_wp2
                    go_ret
                    exact ⟨ret_int (unhide HX).symm, Gr.refl _⟩
                  · by_cases c9 : r ≤ 122
                    · have q0 : 97 ≤ r := by omega
                      have q1 : r ≤ 122 := by omega
                      have q2 : 65 ≤ r := by omega
                      have q3 : ¬ r ≤ 90 := by omega
                      have q4 : 48 ≤ r := by omega
                      have q5 : ¬ r ≤ 57 := by omega
                      have q6 : ¬ r = 32 := by omega
                      have q7 : 9 ≤ r := by omega
                      have q8 : ¬ r ≤ 13 := by omega
                      have q9 : ¬ r < 32 := by omega
                      have q10 : ¬ r = 127 := by omega
                      have HX : Hid (asc r = 1) := by show asc _ = 1; unfold asc; (repeat' split) <;> omega
                      go_enter Try.func47, Try.ntmps47
                      go_wp2
                      go_ret
                      exact ⟨ret_int (unhide HX).symm, Gr.refl _⟩
                    · by_cases c10 : r ≤ 126
                      · have q0 : 97 ≤ r := by omega
                        have q1 : ¬ r ≤ 122 := by omega
                        have q2 : 65 ≤ r := by omega
                        have q3 : ¬ r ≤ 90 := by omega
                        have q4 : 48 ≤ r := by omega
                        have q5 : ¬ r ≤ 57 := by omega
                        have q6 : ¬ r = 32 := by omega
                        have q7 : 9 ≤ r := by omega
                        have q8 : ¬ r ≤ 13 := by omega
                        have q9 : ¬ r < 32 := by omega
                        have q10 : ¬ r = 127 := by omega
                        have HX : Hid (asc r = 4) := by show asc _ = 4; unfold asc; (repeat' split) <;> omega
                        go_enter Try.func47, Try.ntmps47
                        go_wp2
                        go_ret
                        exact ⟨ret_int (unhide HX).symm, Gr.refl _⟩
                      · obtain rfl : r = 127 := by omega
                        have HX : Hid (asc 127 = 6) := by show asc _ = 6; unfold asc; decide
                        go_enter Try.func47, Try.ntmps47
                        go_wp2
                        go_ret
                        exact ⟨ret_int (unhide HX).symm, Gr.refl _⟩
end Go.Proofs.Ytdlbdfndnjdeeaa
