/- Join, the program's and the document's. -/
import Derived.Test.YtcgkdiflhlmlgaaDoorPartW
namespace Go.Proofs.YtcgkdiflhlmlgaaDoor
open Go.RowKit

theorem ret_rb {a a' : Int} {b b' : Bool} (h : a = a') (h' : b = b') : Ending.returned (.tuple #[.int .i32 a, .bool b]) = .returned (.tuple #[.int .i32 a', .bool b']) := by rw [h, h']

set_option maxHeartbeats 1600000 in
theorem join_lead (a b : Int) (w : World) (hL : Lay w) (h1 : part a = 1) (h2 : part b = 2) :
    Calls Tryd.prog 16 #[.int .i32 a, .int .i32 b] w fun e w' => e = .returned (.tuple #[.int .i32 (jR a b), .bool true]) ∧ Gr w w' := by
  have H1 : Hid (∀ w, Lay w → Calls Tryd.prog 10 #[.int .i32 a] w fun e w' => e = .returned (.int .i64 1) ∧ Gr w w') := fun w hw => by rw [← h1]; exact part_any a w hw
  have H2 : Hid (∀ w, Lay w → Calls Tryd.prog 10 #[.int .i32 b] w fun e w' => e = .returned (.int .i64 2) ∧ Gr w w') := fun w hw => by rw [← h2]; exact part_any b w hw
  have hR := jR_lead h1 h2
  rw [part_1] at h1
  rw [part_2] at h2
  have HR : Hid (44032 + ((a - 4352) * 21 + (b - 4449)) * 28 = jR a b) := by show _ = _; omega
  have k1 : IntKind.i32.wrap (a - 4352) = a - 4352 := wrap_in (by omega) (by omega)
  have k2 : IntKind.i32.wrap ((a - 4352) * 21) = (a - 4352) * 21 := wrap_in (by omega) (by omega)
  have k3 : IntKind.i32.wrap (b - 4449) = b - 4449 := wrap_in (by omega) (by omega)
  have k4 : IntKind.i32.wrap ((a - 4352) * 21 + (b - 4449)) = (a - 4352) * 21 + (b - 4449) := wrap_in (by omega) (by omega)
  have k5 : IntKind.i32.wrap (((a - 4352) * 21 + (b - 4449)) * 28) = ((a - 4352) * 21 + (b - 4449)) * 28 := wrap_in (by omega) (by omega)
  have k6 : IntKind.i32.wrap (44032 + ((a - 4352) * 21 + (b - 4449)) * 28) = 44032 + ((a - 4352) * 21 + (b - 4449)) * 28 := wrap_in (by omega) (by omega)
  clear hR h1 h2
  go_enter Tryd.func16, Tryd.ntmps16
  go_wp2_with (first
    | (go_at_call 10; (first
      | (refine (unhide H1 _ hL).mono ?_; rintro e w1 ⟨rfl, g1⟩; have hL1 := hL.gr g1; clear H1)
      | (refine (unhide H2 _ hL1).mono ?_; rintro e w2 ⟨rfl, g2⟩; have hL2 := hL1.gr g2; clear H2)))
    | (go_at_call 21; (first | refine (first_1 _ hL2).mono ?_ | refine (first_2 _ hL2).mono ?_ | refine (first_3 _ hL2).mono ?_); rintro e w9 ⟨rfl, rfl⟩))
  go_ret2
  exact ⟨ret_rb (unhide HR) rfl, g1.trans g2⟩

set_option maxHeartbeats 1600000 in
theorem join_open (a b : Int) (w : World) (hL : Lay w) (h1 : part a = 4) (h2 : part b = 3) :
    Calls Tryd.prog 16 #[.int .i32 a, .int .i32 b] w fun e w' => e = .returned (.tuple #[.int .i32 (jR a b), .bool true]) ∧ Gr w w' := by
  have H1 : Hid (∀ w, Lay w → Calls Tryd.prog 10 #[.int .i32 a] w fun e w' => e = .returned (.int .i64 4) ∧ Gr w w') := fun w hw => by rw [← h1]; exact part_any a w hw
  have H2 : Hid (∀ w, Lay w → Calls Tryd.prog 10 #[.int .i32 b] w fun e w' => e = .returned (.int .i64 3) ∧ Gr w w') := fun w hw => by rw [← h2]; exact part_any b w hw
  have hR := jR_open h1 h2
  rw [part_4] at h1
  rw [part_3] at h2
  have HR : Hid (a + (b - 4520 + 1) = jR a b) := by show _ = _; omega
  have k1 : IntKind.i32.wrap (b - 4520) = b - 4520 := wrap_in (by omega) (by omega)
  have k2 : IntKind.i32.wrap (b - 4520 + 1) = b - 4520 + 1 := wrap_in (by omega) (by omega)
  have k3 : IntKind.i32.wrap (a + (b - 4520 + 1)) = a + (b - 4520 + 1) := wrap_in (by omega) (by omega)
  clear hR h1 h2
  go_enter Tryd.func16, Tryd.ntmps16
  go_wp2_with (first
    | (go_at_call 10; (first
      | (refine (unhide H1 _ hL).mono ?_; rintro e w1 ⟨rfl, g1⟩; have hL1 := hL.gr g1; clear H1)
      | (refine (unhide H2 _ hL1).mono ?_; rintro e w2 ⟨rfl, g2⟩; have hL2 := hL1.gr g2; clear H2)))
    | (go_at_call 21; (first | refine (first_1 _ hL2).mono ?_ | refine (first_2 _ hL2).mono ?_ | refine (first_3 _ hL2).mono ?_); rintro e w9 ⟨rfl, rfl⟩))
  go_ret2
  exact ⟨ret_rb (unhide HR) rfl, g1.trans g2⟩

set_option maxHeartbeats 1600000 in
theorem join_no (a b p q : Int) (w : World) (hL : Lay w) (h1 : part a = p) (h2 : part b = q) (h : (p ≠ 1 ∧ p ≠ 4) ∨ (p = 1 ∧ q ≠ 2) ∨ (p = 4 ∧ q ≠ 3)) :
    Calls Tryd.prog 16 #[.int .i32 a, .int .i32 b] w fun e w' => e = .returned (.tuple #[.int .i32 0, .bool false]) ∧ Gr w w' := by
  have H1 : Hid (∀ w, Lay w → Calls Tryd.prog 10 #[.int .i32 a] w fun e w' => e = .returned (.int .i64 p) ∧ Gr w w') := fun w hw => by rw [← h1]; exact part_any a w hw
  have H2 : Hid (∀ w, Lay w → Calls Tryd.prog 10 #[.int .i32 b] w fun e w' => e = .returned (.int .i64 q) ∧ Gr w w') := fun w hw => by rw [← h2]; exact part_any b w hw
  clear h1 h2
  rcases h with ⟨h1, h2⟩ | ⟨rfl, h2⟩ | ⟨rfl, h2⟩
  · have e1 : (p == 1) = false := by simpa using h1
    have e2 : (p == 4) = false := by simpa using h2
    clear h1 h2
    go_enter Tryd.func16, Tryd.ntmps16
    go_wp2_with (go_at_call 10; (first
      | (refine (unhide H1 _ hL).mono ?_; rintro e w1 ⟨rfl, g1⟩; have hL1 := hL.gr g1; clear H1)
      | (refine (unhide H2 _ hL1).mono ?_; rintro e w2 ⟨rfl, g2⟩; have hL2 := hL1.gr g2; clear H2)))
    go_ret2
    exact ⟨rfl, g1.trans g2⟩
  · have e1 : (q == 2) = false := by simpa using h2
    clear h2
    go_enter Tryd.func16, Tryd.ntmps16
    go_wp2_with (go_at_call 10; (first
      | (refine (unhide H1 _ hL).mono ?_; rintro e w1 ⟨rfl, g1⟩; have hL1 := hL.gr g1; clear H1)
      | (refine (unhide H2 _ hL1).mono ?_; rintro e w2 ⟨rfl, g2⟩; have hL2 := hL1.gr g2; clear H2)))
    go_ret2
    exact ⟨rfl, g1.trans g2⟩
  · have e1 : (q == 3) = false := by simpa using h2
    clear h2
    go_enter Tryd.func16, Tryd.ntmps16
    go_wp2_with (go_at_call 10; (first
      | (refine (unhide H1 _ hL).mono ?_; rintro e w1 ⟨rfl, g1⟩; have hL1 := hL.gr g1; clear H1)
      | (refine (unhide H2 _ hL1).mono ?_; rintro e w2 ⟨rfl, g2⟩; have hL2 := hL1.gr g2; clear H2)))
    go_ret2
    exact ⟨rfl, g1.trans g2⟩

/-- Join, of any two numbers. -/
theorem join_any (a b : Int) (w : World) (hL : Lay w) : Calls Tryd.prog 16 #[.int .i32 a, .int .i32 b] w fun e w' => e = .returned (.tuple #[.int .i32 (jR a b), .bool (jB a b)]) ∧ Gr w w' := by
  cases hj : jB a b
  · rw [jR_none hj]
    exact join_no a b _ _ w hL rfl rfl (by rw [jB_not] at hj; omega)
  · rcases (jB_iff a b).1 hj with ⟨h1, h2⟩ | ⟨h1, h2⟩
    · exact join_lead a b w hL h1 h2
    · exact join_open a b w hL h1 h2

set_option maxHeartbeats 1600000 in
theorem rjoin_lead (a b : Int) (w : World) (h1 : part a = 1) (h2 : part b = 2) :
    Calls Tryd.prog 17 #[.int .i32 a, .int .i32 b] w fun e w' => e = .returned (.tuple #[.int .i32 (jR a b), .bool true]) ∧ w' = w := by
  have H1 : Hid (∀ w, Calls Tryd.prog 11 #[.int .i32 a] w fun e w' => e = .returned (.int .i64 1) ∧ w' = w) := fun w => by rw [← h1]; exact rpart_any a w
  have H2 : Hid (∀ w, Calls Tryd.prog 11 #[.int .i32 b] w fun e w' => e = .returned (.int .i64 2) ∧ w' = w) := fun w => by rw [← h2]; exact rpart_any b w
  have hR := jR_lead h1 h2
  rw [part_1] at h1
  rw [part_2] at h2
  have HR : Hid (44032 + 588 * (a - 4352) + 28 * (b - 4449) = jR a b) := by show _ = _; omega
  have k1 : IntKind.i32.wrap (a - 4352) = a - 4352 := wrap_in (by omega) (by omega)
  have k2 : IntKind.i32.wrap (588 * (a - 4352)) = 588 * (a - 4352) := wrap_in (by omega) (by omega)
  have k3 : IntKind.i32.wrap (b - 4449) = b - 4449 := wrap_in (by omega) (by omega)
  have k4 : IntKind.i32.wrap (44032 + 588 * (a - 4352)) = 44032 + 588 * (a - 4352) := wrap_in (by omega) (by omega)
  have k5 : IntKind.i32.wrap (28 * (b - 4449)) = 28 * (b - 4449) := wrap_in (by omega) (by omega)
  have k6 : IntKind.i32.wrap (44032 + 588 * (a - 4352) + 28 * (b - 4449)) = 44032 + 588 * (a - 4352) + 28 * (b - 4449) := wrap_in (by omega) (by omega)
  clear hR h1 h2
  go_enter Tryd.func17, Tryd.ntmps17
  go_wp2_with (go_at_call 11; (first
      | (refine (unhide H1 _).mono ?_; rintro e w1 ⟨rfl, rfl⟩; clear H1)
      | (refine (unhide H2 _).mono ?_; rintro e w2 ⟨rfl, rfl⟩; clear H2)))
  go_ret2
  exact ⟨ret_rb (unhide HR) rfl, rfl⟩

set_option maxHeartbeats 1600000 in
theorem rjoin_open (a b : Int) (w : World) (h1 : part a = 4) (h2 : part b = 3) :
    Calls Tryd.prog 17 #[.int .i32 a, .int .i32 b] w fun e w' => e = .returned (.tuple #[.int .i32 (jR a b), .bool true]) ∧ w' = w := by
  have H1 : Hid (∀ w, Calls Tryd.prog 11 #[.int .i32 a] w fun e w' => e = .returned (.int .i64 4) ∧ w' = w) := fun w => by rw [← h1]; exact rpart_any a w
  have H2 : Hid (∀ w, Calls Tryd.prog 11 #[.int .i32 b] w fun e w' => e = .returned (.int .i64 3) ∧ w' = w) := fun w => by rw [← h2]; exact rpart_any b w
  have H3 := H1
  have hR := jR_open h1 h2
  rw [part_4] at h1
  rw [part_3] at h2
  have HR : Hid (a + (b - 4519) = jR a b) := by show _ = _; omega
  have k1 : IntKind.i32.wrap (b - 4519) = b - 4519 := wrap_in (by omega) (by omega)
  have k3 : IntKind.i32.wrap (a + (b - 4519)) = a + (b - 4519) := wrap_in (by omega) (by omega)
  clear hR h1 h2
  go_enter Tryd.func17, Tryd.ntmps17
  go_wp2_with (go_at_call 11; (first
      | (refine (unhide H1 _).mono ?_; rintro e w1 ⟨rfl, rfl⟩; clear H1)
      | (refine (unhide H3 _).mono ?_; rintro e w1 ⟨rfl, rfl⟩; clear H3)
      | (refine (unhide H2 _).mono ?_; rintro e w2 ⟨rfl, rfl⟩; clear H2)))
  go_ret2
  exact ⟨ret_rb (unhide HR) rfl, rfl⟩

set_option maxHeartbeats 1600000 in
theorem rjoin_no (a b p q : Int) (w : World) (h1 : part a = p) (h2 : part b = q) (h : (p ≠ 1 ∧ p ≠ 4) ∨ (p = 1 ∧ q ≠ 2) ∨ (p = 4 ∧ q ≠ 3)) :
    Calls Tryd.prog 17 #[.int .i32 a, .int .i32 b] w fun e w' => e = .returned (.tuple #[.int .i32 0, .bool false]) ∧ w' = w := by
  have H1 : Hid (∀ w, Calls Tryd.prog 11 #[.int .i32 a] w fun e w' => e = .returned (.int .i64 p) ∧ w' = w) := fun w => by rw [← h1]; exact rpart_any a w
  have H2 : Hid (∀ w, Calls Tryd.prog 11 #[.int .i32 b] w fun e w' => e = .returned (.int .i64 q) ∧ w' = w) := fun w => by rw [← h2]; exact rpart_any b w
  have H3 := H1
  clear h1 h2
  rcases h with ⟨h1, h2⟩ | ⟨rfl, h2⟩ | ⟨rfl, h2⟩
  · have e1 : (p == 1) = false := by simpa using h1
    have e2 : (p == 4) = false := by simpa using h2
    clear h1 h2
    go_enter Tryd.func17, Tryd.ntmps17
    go_wp2_with (go_at_call 11; (first
      | (refine (unhide H1 _).mono ?_; rintro e w1 ⟨rfl, rfl⟩; clear H1)
      | (refine (unhide H3 _).mono ?_; rintro e w1 ⟨rfl, rfl⟩; clear H3)))
    go_ret2
    exact ⟨rfl, rfl⟩
  · have e1 : (q == 2) = false := by simpa using h2
    clear h2
    go_enter Tryd.func17, Tryd.ntmps17
    go_wp2_with (go_at_call 11; (first
      | (refine (unhide H1 _).mono ?_; rintro e w1 ⟨rfl, rfl⟩; clear H1)
      | (refine (unhide H2 _).mono ?_; rintro e w1 ⟨rfl, rfl⟩; clear H2)
      | (refine (unhide H3 _).mono ?_; rintro e w1 ⟨rfl, rfl⟩; clear H3)))
    go_ret2
    exact ⟨rfl, rfl⟩
  · have e1 : (q == 3) = false := by simpa using h2
    clear h2
    go_enter Tryd.func17, Tryd.ntmps17
    go_wp2_with (go_at_call 11; (first
      | (refine (unhide H1 _).mono ?_; rintro e w1 ⟨rfl, rfl⟩; clear H1)
      | (refine (unhide H3 _).mono ?_; rintro e w1 ⟨rfl, rfl⟩; clear H3)
      | (refine (unhide H2 _).mono ?_; rintro e w1 ⟨rfl, rfl⟩; clear H2)))
    go_ret2
    exact ⟨rfl, rfl⟩

/-- The document's Join, of any two numbers. -/
theorem rjoin_any (a b : Int) (w : World) : Calls Tryd.prog 17 #[.int .i32 a, .int .i32 b] w fun e w' => e = .returned (.tuple #[.int .i32 (jR a b), .bool (jB a b)]) ∧ w' = w := by
  cases hj : jB a b
  · rw [jR_none hj]
    exact rjoin_no a b _ _ w rfl rfl (by rw [jB_not] at hj; omega)
  · rcases (jB_iff a b).1 hj with ⟨h1, h2⟩ | ⟨h1, h2⟩
    · exact rjoin_lead a b w h1 h2
    · exact rjoin_open a b w h1 h2
end Go.Proofs.YtcgkdiflhlmlgaaDoor
