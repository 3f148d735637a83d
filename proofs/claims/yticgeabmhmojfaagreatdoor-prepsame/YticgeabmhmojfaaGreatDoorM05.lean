/- Part, the program's and the document's. -/
import Derived.Test.YticgeabmhmojfaaGreatDoorM03
import Derived.Test.YticgeabmhmojfaaGreatDoorM04
import Derived.Test.YticgeabmhmojfaaGreatDoorProg
import Derived.Test.YticgeabmhmojfaaGreatDoorM01
import Derived.WalkKit
import Derived.WalkSpells
import Derived.WalkLawsBesides
import Derived.Deep.QuietTactic
import Derived.BigQuiet
import Derived.Deep.RegionHeld3
namespace Go.Proofs.YticgeabmhmojfaaGreatDoor
set_option maxRecDepth 100000
open Go.RowKit

theorem idx0 (W : World) : (Instr.index 113 (.agg #[.int .i32 4352, .int .i32 4370, .int .i32 4449, .int .i32 4469, .int .i32 4520, .int .i32 4546]) (.int .i64 0)).run Tryz.prog W = .ok (.agg #[.int .i32 4352, .int .i32 4370]) W := by kernel_rfl
theorem idx1 (W : World) : (Instr.index 113 (.agg #[.int .i32 4352, .int .i32 4370, .int .i32 4449, .int .i32 4469, .int .i32 4520, .int .i32 4546]) (.int .i64 1)).run Tryz.prog W = .ok (.agg #[.int .i32 4449, .int .i32 4469]) W := by kernel_rfl
theorem idx2 (W : World) : (Instr.index 113 (.agg #[.int .i32 4352, .int .i32 4370, .int .i32 4449, .int .i32 4469, .int .i32 4520, .int .i32 4546]) (.int .i64 2)).run Tryz.prog W = .ok (.agg #[.int .i32 4520, .int .i32 4546]) W := by kernel_rfl

set_option maxHeartbeats 800000 in
theorem part_open (r : Int) (w : World) (h0 : isSyl r = true) (h1 : (r - 44032) % 28 = 0) : Calls Tryz.prog 78 #[.int .i32 r] w fun e w' => e = .returned (.int .i64 4) ∧ w' = w := by
  have hx := (syl_iff r).1 h0
  have HS : Hid (∀ w, Calls Tryz.prog 57 #[.int .i32 r] w fun e w' => e = .returned (.bool true) ∧ w' = w) := fun w => by rw [← h0]; exact syl_any r w
  have k1 : IntKind.i32.wrap (r - 44032) = r - 44032 := wrap_in (by omega) (by omega)
  go_enter Tryz.func78, Tryz.ntmps78
  go_wp2_with (go_at_call 57; refine (unhide HS _).mono ?_; rintro e w' ⟨rfl, rfl⟩)
  go_ret
  exact ⟨rfl, rfl⟩

set_option maxHeartbeats 800000 in
theorem part_closed (r : Int) (w : World) (h0 : isSyl r = true) (h1 : ¬ (r - 44032) % 28 = 0) : Calls Tryz.prog 78 #[.int .i32 r] w fun e w' => e = .returned (.int .i64 5) ∧ w' = w := by
  have hx := (syl_iff r).1 h0
  have HS : Hid (∀ w, Calls Tryz.prog 57 #[.int .i32 r] w fun e w' => e = .returned (.bool true) ∧ w' = w) := fun w => by rw [← h0]; exact syl_any r w
  have k1 : IntKind.i32.wrap (r - 44032) = r - 44032 := wrap_in (by omega) (by omega)
  go_enter Tryz.func78, Tryz.ntmps78
  go_wp2_with (go_at_call 57; refine (unhide HS _).mono ?_; rintro e w' ⟨rfl, rfl⟩)
  go_ret
  exact ⟨rfl, rfl⟩

set_option maxHeartbeats 800000 in
theorem part_lead (r : Int) (w : World) (hL : Lay w) (h : 4352 ≤ r ∧ r ≤ 4370) : Calls Tryz.prog 78 #[.int .i32 r] w fun e w' => e = .returned (.int .i64 1) ∧ Gr w w' := by
  have h0 : isSyl r = false := by rw [syl_not]; omega
  have HS : Hid (∀ w, Calls Tryz.prog 57 #[.int .i32 r] w fun e w' => e = .returned (.bool false) ∧ w' = w) := fun w => by rw [← h0]; exact syl_any r w
  obtain ⟨c0, c1, c2, c3, c4, c5⟩ := hL
  have f0 : 4352 ≤ r := by omega
  have f1 : r ≤ 4370 := by omega
  have x0 := idx0
  go_enter Tryz.func78, Tryz.ntmps78
  go_wp2_with (go_at_call 57; refine (unhide HS _).mono ?_; rintro e w' ⟨rfl, rfl⟩)
  refine wp_loop_rounds 1 ?_
  rw [rounds_succ]
  go_wp2
  go_ret
  exact ⟨rfl, (Gr.refl _).alloc _⟩

set_option maxHeartbeats 800000 in
theorem part_vowel (r : Int) (w : World) (hL : Lay w) (h : 4449 ≤ r ∧ r ≤ 4469) : Calls Tryz.prog 78 #[.int .i32 r] w fun e w' => e = .returned (.int .i64 2) ∧ Gr w w' := by
  have h0 : isSyl r = false := by rw [syl_not]; omega
  have HS : Hid (∀ w, Calls Tryz.prog 57 #[.int .i32 r] w fun e w' => e = .returned (.bool false) ∧ w' = w) := fun w => by rw [← h0]; exact syl_any r w
  obtain ⟨c0, c1, c2, c3, c4, c5⟩ := hL
  have f0 : 4352 ≤ r := by omega
  have f1 : ¬ r ≤ 4370 := by omega
  have f2 : 4449 ≤ r := by omega
  have f3 : r ≤ 4469 := by omega
  have x0 := idx0
  have x1 := idx1
  go_enter Tryz.func78, Tryz.ntmps78
  go_wp2_with (go_at_call 57; refine (unhide HS _).mono ?_; rintro e w' ⟨rfl, rfl⟩)
  refine wp_loop_rounds 2 ?_
  rw [rounds_succ]
  go_wp2
  rw [rounds_succ]
  go_wp2
  go_ret
  exact ⟨rfl, ((Gr.refl _).alloc _).alloc _⟩

set_option maxHeartbeats 800000 in
theorem part_tail (r : Int) (w : World) (hL : Lay w) (h : 4520 ≤ r ∧ r ≤ 4546) : Calls Tryz.prog 78 #[.int .i32 r] w fun e w' => e = .returned (.int .i64 3) ∧ Gr w w' := by
  have h0 : isSyl r = false := by rw [syl_not]; omega
  have HS : Hid (∀ w, Calls Tryz.prog 57 #[.int .i32 r] w fun e w' => e = .returned (.bool false) ∧ w' = w) := fun w => by rw [← h0]; exact syl_any r w
  obtain ⟨c0, c1, c2, c3, c4, c5⟩ := hL
  have f0 : 4352 ≤ r := by omega
  have f1 : ¬ r ≤ 4370 := by omega
  have f2 : 4449 ≤ r := by omega
  have f3 : ¬ r ≤ 4469 := by omega
  have f4 : 4520 ≤ r := by omega
  have f5 : r ≤ 4546 := by omega
  have x0 := idx0
  have x1 := idx1
  have x2 := idx2
  go_enter Tryz.func78, Tryz.ntmps78
  go_wp2_with (go_at_call 57; refine (unhide HS _).mono ?_; rintro e w' ⟨rfl, rfl⟩)
  refine wp_loop_rounds 3 ?_
  rw [rounds_succ]
  go_wp2
  rw [rounds_succ]
  go_wp2
  rw [rounds_succ]
  go_wp2
  go_ret
  exact ⟨rfl, (((Gr.refl _).alloc _).alloc _).alloc _⟩

set_option maxHeartbeats 800000 in
theorem part_n0 (r : Int) (w : World) (hL : Lay w) (h : r < 4352) : Calls Tryz.prog 78 #[.int .i32 r] w fun e w' => e = .returned (.int .i64 0) ∧ Gr w w' := by
  have h0 : isSyl r = false := by rw [syl_not]; omega
  have HS : Hid (∀ w, Calls Tryz.prog 57 #[.int .i32 r] w fun e w' => e = .returned (.bool false) ∧ w' = w) := fun w => by rw [← h0]; exact syl_any r w
  obtain ⟨c0, c1, c2, c3, c4, c5⟩ := hL
  have f0 : ¬ 4352 ≤ r := by omega
  have f1 : ¬ 4449 ≤ r := by omega
  have f2 : ¬ 4520 ≤ r := by omega
  have x0 := idx0
  have x1 := idx1
  have x2 := idx2
  go_enter Tryz.func78, Tryz.ntmps78
  go_wp2_with (go_at_call 57; refine (unhide HS _).mono ?_; rintro e w' ⟨rfl, rfl⟩)
  refine wp_loop_rounds 4 ?_
  rw [rounds_succ]
  go_wp2
  rw [rounds_succ]
  go_wp2
  rw [rounds_succ]
  go_wp2
  rw [rounds_succ]
  go_wp2
  go_ret
  exact ⟨rfl, (((Gr.refl _).alloc _).alloc _).alloc _⟩

set_option maxHeartbeats 800000 in
theorem part_n1 (r : Int) (w : World) (hL : Lay w) (h : 4370 < r ∧ r < 4449) : Calls Tryz.prog 78 #[.int .i32 r] w fun e w' => e = .returned (.int .i64 0) ∧ Gr w w' := by
  have h0 : isSyl r = false := by rw [syl_not]; omega
  have HS : Hid (∀ w, Calls Tryz.prog 57 #[.int .i32 r] w fun e w' => e = .returned (.bool false) ∧ w' = w) := fun w => by rw [← h0]; exact syl_any r w
  obtain ⟨c0, c1, c2, c3, c4, c5⟩ := hL
  have f0 : 4352 ≤ r := by omega
  have f1 : ¬ r ≤ 4370 := by omega
  have f2 : ¬ 4449 ≤ r := by omega
  have f3 : ¬ 4520 ≤ r := by omega
  have x0 := idx0
  have x1 := idx1
  have x2 := idx2
  go_enter Tryz.func78, Tryz.ntmps78
  go_wp2_with (go_at_call 57; refine (unhide HS _).mono ?_; rintro e w' ⟨rfl, rfl⟩)
  refine wp_loop_rounds 4 ?_
  rw [rounds_succ]
  go_wp2
  rw [rounds_succ]
  go_wp2
  rw [rounds_succ]
  go_wp2
  rw [rounds_succ]
  go_wp2
  go_ret
  exact ⟨rfl, (((Gr.refl _).alloc _).alloc _).alloc _⟩

set_option maxHeartbeats 800000 in
theorem part_n2 (r : Int) (w : World) (hL : Lay w) (h : 4469 < r ∧ r < 4520) : Calls Tryz.prog 78 #[.int .i32 r] w fun e w' => e = .returned (.int .i64 0) ∧ Gr w w' := by
  have h0 : isSyl r = false := by rw [syl_not]; omega
  have HS : Hid (∀ w, Calls Tryz.prog 57 #[.int .i32 r] w fun e w' => e = .returned (.bool false) ∧ w' = w) := fun w => by rw [← h0]; exact syl_any r w
  obtain ⟨c0, c1, c2, c3, c4, c5⟩ := hL
  have f0 : 4352 ≤ r := by omega
  have f1 : ¬ r ≤ 4370 := by omega
  have f2 : 4449 ≤ r := by omega
  have f3 : ¬ r ≤ 4469 := by omega
  have f4 : ¬ 4520 ≤ r := by omega
  have x0 := idx0
  have x1 := idx1
  have x2 := idx2
  go_enter Tryz.func78, Tryz.ntmps78
  go_wp2_with (go_at_call 57; refine (unhide HS _).mono ?_; rintro e w' ⟨rfl, rfl⟩)
  refine wp_loop_rounds 4 ?_
  rw [rounds_succ]
  go_wp2
  rw [rounds_succ]
  go_wp2
  rw [rounds_succ]
  go_wp2
  rw [rounds_succ]
  go_wp2
  go_ret
  exact ⟨rfl, (((Gr.refl _).alloc _).alloc _).alloc _⟩

set_option maxHeartbeats 800000 in
theorem part_n3 (r : Int) (w : World) (hL : Lay w) (h : 4546 < r ∧ ¬ (44032 ≤ r ∧ r ≤ 55203)) : Calls Tryz.prog 78 #[.int .i32 r] w fun e w' => e = .returned (.int .i64 0) ∧ Gr w w' := by
  have h0 : isSyl r = false := by rw [syl_not]; omega
  have HS : Hid (∀ w, Calls Tryz.prog 57 #[.int .i32 r] w fun e w' => e = .returned (.bool false) ∧ w' = w) := fun w => by rw [← h0]; exact syl_any r w
  obtain ⟨c0, c1, c2, c3, c4, c5⟩ := hL
  have f0 : 4352 ≤ r := by omega
  have f1 : ¬ r ≤ 4370 := by omega
  have f2 : 4449 ≤ r := by omega
  have f3 : ¬ r ≤ 4469 := by omega
  have f4 : 4520 ≤ r := by omega
  have f5 : ¬ r ≤ 4546 := by omega
  have x0 := idx0
  have x1 := idx1
  have x2 := idx2
  go_enter Tryz.func78, Tryz.ntmps78
  go_wp2_with (go_at_call 57; refine (unhide HS _).mono ?_; rintro e w' ⟨rfl, rfl⟩)
  refine wp_loop_rounds 4 ?_
  rw [rounds_succ]
  go_wp2
  rw [rounds_succ]
  go_wp2
  rw [rounds_succ]
  go_wp2
  rw [rounds_succ]
  go_wp2
  go_ret
  exact ⟨rfl, (((Gr.refl _).alloc _).alloc _).alloc _⟩

/-- Part, of any number. -/
theorem part_any (r : Int) (w : World) (hL : Lay w) : Calls Tryz.prog 78 #[.int .i32 r] w fun e w' => e = .returned (.int .i64 (part r)) ∧ Gr w w' := by
  rcases part_cases r with ⟨e, h⟩ | ⟨e, h⟩ | ⟨e, h⟩ | ⟨e, h1, h2, h3⟩ | ⟨e, h1, h2, h3⟩ | ⟨e, h1, h2, h3, h4⟩ <;> rw [e]
  · exact part_lead r w hL h
  · exact part_vowel r w hL h
  · exact part_tail r w hL h
  · exact (part_open r w ((syl_iff r).2 ⟨h1, h2⟩) h3).mono fun e w' ⟨he, hw⟩ => ⟨he, by rw [hw]; exact Gr.refl _⟩
  · exact (part_closed r w ((syl_iff r).2 ⟨h1, h2⟩) h3).mono fun e w' ⟨he, hw⟩ => ⟨he, by rw [hw]; exact Gr.refl _⟩
  · by_cases g1 : r < 4352
    · exact part_n0 r w hL g1
    · by_cases g2 : r < 4449
      · exact part_n1 r w hL (by omega)
      · by_cases g3 : r < 4520
        · exact part_n2 r w hL (by omega)
        · exact part_n3 r w hL (by omega)

end Go.Proofs.YticgeabmhmojfaaGreatDoor
/- Join, the program's and the document's. -/
namespace Go.Proofs.YticgeabmhmojfaaGreatDoor
set_option maxRecDepth 100000
open Go.RowKit

theorem ret_rb {a a' : Int} {b b' : Bool} (h : a = a') (h' : b = b') : Ending.returned (.tuple #[.int .i32 a, .bool b]) = .returned (.tuple #[.int .i32 a', .bool b']) := by rw [h, h']

set_option maxHeartbeats 1600000 in
theorem join_lead (a b : Int) (w : World) (hL : Lay w) (h1 : part a = 1) (h2 : part b = 2) :
    Calls Tryz.prog 66 #[.int .i32 a, .int .i32 b] w fun e w' => e = .returned (.tuple #[.int .i32 (jR a b), .bool true]) ∧ Gr w w' := by
  have H1 : Hid (∀ w, Lay w → Calls Tryz.prog 78 #[.int .i32 a] w fun e w' => e = .returned (.int .i64 1) ∧ Gr w w') := fun w hw => by rw [← h1]; exact part_any a w hw
  have H2 : Hid (∀ w, Lay w → Calls Tryz.prog 78 #[.int .i32 b] w fun e w' => e = .returned (.int .i64 2) ∧ Gr w w') := fun w hw => by rw [← h2]; exact part_any b w hw
  have hR := jR_lead h1 h2
  rw [part_1] at h1
  rw [part_2] at h2
  have HR : Hid (44032 + ((a - 4352) * 21 + (b - 4449)) * 28 = jR a b) := by show _ = _; omega
  have k1 : IntKind.i32.wrap (a - 4352) = a - 4352 := wrap_in (by omega) (by omega)
  have k2 : IntKind.i32.wrap ((a - 4352) * 21) = (a - 4352) * 21 := wrap_in (by omega) (by omega)
  have k3 : IntKind.i32.wrap (b - 4449) = b - 4449 := wrap_in (by omega) (by omega)
  have k4 : IntKind.i32.wrap ((a - 4352) * 21 + (b - 4449)) = (a - 4352) * 21 + (b - 4449) := wrap_in (by omega) (by omega)
  have k5 : IntKind.i32.wrap (((a - 4352) * 21 + (b - 4449)) * 28) = ((a - 4352) * 21 + (b - 4449)) * 28 := wrap_in (by omega) (by omega)
  have k6 : IntKind.i32.wrap (44032 + ((a - 4352) * 21 + (b - 4449)) * 28) = 44032 + ((a - 4352) * 21 + (b - 4449)) * 28 := wrap_in (by omega) (by omega)
  clear hR h1 h2
  go_enter Tryz.func66, Tryz.ntmps66
  go_wp2_with (first
    | (go_at_call 78; (first
      | (refine (unhide H1 _ hL).mono ?_; rintro e w1 ⟨rfl, g1⟩; have hL1 := hL.gr g1; clear H1)
      | (refine (unhide H2 _ hL1).mono ?_; rintro e w2 ⟨rfl, g2⟩; have hL2 := hL1.gr g2; clear H2)))
    | (go_at_call 73; (first | refine (first_1 _ hL2).mono ?_ | refine (first_2 _ hL2).mono ?_ | refine (first_3 _ hL2).mono ?_); rintro e w9 ⟨rfl, rfl⟩))
  go_ret2
  exact ⟨ret_rb (unhide HR) rfl, g1.trans g2⟩

set_option maxHeartbeats 1600000 in
theorem join_open (a b : Int) (w : World) (hL : Lay w) (h1 : part a = 4) (h2 : part b = 3) :
    Calls Tryz.prog 66 #[.int .i32 a, .int .i32 b] w fun e w' => e = .returned (.tuple #[.int .i32 (jR a b), .bool true]) ∧ Gr w w' := by
  have H1 : Hid (∀ w, Lay w → Calls Tryz.prog 78 #[.int .i32 a] w fun e w' => e = .returned (.int .i64 4) ∧ Gr w w') := fun w hw => by rw [← h1]; exact part_any a w hw
  have H2 : Hid (∀ w, Lay w → Calls Tryz.prog 78 #[.int .i32 b] w fun e w' => e = .returned (.int .i64 3) ∧ Gr w w') := fun w hw => by rw [← h2]; exact part_any b w hw
  have hR := jR_open h1 h2
  rw [part_4] at h1
  rw [part_3] at h2
  have HR : Hid (a + (b - 4520 + 1) = jR a b) := by show _ = _; omega
  have k1 : IntKind.i32.wrap (b - 4520) = b - 4520 := wrap_in (by omega) (by omega)
  have k2 : IntKind.i32.wrap (b - 4520 + 1) = b - 4520 + 1 := wrap_in (by omega) (by omega)
  have k3 : IntKind.i32.wrap (a + (b - 4520 + 1)) = a + (b - 4520 + 1) := wrap_in (by omega) (by omega)
  clear hR h1 h2
  go_enter Tryz.func66, Tryz.ntmps66
  go_wp2_with (first
    | (go_at_call 78; (first
      | (refine (unhide H1 _ hL).mono ?_; rintro e w1 ⟨rfl, g1⟩; have hL1 := hL.gr g1; clear H1)
      | (refine (unhide H2 _ hL1).mono ?_; rintro e w2 ⟨rfl, g2⟩; have hL2 := hL1.gr g2; clear H2)))
    | (go_at_call 73; (first | refine (first_1 _ hL2).mono ?_ | refine (first_2 _ hL2).mono ?_ | refine (first_3 _ hL2).mono ?_); rintro e w9 ⟨rfl, rfl⟩))
  go_ret2
  exact ⟨ret_rb (unhide HR) rfl, g1.trans g2⟩

set_option maxHeartbeats 1600000 in
theorem join_no (a b p q : Int) (w : World) (hL : Lay w) (h1 : part a = p) (h2 : part b = q) (h : (p ≠ 1 ∧ p ≠ 4) ∨ (p = 1 ∧ q ≠ 2) ∨ (p = 4 ∧ q ≠ 3)) :
    Calls Tryz.prog 66 #[.int .i32 a, .int .i32 b] w fun e w' => e = .returned (.tuple #[.int .i32 0, .bool false]) ∧ Gr w w' := by
  have H1 : Hid (∀ w, Lay w → Calls Tryz.prog 78 #[.int .i32 a] w fun e w' => e = .returned (.int .i64 p) ∧ Gr w w') := fun w hw => by rw [← h1]; exact part_any a w hw
  have H2 : Hid (∀ w, Lay w → Calls Tryz.prog 78 #[.int .i32 b] w fun e w' => e = .returned (.int .i64 q) ∧ Gr w w') := fun w hw => by rw [← h2]; exact part_any b w hw
  clear h1 h2
  rcases h with ⟨h1, h2⟩ | ⟨rfl, h2⟩ | ⟨rfl, h2⟩
  · have e1 : (p == 1) = false := by simpa using h1
    have e2 : (p == 4) = false := by simpa using h2
    clear h1 h2
    go_enter Tryz.func66, Tryz.ntmps66
    go_wp2_with (go_at_call 78; (first
      | (refine (unhide H1 _ hL).mono ?_; rintro e w1 ⟨rfl, g1⟩; have hL1 := hL.gr g1; clear H1)
      | (refine (unhide H2 _ hL1).mono ?_; rintro e w2 ⟨rfl, g2⟩; have hL2 := hL1.gr g2; clear H2)))
    go_ret2
    exact ⟨rfl, g1.trans g2⟩
  · have e1 : (q == 2) = false := by simpa using h2
    clear h2
    go_enter Tryz.func66, Tryz.ntmps66
    go_wp2_with (go_at_call 78; (first
      | (refine (unhide H1 _ hL).mono ?_; rintro e w1 ⟨rfl, g1⟩; have hL1 := hL.gr g1; clear H1)
      | (refine (unhide H2 _ hL1).mono ?_; rintro e w2 ⟨rfl, g2⟩; have hL2 := hL1.gr g2; clear H2)))
    go_ret2
    exact ⟨rfl, g1.trans g2⟩
  · have e1 : (q == 3) = false := by simpa using h2
    clear h2
    go_enter Tryz.func66, Tryz.ntmps66
    go_wp2_with (go_at_call 78; (first
      | (refine (unhide H1 _ hL).mono ?_; rintro e w1 ⟨rfl, g1⟩; have hL1 := hL.gr g1; clear H1)
      | (refine (unhide H2 _ hL1).mono ?_; rintro e w2 ⟨rfl, g2⟩; have hL2 := hL1.gr g2; clear H2)))
    go_ret2
    exact ⟨rfl, g1.trans g2⟩

/-- Join, of any two numbers. -/
theorem join_any (a b : Int) (w : World) (hL : Lay w) : Calls Tryz.prog 66 #[.int .i32 a, .int .i32 b] w fun e w' => e = .returned (.tuple #[.int .i32 (jR a b), .bool (jB a b)]) ∧ Gr w w' := by
  cases hj : jB a b
  · rw [jR_none hj]
    exact join_no a b _ _ w hL rfl rfl (by rw [jB_not] at hj; omega)
  · rcases (jB_iff a b).1 hj with ⟨h1, h2⟩ | ⟨h1, h2⟩
    · exact join_lead a b w hL h1 h2
    · exact join_open a b w hL h1 h2

end Go.Proofs.YticgeabmhmojfaaGreatDoor
/- sort.Search, whatever it is handed. -/
namespace Go.Proofs.YticgeabmhmojfaaGreatDoor
set_option maxRecDepth 100000
open Go.RowKit
open Go.Sort (grow)

theorem mixed : Tryz.prog.follows .mixedOrders = true := by kernel_rfl

set_option maxHeartbeats 800000 in
/-- sort.Search: a place with no true one right ahead, that is true itself or the end. -/
theorem search_any (g : Nat) (cb : Array Value) (n : Nat) (p : Nat → Bool) (w : World) (eg : ∀ args w, (callFunc g args).run Tryz.prog w = .ok (.enter g args) w) (hn : n ≤ 700)
    (hf : ∀ (W : World) (i : Nat), Gr w W → i < n → Calls Tryz.prog g (#[.int .i64 i] ++ cb) W fun e w' => e = .returned (.bool (p i)) ∧ Gr W w') :
    Calls Tryz.prog 38 #[.int .i64 n, .func (.func g) #[] cb] w fun e w' => ∃ m : Nat, e = .returned (.int .i64 m) ∧ m ≤ n ∧ (m = 0 ∨ p (m - 1) = false) ∧ (m = n ∨ p m = true) ∧ Gr w w' := by
  have HF := hide hf
  clear hf
  go_enter Tryz.func38, Tryz.ntmps38
  go_wp2
  go_loopw [5, 6] (fun x y wr => ∃ lo hi : Nat, x = .int .i64 lo ∧ y = .int .i64 hi ∧ lo ≤ hi ∧ hi ≤ n ∧ Gr w wr ∧ Hid ((lo = 0 ∨ p (lo - 1) = false) ∧ (hi = n ∨ p hi = true))) (fun x y _ => (intOf y - intOf x).toNat)
  case atStart => exact ⟨0, n, rfl, rfl, Nat.zero_le _, Nat.le_refl _, Gr.refl _, hide ⟨.inl rfl, .inl rfl⟩⟩
  case round =>
    obtain ⟨lo, hi, rfl, rfl, hlh, hin, hg, HI⟩ := hrel
    by_cases hlt : lo < hi
    · have hltz : (lo : Int) < (hi : Int) := by omega
      have hc := unhide HF wr ((lo + hi) / 2) hg (by omega)
      rw [show (((lo + hi) / 2 : Nat) : Int) = ((lo : Int) + (hi : Int)) / 2 by omega] at hc
      cases hp : p ((lo + hi) / 2) <;> rw [hp] at hc
      · have HP := hide hp
        clear hp
        go_wp2_with (refine hc.mono ?_; rintro e w' ⟨rfl, hg2⟩)
        go_roundw
        case rel =>
          exact ⟨(lo + hi) / 2 + 1, hi, by congr 1, rfl, by omega, hin, hg.trans hg2, hide ⟨.inr (by simpa using unhide HP), (unhide HI).2⟩⟩
        case measure => simp [intOf]; omega
      · have HP := hide hp
        clear hp
        go_wp2_with (refine hc.mono ?_; rintro e w' ⟨rfl, hg2⟩)
        go_roundw
        case rel =>
          exact ⟨lo, (lo + hi) / 2, rfl, by congr 1, by omega, by omega, hg.trans hg2, hide ⟨(unhide HI).1, .inr (unhide HP)⟩⟩
        case measure => simp [intOf]; omega
    · have hltz : ¬ (lo : Int) < (hi : Int) := by omega
      obtain rfl : hi = lo := by omega
      go_wp2
      go_ret
      exact ⟨hi, rfl, hin, (unhide HI).1, (unhide HI).2, hg⟩

end Go.Proofs.YticgeabmhmojfaaGreatDoor
/- Kind: what it answers of any number. -/
namespace Go.Proofs.YticgeabmhmojfaaGreatDoor
set_option maxRecDepth 100000
open Go.RowKit
open Go.Sort (grow)

set_option maxHeartbeats 400000 in
theorem holds_any (f t h r : Int) (w : World) :
    Calls Tryz.prog 40 #[.agg #[.int .i32 f, .int .i32 t, .int .i64 h], .int .i32 r] w fun e w' => e = .returned (.bool (inS ⟨f, t, h⟩ r)) ∧ Gr w w' := by
  generalize hm : inS ⟨f, t, h⟩ r = m
  by_cases h1 : f ≤ r
  · by_cases h2 : r ≤ t
    · go_enter Tryz.func40, Tryz.ntmps40
      go_wp2
      go_ret
      exact ⟨ret_bool (by rw [← hm]; simp [inS]; omega), (Gr.refl _).alloc _⟩
    · go_enter Tryz.func40, Tryz.ntmps40
      go_wp2
      go_ret
      exact ⟨ret_bool (by rw [← hm]; simp [inS]; omega), (Gr.refl _).alloc _⟩
  · go_enter Tryz.func40, Tryz.ntmps40
    go_wp2
    go_ret
    exact ⟨ret_bool (by rw [← hm]; simp [inS]; omega), (Gr.refl _).alloc _⟩

/-- The row of a plane's last two. -/
def lastS (p : Int) : Sp := ⟨p * 65536 + 65534, p * 65536 + 65535, 7⟩
def cellsS (s : Sp) : Array Value := #[.int .i32 s.f, .int .i32 s.t, .int .i64 s.h]

set_option maxHeartbeats 400000 in
theorem lastTwo_any (p : Int) (h0 : 0 ≤ p) (h1 : p ≤ 100) (w : World) :
    Calls Tryz.prog 56 #[.int .i64 p] w fun e w' => e = .returned (.agg #[.int .i32 (p * 65536 + 65534), .int .i32 (p * 65536 + 65535), .int .i64 7]) ∧ Gr w w' := by
  go_enter Tryz.func56, Tryz.ntmps56
  have k1 : IntKind.i64.wrap (p + 1) = p + 1 := by rw [IntKind.wrap_i64]; omega
  have k2 : IntKind.i32.wrap (p + 1) = p + 1 := by simp [IntKind.wrap, IntKind.bits, IntKind.signed]; omega
  have k3 : IntKind.i32.wrap ((p + 1) * 65536) = (p + 1) * 65536 := by simp [IntKind.wrap, IntKind.bits, IntKind.signed]; omega
  have k4 : IntKind.i32.wrap ((p + 1) * 65536 - 1) = p * 65536 + 65535 := by simp [IntKind.wrap, IntKind.bits, IntKind.signed]; omega
  have k5 : IntKind.i32.wrap (p * 65536 + 65535 - 1) = p * 65536 + 65534 := by simp [IntKind.wrap, IntKind.bits, IntKind.signed]; omega
  go_wp2
  refine bodyPost_ret (v := .agg #[.int .i32 (p * 65536 + 65534), .int .i32 (p * 65536 + 65535), .int .i64 7]) (by simp [results, Tryz.results56, go_sem]) rfl ⟨rfl, ?_⟩
  exact (Gr.refl _).alloc _

set_option maxHeartbeats 400000 in
theorem kind1_any (ba bx i : Nat) (t r : Int) (W : World) (hi : i < 90) (hc : W.cell? ⟨ba, i * 3 + 1, none⟩ = some (.int .i32 t)) (hx : W.cell? ⟨bx, 0, none⟩ = some (.int .i32 r)) :
    Calls Tryz.prog 39 (#[.int .i64 i] ++ #[.pointer (some ⟨ba, 0, none⟩), .pointer (some ⟨bx, 0, none⟩)]) W fun e w' => e = .returned (.bool (decide (r ≤ t))) ∧ Gr W w' := by
  have hz0 : (0 : Int) ≤ (i : Int) := by omega
  have hzl : (i : Int) < 90 := by omega
  go_enter Tryz.func39, Tryz.ntmps39
  go_wp2
  go_quiet (fail)
  go_wp2
  go_ret
  exact ⟨rfl, (Gr.refl _).drewN _⟩

/-- The rows behind the first plane; the whole table. -/
def rowsP : List Sp := (List.range 16).map fun (i : Nat) => lastS ((i : Int) + 1)
def rowsT : List Sp := rowsA ++ rowsP
theorem rowsP_len : rowsP.length = 16 := rfl
theorem rowsP_get (k : Nat) (h : k < 16) : rowsP.getD k sp0 = lastS ((k : Int) + 1) := by
  simp [rowsP, List.getD, h]
def kd (r : Int) : Int := fnd rowsT r

set_option maxHeartbeats 800000 in
theorem behind_any (r : Int) (w : World) :
    Calls Tryz.prog 36 #[.int .i32 r] w fun e w' => e = .returned (.int .i64 (fnd rowsP r)) ∧ Gr w w' := by
  have HL : Hid (∀ (k : Nat) W, k < 16 → Calls Tryz.prog 56 #[.int .i64 ((k : Int) + 1)] W fun e w' => e = .returned (.agg #[.int .i32 (((k : Int) + 1) * 65536 + 65534), .int .i32 (((k : Int) + 1) * 65536 + 65535), .int .i64 7]) ∧ Gr W w') := fun k W hk => lastTwo_any _ (by omega) (by omega) W
  go_enter Tryz.func36, Tryz.ntmps36
  go_wp2
  go_loopw [5] (fun i wr => ∃ k : Nat, k ≤ 16 ∧ i = .int .i64 k ∧ Gr w wr ∧ Hid (∀ j, j < k → inS (rowsP.getD j sp0) r = false)) (fun i _ => 16 - (intOf i).toNat)
  case atStart => exact ⟨0, Nat.zero_le _, rfl, Gr.refl _, hide (fun j hj => by omega)⟩
  case round =>
    obtain ⟨k, hk, rfl, hg, HE⟩ := hrel
    by_cases hlt : k < 16
    · have hzl : (k : Int) < 16 := by omega
      have hz0 : (0 : Int) ≤ (k : Int) := by omega
      have hin : inS (rowsP.getD k sp0) r = true → Hid (fnd rowsP r = 7) := fun h => by
        show fnd rowsP r = 7
        rw [fnd_at rowsP r k (by rw [rowsP_len]; exact hlt) (unhide HE) h, rowsP_get k hlt]; rfl
      have hout : inS (rowsP.getD k sp0) r = false → Hid (∀ j, j < k + 1 → inS (rowsP.getD j sp0) r = false) := fun h => by
        show ∀ j, j < k + 1 → inS (rowsP.getD j sp0) r = false
        intro j hj
        rcases Nat.lt_succ_iff_lt_or_eq.1 hj with h1 | rfl
        · exact unhide HE j h1
        · exact h
      rw [rowsP_get k hlt] at hin hout
      have hh := fun w => holds_any (((k : Int) + 1) * 65536 + 65534) (((k : Int) + 1) * 65536 + 65535) 7 r w
      have HLK : Hid (∀ W, Calls Tryz.prog 56 #[.int .i64 ((k : Int) + 1)] W fun e w' => e = .returned (.agg #[.int .i32 (((k : Int) + 1) * 65536 + 65534), .int .i32 (((k : Int) + 1) * 65536 + 65535), .int .i64 7]) ∧ Gr W w') := fun W => unhide HL k W hlt
      have hq : inS ⟨((k : Int) + 1) * 65536 + 65534, ((k : Int) + 1) * 65536 + 65535, 7⟩ r = inS (lastS ((k : Int) + 1)) r := rfl
      rw [hq] at hh
      have k1 : IntKind.i64.wrap ((k : Int) + 1) = (k : Int) + 1 := by rw [IntKind.wrap_i64]; omega
      generalize ((k : Int) + 1) * 65536 + 65534 = f at *
      generalize ((k : Int) + 1) * 65536 + 65535 = t at *
      cases hi : inS (lastS ((k : Int) + 1)) r <;> rw [hi] at hh
      · have HO := hout hi
        have HH := hide hh
        clear hin hout hi hh hq
        go_wp2_with (first
          | (go_at_call 56; refine (unhide HLK _).mono ?_; rintro e w1 ⟨rfl, hg1⟩)
          | (go_at_call 40; refine (unhide HH _).mono ?_; rintro e w2 ⟨rfl, hg2⟩))
        go_roundw
        case rel => exact ⟨k + 1, by omega, by go_num, ((hg.trans hg1).alloc _).trans hg2, HO⟩
        case measure => simp [intOf]; omega
      · have HO := hin hi
        have HH := hide hh
        clear hin hout hi hh hq
        go_wp2_with (first
          | (go_at_call 56; refine (unhide HLK _).mono ?_; rintro e w1 ⟨rfl, hg1⟩; have c3 := (box3 w1 (.int .i32 f) (.int .i32 t) (.int .i64 7) 58).2.2)
          | (go_at_call 40; refine (unhide HH _).mono ?_; rintro e w2 ⟨rfl, hg2⟩; replace c3 := hg2.cell c3))
        go_ret
        exact ⟨ret_int (unhide HO).symm, ((hg.trans hg1).alloc _).trans hg2⟩
    · have hzl : ¬ (k : Int) < 16 := by omega
      have HB : Hid (fnd rowsP r = 0) := fnd_none rowsP r (fun i hi => unhide HE i (by rw [rowsP_len] at hi; omega))
      go_wp2
      go_ret
      exact ⟨ret_int (unhide HB).symm, hg⟩
end Go.Proofs.YticgeabmhmojfaaGreatDoor
/- Kind: what it answers of any number. -/
namespace Go.Proofs.YticgeabmhmojfaaGreatDoor
set_option maxRecDepth 100000
open Go.RowKit
open Go.Sort (grow)

theorem fnd_app_left (a b : List Sp) (r : Int) (h : fnd b r = 0) : fnd (a ++ b) r = fnd a r := by
  induction a with
  | nil => exact h
  | cons s a ih => simp only [List.cons_append, fnd, ih]
theorem fnd_app_right (a b : List Sp) (r : Int) (h : ∀ s, s ∈ a → inS s r = false) : fnd (a ++ b) r = fnd b r := by
  induction a with
  | nil => rfl
  | cons s a ih =>
    simp only [List.cons_append, fnd, h s (by simp), Bool.false_eq_true, if_false]
    exact ih fun x hx => h x (by simp [hx])
theorem rowsA_ok : okTo rowsA rowsA.length = true := by kernel_rfl
theorem rowsA_len : rowsA.length = 90 := by kernel_rfl
theorem rowsA_top : (rowsA.all fun s => decide (s.t ≤ 65535)) = true := by kernel_rfl
theorem rowsA_last : (rowsA.getD 89 sp0).t = 65535 := by kernel_rfl
theorem kd_low (r : Int) (h : r < 65536) : kd r = fnd rowsA r := by
  refine fnd_app_left _ _ r (fnd_none _ r fun i hi => ?_)
  rw [rowsP_len] at hi
  rw [rowsP_get i hi, inS_not]
  simp only [lastS]
  omega
theorem kd_high (r : Int) (h : 65536 ≤ r) : kd r = fnd rowsP r := by
  refine fnd_app_right _ _ r fun s hs => ?_
  have := List.all_eq_true.1 rowsA_top s hs
  rw [inS_not]
  simp at this
  omega


theorem cellsA_size : cellsA.size = 270 := by kernel_rfl
theorem cellsA_one : cellsA.all (·.oneCell') = true := by kernel_rfl
theorem zerosA_size : zerosA.size = 270 := by kernel_rfl
theorem cellsA_get (j : Nat) (h : j < 90) : cellsA[j * 3]? = some (.int .i32 (rowsA.getD j sp0).f) ∧ cellsA[j * 3 + 1]? = some (.int .i32 (rowsA.getD j sp0).t) ∧ cellsA[j * 3 + 2]? = some (.int .i64 (rowsA.getD j sp0).h) := by
  unfold cellsA
  simpa using spcs_get rowsA j (by rw [rowsA_len]; exact h)

set_option maxHeartbeats 800000 in
theorem kind_high (r : Int) (w : World) (h : 65536 ≤ r) :
    Calls Tryz.prog 25 #[.int .i32 r] w fun e w' => e = .returned (.int .i64 (kd r)) ∧ Gr w w' := by
  rw [kd_high r h]
  have hb := hide (fun W => behind_any r W)
  generalize fnd rowsP r = q at *
  go_enter Tryz.func25, Tryz.ntmps25
  go_wp2_with (go_at_call 36; refine (unhide hb _).mono ?_; rintro e w1 ⟨rfl, hg1⟩)
  go_ret
  exact ⟨rfl, ((Gr.refl _).alloc _).trans hg1⟩

theorem rowZ (W : World) : (zeroValue 59).run Tryz.prog W = .ok (.agg zerosA) W := (zero_of_info (n := 270) (by kernel_rfl)).1 W
theorem rowI : (Tryz.prog.info? 59).map (·.size) = some cellsA.size := by kernel_rfl

theorem firstPlane_gr (w : World) : Calls Tryz.prog 37 #[] w fun e w' => e = .returned (.agg cellsA) ∧ Gr w w' :=
  (firstPlane_any w).mono fun e w' ⟨he, hw⟩ => ⟨he, by rw [hw]; exact Gr.one _ _⟩

theorem row_cells (w : World) (T : TypeId) : ∀ j, j < 90 → (w.alloc (.cells cellsA T)).cell? ⟨w.heap.size, j * 3, none⟩ = some (.int .i32 (rowsA.getD j sp0).f) ∧ (w.alloc (.cells cellsA T)).cell? ⟨w.heap.size, j * 3 + 1, none⟩ = some (.int .i32 (rowsA.getD j sp0).t) ∧ (w.alloc (.cells cellsA T)).cell? ⟨w.heap.size, j * 3 + 2, none⟩ = some (.int .i64 (rowsA.getD j sp0).h) := by
  intro j hj
  have h := cellsA_get j hj
  rw [cell_of_row _ _ _ cellsA T (0, 0) (heap_alloc_last w _), cell_of_row _ _ _ cellsA T (0, 0) (heap_alloc_last w _), cell_of_row _ _ _ cellsA T (0, 0) (heap_alloc_last w _)]
  exact h

set_option maxHeartbeats 1600000 in
theorem kind_low (r : Int) (w : World) (h : r < 65536) :
    Calls Tryz.prog 25 #[.int .i32 r] w fun e w' => e = .returned (.int .i64 (kd r)) ∧ Gr w w' := by
  rw [kd_low r h]
  have mx := mixed
  have hlt : ¬ 65536 ≤ r := by omega
  have hz := rowZ
  have hs3 := fun W => run_storeCells_new (P := Tryz.prog) W 59 zerosA cellsA rowI (by rw [zerosA_size, cellsA_size]) cellsA_one
  have hsz := cellsA_size
  have cx := box1 w (.int .i32 r) 21
  have hg0 := (Gr.refl w).alloc (.cells #[.int .i32 r] 21)
  have HT := hide rowsA_ok
  have HLST := hide rowsA_last
  go_enter Tryz.func25, Tryz.ntmps25
  go_wp2_with (first
      | (go_at_call 37; refine (firstPlane_gr _).mono ?_; rintro e w1 ⟨rfl, hg1⟩; replace cx := (hg1.alloc (.cells cellsA 59)).cell cx; replace hg1 := (hg0.trans hg1).alloc (.cells cellsA 59); have HC := hide (row_cells w1 59))
      | (go_at_call 38; refine (search_any 39 _ 90 (fun i => decide (r ≤ (rowsA.getD i sp0).t)) _ (enters_of Tryz.func39 (by kernel_rfl) rfl) (by omega) (fun W i hW hi => kind1_any _ _ i _ r W hi (hW.cell (unhide HC i hi).2.1) (hW.cell cx))).mono ?_; rintro e w2 ⟨m, rfl, hm, h1, h2, hg2⟩))
  replace cx := cell_gr (hg2.cell cx)
  have H1 : Hid (m = 0 ∨ (rowsA.getD (m - 1) sp0).t < r) := h1.imp id (fun h => by have := of_decide_eq_false h; omega)
  have H2 : Hid (m = 90 ∨ r ≤ (rowsA.getD m sp0).t) := h2.imp id (fun h => of_decide_eq_true h)
  clear h1 h2
  have hml : m ≠ 90 := by
    intro h9
    subst h9
    rcases unhide H1 with h | h
    · omega
    · have := unhide HLST
      simp only [Nat.reduceSub] at h
      omega
  have hlt : m < 90 := by omega
  have d1 : ((m : Int) == 90) = false := by simp; omega
  have hzl : (m : Int) < 90 := by omega
  have hz0 : (0 : Int) ≤ (m : Int) := by omega
  obtain ⟨g1, g2, g3⟩ := unhide HC m hlt
  replace g1 := cell_gr (hg2.cell g1)
  replace g2 := cell_gr (hg2.cell g2)
  replace g3 := cell_gr (hg2.cell g3)
  replace hg2 := hg1.trans hg2
  have hin : inS (rowsA.getD m sp0) r = true → Hid (fnd rowsA r = (rowsA.getD m sp0).h) := fun h => search_in r (unhide HT) (by rw [rowsA_len]; exact hlt) h
  have hout : inS (rowsA.getD m sp0) r = false → Hid (fnd rowsA r = 0) := fun h => search_out r (unhide HT) (by rw [rowsA_len]; exact hm) (unhide H1) (.inr h) (by rw [rowsA_len]; exact unhide H2)
  clear H1 H2 hml HC HT HLST hs3 hz hg0 hg1
  generalize rowsA.getD m sp0 = s at *
  obtain ⟨f, t, h⟩ := s
  dsimp only at g1 g2 g3 hin
  have hh := fun w => holds_any f t h r w
  cases hi : inS ⟨f, t, h⟩ r <;> rw [hi] at hh
  · have HE := hout hi
    have HH := hide hh
    clear hin hout hi hh
    refine wp_region_quiet_grown (by first | exact mx | assumption) (by kernel_rfl) ?_
    repeat (go_big_quiet_step ((go_at_call 40; exact callsGr (unhide HH _))))
    refine wpQuiet_nil ?_
    intro _ hw'
    obtain ⟨⟨nq, osq⟩, hw''⟩ := hw'
    subst hw''
    go_wp2
    go_ret
    exact ⟨ret_int (unhide HE).symm, hg2.grow _ _⟩
  · have HE := hin hi
    have HH := hide hh
    clear hin hout hi hh
    refine wp_region_quiet_grown (by first | exact mx | assumption) (by kernel_rfl) ?_
    repeat (go_big_quiet_step ((go_at_call 40; exact callsGr (unhide HH _))))
    refine wpQuiet_nil ?_
    intro _ hw'
    obtain ⟨⟨nq, osq⟩, hw''⟩ := hw'
    subst hw''
    replace g3 := g3 nq osq
    go_wp2
    go_ret
    exact ⟨ret_int (unhide HE).symm, hg2.grow _ _⟩

/-- Kind, of any number. -/
theorem kind_any (r : Int) (w : World) :
    Calls Tryz.prog 25 #[.int .i32 r] w fun e w' => e = .returned (.int .i64 (kd r)) ∧ Gr w w' := by
  by_cases h : 65536 ≤ r
  · exact kind_high r w h
  · exact kind_low r w (by omega)
end Go.Proofs.YticgeabmhmojfaaGreatDoor
/- Is and Class: what they answer of any number. -/
namespace Go.Proofs.YticgeabmhmojfaaGreatDoor
set_option maxRecDepth 100000
open Go.RowKit

/-- A slice that holds the numbers zs. -/
def Ints (w : World) (v : Value) (zs : List Int) : Prop :=
  ∃ a cap, v = .slice a zs.length cap ∧ (0 < zs.length → ∃ b off, a = some ⟨b, off, none⟩ ∧ ∀ j, j < zs.length → w.cell? ⟨b, off + j, none⟩ = some (.int .i64 (zs.getD j 0)))
theorem Gr.ints {w w2 : World} (hb : Gr w w2) {v : Value} {l : List Int} (h : Ints w v l) : Ints w2 v l := by
  obtain ⟨a, cap, rfl, hc⟩ := h
  refine ⟨a, cap, rfl, fun i => ?_⟩
  obtain ⟨b, off, rfl, hcc⟩ := hc i
  exact ⟨b, off, rfl, fun j hj => hb.cell (hcc j hj)⟩

theorem mem_getD (zs : List Int) (q : Int) : q ∈ zs ↔ ∃ j, j < zs.length ∧ zs.getD j 0 = q := by
  rw [List.mem_iff_getElem]
  constructor
  · rintro ⟨i, hi, h⟩; exact ⟨i, hi, by simpa [List.getD, hi] using h⟩
  · rintro ⟨i, hi, h⟩; exact ⟨i, hi, by simpa [List.getD, hi] using h⟩

set_option maxHeartbeats 800000 in
theorem index_some (b o c : Nat) (zs : List Int) (q : Int) (w : World) (hle : zs.length ≤ 10000) (hc : ∀ j, j < zs.length → w.cell? ⟨b, o + j, none⟩ = some (.int .i64 (zs.getD j 0))) :
    Calls Tryz.prog 79 #[.slice (some ⟨b, o, none⟩) zs.length c, .int .i64 q] w fun e w' => ∃ x : Int, e = .returned (.int .i64 x) ∧ (0 ≤ x ↔ q ∈ zs) ∧ Gr w w' := by
  have HC := hide hc
  clear hc
  go_enter Tryz.func79, Tryz.ntmps79
  go_wp2
  go_loopw [8] (fun i wr => ∃ k : Nat, k ≤ zs.length ∧ i = .int .i64 k ∧ Gr w wr ∧ Hid (∀ j, j < k → zs.getD j 0 ≠ q)) (fun i _ => zs.length - (intOf i).toNat)
  case atStart => exact ⟨0, Nat.zero_le _, rfl, Gr.refl _, hide (fun j hj => by omega)⟩
  case round =>
    obtain ⟨k, hk, rfl, hg, HE⟩ := hrel
    by_cases hlt : k < zs.length
    · have hzl : (k : Int) < (zs.length : Int) := by omega
      have hz0 : (0 : Int) ≤ (k : Int) := by omega
      have g1 := hg.cell (unhide HC k hlt)
      have hin : zs.getD k 0 = q → Hid ((0 ≤ (k : Int)) ↔ q ∈ zs) := fun h => ⟨fun _ => (mem_getD _ _).2 ⟨k, hlt, h⟩, fun _ => hz0⟩
      have hout : zs.getD k 0 ≠ q → Hid (∀ j, j < k + 1 → zs.getD j 0 ≠ q) := fun h => by
        show ∀ j, j < k + 1 → zs.getD j 0 ≠ q
        intro j hj
        rcases Nat.lt_succ_iff_lt_or_eq.1 hj with h1 | rfl
        · exact unhide HE j h1
        · exact h
      generalize zs.getD k 0 = s at *
      by_cases hq : q = s
      · have HO := hin hq.symm
        clear hin hout
        subst hq
        go_wp2
        go_ret
        exact ⟨k, rfl, unhide HO, hg⟩
      · have HO := hout (fun h => hq h.symm)
        clear hin hout
        go_wp2
        go_roundw
        case rel => exact ⟨k + 1, by omega, by go_num, hg, HO⟩
        case measure => simp [intOf]; omega
    · have hzl : ¬ (k : Int) < (zs.length : Int) := by omega
      have HB : Hid ((0 : Int) ≤ -1 ↔ q ∈ zs) := by
        refine hide ⟨fun h => by omega, fun h => ?_⟩
        obtain ⟨j, hj, he⟩ := (mem_getD _ _).1 h
        exact absurd he (unhide HE j (by omega))
      go_wp2
      go_ret
      exact ⟨-1, rfl, unhide HB, hg⟩

set_option maxHeartbeats 400000 in
theorem index_none (a : Option Addr) (c : Nat) (q : Int) (w : World) :
    Calls Tryz.prog 79 #[.slice a 0 c, .int .i64 q] w fun e w' => ∃ x : Int, e = .returned (.int .i64 x) ∧ (0 ≤ x ↔ q ∈ ([] : List Int)) ∧ Gr w w' := by
  go_enter Tryz.func79, Tryz.ntmps79
  go_wp2
  refine wp_loop_rounds 1 ?_
  rw [rounds_succ]
  go_wp2
  go_ret
  exact ⟨-1, rfl, by simp, Gr.refl _⟩

theorem index_any (v : Value) (zs : List Int) (q : Int) (w : World) (h : Ints w v zs) (hl : zs.length ≤ 10000) :
    Calls Tryz.prog 79 #[v, .int .i64 q] w fun e w' => ∃ x : Int, e = .returned (.int .i64 x) ∧ (0 ≤ x ↔ q ∈ zs) ∧ Gr w w' := by
  obtain ⟨a, c, rfl, h⟩ := h
  by_cases h0 : zs.length = 0
  · obtain rfl : zs = [] := List.length_eq_zero_iff.1 h0
    exact index_none a c q w
  · obtain ⟨b, o, rfl, hc⟩ := h (by omega)
    exact index_some b o c zs q w hl hc

set_option maxHeartbeats 400000 in
theorem contains_any (v : Value) (zs : List Int) (q : Int) (w : World) (h : Ints w v zs) (hl : zs.length ≤ 10000) :
    Calls Tryz.prog 68 #[v, .int .i64 q] w fun e w' => e = .returned (.bool (decide (q ∈ zs))) ∧ Gr w w' := by
  have HI := hide (index_any v zs q w h hl)
  obtain ⟨a, c, rfl, -⟩ := h
  go_enter Tryz.func68, Tryz.ntmps68
  go_wp2_with (go_at_call 79; refine (unhide HI).mono ?_; rintro e w1 ⟨x, rfl, hx, hg1⟩; have HX := hide hx; clear hx)
  go_ret
  exact ⟨ret_bool (by simp [unhide HX]), hg1⟩

set_option maxHeartbeats 400000 in
/-- Is, of any number and kinds. -/
theorem is_any (r : Int) (v : Value) (zs : List Int) (w : World) (h : Ints w v zs) (hl : zs.length ≤ 10000) :
    Calls Tryz.prog 48 #[.int .i32 r, v] w fun e w' => e = .returned (.bool (decide (kd r ∈ zs))) ∧ Gr w w' := by
  have HK := hide (kind_any r)
  have HI := hide (fun W (hW : Gr w W) => contains_any v zs (kd r) W (hW.ints h) hl)
  obtain ⟨a, c, rfl, -⟩ := h
  generalize kd r = k at *
  go_enter Tryz.func48, Tryz.ntmps48
  go_wp2_with (first
    | (go_at_call 25; refine (unhide HK _).mono ?_; rintro e w1 ⟨rfl, hg1⟩)
    | (go_at_call 68; refine (unhide HI _ hg1).mono ?_; rintro e w2 ⟨rfl, hg2⟩))
  go_ret
  exact ⟨rfl, hg1.trans hg2⟩


/-- A mark's class. -/
def cl (r k : Int) : Int := if k = 3 then (if r = 807 ∨ r = 808 then 202 else if r = 803 then 220 else if r = 12441 ∨ r = 12442 then 8 else 230) else 0
def cls (r : Int) : Int := cl r (kd r)

set_option maxHeartbeats 800000 in
/-- Class, of any number. -/
theorem class_any (r : Int) (w : World) :
    Calls Tryz.prog 46 #[.int .i32 r] w fun e w' => e = .returned (.int .i64 (cls r)) ∧ Gr w w' := by
  have HK := hide (kind_any r)
  unfold cls
  generalize kd r = k at *
  by_cases h3 : k = 3
  · subst h3
    generalize hx : cl r 3 = x
    have HX := hide hx
    clear hx
    by_cases h1 : r = 807
    · subst h1
      go_enter Tryz.func46, Tryz.ntmps46
      go_wp2_with (go_at_call 25; refine (unhide HK _).mono ?_; rintro e w1 ⟨rfl, hg1⟩)
      go_ret
      exact ⟨ret_int (by rw [← unhide HX]; simp [cl]), hg1⟩
    · by_cases h2 : r = 808
      · subst h2
        go_enter Tryz.func46, Tryz.ntmps46
        go_wp2_with (go_at_call 25; refine (unhide HK _).mono ?_; rintro e w1 ⟨rfl, hg1⟩)
        go_ret
        exact ⟨ret_int (by rw [← unhide HX]; simp [cl]), hg1⟩
      · by_cases h4 : r = 803
        · subst h4
          go_enter Tryz.func46, Tryz.ntmps46
          go_wp2_with (go_at_call 25; refine (unhide HK _).mono ?_; rintro e w1 ⟨rfl, hg1⟩)
          go_ret
          exact ⟨ret_int (by rw [← unhide HX]; simp [cl]), hg1⟩
        · by_cases h5 : r = 12441
          · subst h5
            go_enter Tryz.func46, Tryz.ntmps46
            go_wp2_with (go_at_call 25; refine (unhide HK _).mono ?_; rintro e w1 ⟨rfl, hg1⟩)
            go_ret
            exact ⟨ret_int (by rw [← unhide HX]; simp [cl]), hg1⟩
          · by_cases h6 : r = 12442
            · subst h6
              go_enter Tryz.func46, Tryz.ntmps46
              go_wp2_with (go_at_call 25; refine (unhide HK _).mono ?_; rintro e w1 ⟨rfl, hg1⟩)
              go_ret
              exact ⟨ret_int (by rw [← unhide HX]; simp [cl]), hg1⟩
            · go_enter Tryz.func46, Tryz.ntmps46
              go_wp2_with (go_at_call 25; refine (unhide HK _).mono ?_; rintro e w1 ⟨rfl, hg1⟩)
              go_ret
              exact ⟨ret_int (by rw [← unhide HX]; simp [cl, h1, h2, h4, h5, h6]), hg1⟩
  · have HX : Hid (cl r k = 0) := by show cl r k = 0; simp [cl, h3]
    go_enter Tryz.func46, Tryz.ntmps46
    go_wp2_with (go_at_call 25; refine (unhide HK _).mono ?_; rintro e w1 ⟨rfl, hg1⟩)
    go_ret
    exact ⟨ret_int (unhide HX).symm, hg1⟩

/-- A kind is one of a row that the number is in, or none. -/
theorem fnd_mem (l : List Sp) (r : Int) : fnd l r = 0 ∨ ∃ s, s ∈ l ∧ inS s r = true ∧ fnd l r = s.h := by
  induction l with
  | nil => exact .inl rfl
  | cons s l ih =>
    by_cases h : inS s r = true
    · exact .inr ⟨s, by simp, h, by simp [fnd, h]⟩
    · rcases ih with h1 | ⟨s', h1, h2, h3⟩
      · exact .inl (by simp [fnd, h, h1])
      · exact .inr ⟨s', by simp [h1], h2, by simp [fnd, h, h3]⟩
theorem rowsT_all : (rowsT.all fun s => decide (1 ≤ s.h ∧ s.h ≤ 7 ∧ 0 ≤ s.f ∧ s.t ≤ 1114111)) = true := by kernel_rfl
theorem kd_bound (r : Int) : 0 ≤ kd r ∧ kd r ≤ 7 ∧ (kd r = 0 ∨ (0 ≤ r ∧ r ≤ 1114111)) := by
  rcases fnd_mem rowsT r with h | ⟨s, h1, h2, h3⟩
  · rw [kd, h]; omega
  · have h4 := List.all_eq_true.1 rowsT_all s h1
    rw [inS_iff] at h2
    rw [kd, h3]
    simp at h4
    omega
end Go.Proofs.YticgeabmhmojfaaGreatDoor
