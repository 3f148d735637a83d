/- Part, the program's and the document's. -/
import Derived.Test.YtcgkdiflhlmlgaaDoorLeaf
namespace Go.Proofs.YtcgkdiflhlmlgaaDoor
open Go.RowKit

theorem wrap_in {x : Int} (h1 : -2147483648 ≤ x) (h2 : x ≤ 2147483647) : IntKind.i32.wrap x = x := by
  simp [IntKind.wrap, IntKind.bits, IntKind.signed]; omega

theorem idx0 (W : World) : (Instr.index 36 (.agg #[.int .i32 4352, .int .i32 4370, .int .i32 4449, .int .i32 4469, .int .i32 4520, .int .i32 4546]) (.int .i64 0)).run Tryd.prog W = .ok (.agg #[.int .i32 4352, .int .i32 4370]) W := by kernel_rfl
theorem idx1 (W : World) : (Instr.index 36 (.agg #[.int .i32 4352, .int .i32 4370, .int .i32 4449, .int .i32 4469, .int .i32 4520, .int .i32 4546]) (.int .i64 1)).run Tryd.prog W = .ok (.agg #[.int .i32 4449, .int .i32 4469]) W := by kernel_rfl
theorem idx2 (W : World) : (Instr.index 36 (.agg #[.int .i32 4352, .int .i32 4370, .int .i32 4449, .int .i32 4469, .int .i32 4520, .int .i32 4546]) (.int .i64 2)).run Tryd.prog W = .ok (.agg #[.int .i32 4520, .int .i32 4546]) W := by kernel_rfl

set_option maxHeartbeats 800000 in
theorem part_open (r : Int) (w : World) (h0 : isSyl r = true) (h1 : (r - 44032) % 28 = 0) : Calls Tryd.prog 10 #[.int .i32 r] w fun e w' => e = .returned (.int .i64 4) ∧ w' = w := by
  have hx := (syl_iff r).1 h0
  have HS : Hid (∀ w, Calls Tryd.prog 8 #[.int .i32 r] w fun e w' => e = .returned (.bool true) ∧ w' = w) := fun w => by rw [← h0]; exact syl_any r w
  have k1 : IntKind.i32.wrap (r - 44032) = r - 44032 := wrap_in (by omega) (by omega)
  go_enter Tryd.func10, Tryd.ntmps10
  go_wp2_with (go_at_call 8; refine (unhide HS _).mono ?_; rintro e w' ⟨rfl, rfl⟩)
  go_ret
  exact ⟨rfl, rfl⟩

set_option maxHeartbeats 800000 in
theorem part_closed (r : Int) (w : World) (h0 : isSyl r = true) (h1 : ¬ (r - 44032) % 28 = 0) : Calls Tryd.prog 10 #[.int .i32 r] w fun e w' => e = .returned (.int .i64 5) ∧ w' = w := by
  have hx := (syl_iff r).1 h0
  have HS : Hid (∀ w, Calls Tryd.prog 8 #[.int .i32 r] w fun e w' => e = .returned (.bool true) ∧ w' = w) := fun w => by rw [← h0]; exact syl_any r w
  have k1 : IntKind.i32.wrap (r - 44032) = r - 44032 := wrap_in (by omega) (by omega)
  go_enter Tryd.func10, Tryd.ntmps10
  go_wp2_with (go_at_call 8; refine (unhide HS _).mono ?_; rintro e w' ⟨rfl, rfl⟩)
  go_ret
  exact ⟨rfl, rfl⟩

set_option maxHeartbeats 800000 in
theorem part_lead (r : Int) (w : World) (hL : Lay w) (h : 4352 ≤ r ∧ r ≤ 4370) : Calls Tryd.prog 10 #[.int .i32 r] w fun e w' => e = .returned (.int .i64 1) ∧ Gr w w' := by
  have h0 : isSyl r = false := by rw [syl_not]; omega
  have HS : Hid (∀ w, Calls Tryd.prog 8 #[.int .i32 r] w fun e w' => e = .returned (.bool false) ∧ w' = w) := fun w => by rw [← h0]; exact syl_any r w
  obtain ⟨c0, c1, c2, c3, c4, c5⟩ := hL
  have f0 : 4352 ≤ r := by omega
  have f1 : r ≤ 4370 := by omega
  have x0 := idx0
  go_enter Tryd.func10, Tryd.ntmps10
  go_wp2_with (go_at_call 8; refine (unhide HS _).mono ?_; rintro e w' ⟨rfl, rfl⟩)
  refine wp_loop_rounds 1 ?_
  rw [rounds_succ]
  go_wp2
  go_ret
  exact ⟨rfl, (Gr.refl _).alloc _⟩

set_option maxHeartbeats 800000 in
theorem part_vowel (r : Int) (w : World) (hL : Lay w) (h : 4449 ≤ r ∧ r ≤ 4469) : Calls Tryd.prog 10 #[.int .i32 r] w fun e w' => e = .returned (.int .i64 2) ∧ Gr w w' := by
  have h0 : isSyl r = false := by rw [syl_not]; omega
  have HS : Hid (∀ w, Calls Tryd.prog 8 #[.int .i32 r] w fun e w' => e = .returned (.bool false) ∧ w' = w) := fun w => by rw [← h0]; exact syl_any r w
  obtain ⟨c0, c1, c2, c3, c4, c5⟩ := hL
  have f0 : 4352 ≤ r := by omega
  have f1 : ¬ r ≤ 4370 := by omega
  have f2 : 4449 ≤ r := by omega
  have f3 : r ≤ 4469 := by omega
  have x0 := idx0
  have x1 := idx1
  go_enter Tryd.func10, Tryd.ntmps10
  go_wp2_with (go_at_call 8; refine (unhide HS _).mono ?_; rintro e w' ⟨rfl, rfl⟩)
  refine wp_loop_rounds 2 ?_
  rw [rounds_succ]
  go_wp2
  rw [rounds_succ]
  go_wp2
  go_ret
  exact ⟨rfl, ((Gr.refl _).alloc _).alloc _⟩

set_option maxHeartbeats 800000 in
theorem part_tail (r : Int) (w : World) (hL : Lay w) (h : 4520 ≤ r ∧ r ≤ 4546) : Calls Tryd.prog 10 #[.int .i32 r] w fun e w' => e = .returned (.int .i64 3) ∧ Gr w w' := by
  have h0 : isSyl r = false := by rw [syl_not]; omega
  have HS : Hid (∀ w, Calls Tryd.prog 8 #[.int .i32 r] w fun e w' => e = .returned (.bool false) ∧ w' = w) := fun w => by rw [← h0]; exact syl_any r w
  obtain ⟨c0, c1, c2, c3, c4, c5⟩ := hL
  have f0 : 4352 ≤ r := by omega
  have f1 : ¬ r ≤ 4370 := by omega
  have f2 : 4449 ≤ r := by omega
  have f3 : ¬ r ≤ 4469 := by omega
  have f4 : 4520 ≤ r := by omega
  have f5 : r ≤ 4546 := by omega
  have x0 := idx0
  have x1 := idx1
  have x2 := idx2
  go_enter Tryd.func10, Tryd.ntmps10
  go_wp2_with (go_at_call 8; refine (unhide HS _).mono ?_; rintro e w' ⟨rfl, rfl⟩)
  refine wp_loop_rounds 3 ?_
  rw [rounds_succ]
  go_wp2
  rw [rounds_succ]
  go_wp2
  rw [rounds_succ]
  go_wp2
  go_ret
  exact ⟨rfl, (((Gr.refl _).alloc _).alloc _).alloc _⟩

set_option maxHeartbeats 800000 in
theorem part_n0 (r : Int) (w : World) (hL : Lay w) (h : r < 4352) : Calls Tryd.prog 10 #[.int .i32 r] w fun e w' => e = .returned (.int .i64 0) ∧ Gr w w' := by
  have h0 : isSyl r = false := by rw [syl_not]; omega
  have HS : Hid (∀ w, Calls Tryd.prog 8 #[.int .i32 r] w fun e w' => e = .returned (.bool false) ∧ w' = w) := fun w => by rw [← h0]; exact syl_any r w
  obtain ⟨c0, c1, c2, c3, c4, c5⟩ := hL
  have f0 : ¬ 4352 ≤ r := by omega
  have f1 : ¬ 4449 ≤ r := by omega
  have f2 : ¬ 4520 ≤ r := by omega
  have x0 := idx0
  have x1 := idx1
  have x2 := idx2
  go_enter Tryd.func10, Tryd.ntmps10
  go_wp2_with (go_at_call 8; refine (unhide HS _).mono ?_; rintro e w' ⟨rfl, rfl⟩)
  refine wp_loop_rounds 4 ?_
  rw [rounds_succ]
  go_wp2
  rw [rounds_succ]
  go_wp2
  rw [rounds_succ]
  go_wp2
  rw [rounds_succ]
  go_wp2
  go_ret
  exact ⟨rfl, (((Gr.refl _).alloc _).alloc _).alloc _⟩

set_option maxHeartbeats 800000 in
theorem part_n1 (r : Int) (w : World) (hL : Lay w) (h : 4370 < r ∧ r < 4449) : Calls Tryd.prog 10 #[.int .i32 r] w fun e w' => e = .returned (.int .i64 0) ∧ Gr w w' := by
  have h0 : isSyl r = false := by rw [syl_not]; omega
  have HS : Hid (∀ w, Calls Tryd.prog 8 #[.int .i32 r] w fun e w' => e = .returned (.bool false) ∧ w' = w) := fun w => by rw [← h0]; exact syl_any r w
  obtain ⟨c0, c1, c2, c3, c4, c5⟩ := hL
  have f0 : 4352 ≤ r := by omega
  have f1 : ¬ r ≤ 4370 := by omega
  have f2 : ¬ 4449 ≤ r := by omega
  have f3 : ¬ 4520 ≤ r := by omega
  have x0 := idx0
  have x1 := idx1
  have x2 := idx2
  go_enter Tryd.func10, Tryd.ntmps10
  go_wp2_with (go_at_call 8; refine (unhide HS _).mono ?_; rintro e w' ⟨rfl, rfl⟩)
  refine wp_loop_rounds 4 ?_
  rw [rounds_succ]
  go_wp2
  rw [rounds_succ]
  go_wp2
  rw [rounds_succ]
  go_wp2
  rw [rounds_succ]
  go_wp2
  go_ret
  exact ⟨rfl, (((Gr.refl _).alloc _).alloc _).alloc _⟩

set_option maxHeartbeats 800000 in
theorem part_n2 (r : Int) (w : World) (hL : Lay w) (h : 4469 < r ∧ r < 4520) : Calls Tryd.prog 10 #[.int .i32 r] w fun e w' => e = .returned (.int .i64 0) ∧ Gr w w' := by
  have h0 : isSyl r = false := by rw [syl_not]; omega
  have HS : Hid (∀ w, Calls Tryd.prog 8 #[.int .i32 r] w fun e w' => e = .returned (.bool false) ∧ w' = w) := fun w => by rw [← h0]; exact syl_any r w
  obtain ⟨c0, c1, c2, c3, c4, c5⟩ := hL
  have f0 : 4352 ≤ r := by omega
  have f1 : ¬ r ≤ 4370 := by omega
  have f2 : 4449 ≤ r := by omega
  have f3 : ¬ r ≤ 4469 := by omega
  have f4 : ¬ 4520 ≤ r := by omega
  have x0 := idx0
  have x1 := idx1
  have x2 := idx2
  go_enter Tryd.func10, Tryd.ntmps10
  go_wp2_with (go_at_call 8; refine (unhide HS _).mono ?_; rintro e w' ⟨rfl, rfl⟩)
  refine wp_loop_rounds 4 ?_
  rw [rounds_succ]
  go_wp2
  rw [rounds_succ]
  go_wp2
  rw [rounds_succ]
  go_wp2
  rw [rounds_succ]
  go_wp2
  go_ret
  exact ⟨rfl, (((Gr.refl _).alloc _).alloc _).alloc _⟩

set_option maxHeartbeats 800000 in
theorem part_n3 (r : Int) (w : World) (hL : Lay w) (h : 4546 < r ∧ ¬ (44032 ≤ r ∧ r ≤ 55203)) : Calls Tryd.prog 10 #[.int .i32 r] w fun e w' => e = .returned (.int .i64 0) ∧ Gr w w' := by
  have h0 : isSyl r = false := by rw [syl_not]; omega
  have HS : Hid (∀ w, Calls Tryd.prog 8 #[.int .i32 r] w fun e w' => e = .returned (.bool false) ∧ w' = w) := fun w => by rw [← h0]; exact syl_any r w
  obtain ⟨c0, c1, c2, c3, c4, c5⟩ := hL
  have f0 : 4352 ≤ r := by omega
  have f1 : ¬ r ≤ 4370 := by omega
  have f2 : 4449 ≤ r := by omega
  have f3 : ¬ r ≤ 4469 := by omega
  have f4 : 4520 ≤ r := by omega
  have f5 : ¬ r ≤ 4546 := by omega
  have x0 := idx0
  have x1 := idx1
  have x2 := idx2
  go_enter Tryd.func10, Tryd.ntmps10
  go_wp2_with (go_at_call 8; refine (unhide HS _).mono ?_; rintro e w' ⟨rfl, rfl⟩)
  refine wp_loop_rounds 4 ?_
  rw [rounds_succ]
  go_wp2
  rw [rounds_succ]
  go_wp2
  rw [rounds_succ]
  go_wp2
  rw [rounds_succ]
  go_wp2
  go_ret
  exact ⟨rfl, (((Gr.refl _).alloc _).alloc _).alloc _⟩

/-- Part, of any number. -/
theorem part_any (r : Int) (w : World) (hL : Lay w) : Calls Tryd.prog 10 #[.int .i32 r] w fun e w' => e = .returned (.int .i64 (part r)) ∧ Gr w w' := by
  rcases part_cases r with ⟨e, h⟩ | ⟨e, h⟩ | ⟨e, h⟩ | ⟨e, h1, h2, h3⟩ | ⟨e, h1, h2, h3⟩ | ⟨e, h1, h2, h3, h4⟩ <;> rw [e]
  · exact part_lead r w hL h
  · exact part_vowel r w hL h
  · exact part_tail r w hL h
  · exact (part_open r w ((syl_iff r).2 ⟨h1, h2⟩) h3).mono fun e w' ⟨he, hw⟩ => ⟨he, by rw [hw]; exact Gr.refl _⟩
  · exact (part_closed r w ((syl_iff r).2 ⟨h1, h2⟩) h3).mono fun e w' ⟨he, hw⟩ => ⟨he, by rw [hw]; exact Gr.refl _⟩
  · by_cases g1 : r < 4352
    · exact part_n0 r w hL g1
    · by_cases g2 : r < 4449
      · exact part_n1 r w hL (by omega)
      · by_cases g3 : r < 4520
        · exact part_n2 r w hL (by omega)
        · exact part_n3 r w hL (by omega)

set_option maxHeartbeats 800000 in
theorem rpart_lead (r : Int) (w : World) (h : 4352 ≤ r ∧ r ≤ 4370) : Calls Tryd.prog 11 #[.int .i32 r] w fun e w' => e = .returned (.int .i64 1) ∧ w' = w := by
  have f0 : 4352 ≤ r := by omega
  have f1 : r ≤ 4370 := by omega
  go_enter Tryd.func11, Tryd.ntmps11
  go_wp2
  go_ret
  exact ⟨rfl, rfl⟩

set_option maxHeartbeats 800000 in
theorem rpart_vowel (r : Int) (w : World) (h : 4449 ≤ r ∧ r ≤ 4469) : Calls Tryd.prog 11 #[.int .i32 r] w fun e w' => e = .returned (.int .i64 2) ∧ w' = w := by
  have f0 : 4352 ≤ r := by omega
  have f1 : ¬ r ≤ 4370 := by omega
  have f2 : 4449 ≤ r := by omega
  have f3 : r ≤ 4469 := by omega
  go_enter Tryd.func11, Tryd.ntmps11
  go_wp2
  go_ret
  exact ⟨rfl, rfl⟩

set_option maxHeartbeats 800000 in
theorem rpart_tail (r : Int) (w : World) (h : 4520 ≤ r ∧ r ≤ 4546) : Calls Tryd.prog 11 #[.int .i32 r] w fun e w' => e = .returned (.int .i64 3) ∧ w' = w := by
  have f0 : 4352 ≤ r := by omega
  have f1 : ¬ r ≤ 4370 := by omega
  have f2 : 4449 ≤ r := by omega
  have f3 : ¬ r ≤ 4469 := by omega
  have f4 : 4520 ≤ r := by omega
  have f5 : r ≤ 4546 := by omega
  go_enter Tryd.func11, Tryd.ntmps11
  go_wp2
  go_ret
  exact ⟨rfl, rfl⟩

set_option maxHeartbeats 800000 in
theorem rpart_open (r : Int) (w : World) (h : 44032 ≤ r ∧ r ≤ 55203) (h1 : (r - 44032) % 28 = 0) : Calls Tryd.prog 11 #[.int .i32 r] w fun e w' => e = .returned (.int .i64 4) ∧ w' = w := by
  have h0 : isSyl r = true := by rw [syl_iff]; omega
  have HS : Hid (∀ w, Calls Tryd.prog 9 #[.int .i32 r] w fun e w' => e = .returned (.bool true) ∧ w' = w) := fun w => by rw [← h0]; exact rsyl_any r w
  have k1 : IntKind.i32.wrap (r - 44032) = r - 44032 := wrap_in (by omega) (by omega)
  have f0 : 4352 ≤ r := by omega
  have f1 : ¬ r ≤ 4370 := by omega
  have f2 : 4449 ≤ r := by omega
  have f3 : ¬ r ≤ 4469 := by omega
  have f4 : 4520 ≤ r := by omega
  have f5 : ¬ r ≤ 4546 := by omega
  go_enter Tryd.func11, Tryd.ntmps11
  go_wp2_with (go_at_call 9; refine (unhide HS _).mono ?_; rintro e w' ⟨rfl, rfl⟩)
  go_ret
  exact ⟨rfl, rfl⟩

set_option maxHeartbeats 800000 in
theorem rpart_closed (r : Int) (w : World) (h : 44032 ≤ r ∧ r ≤ 55203) (h1 : ¬ (r - 44032) % 28 = 0) : Calls Tryd.prog 11 #[.int .i32 r] w fun e w' => e = .returned (.int .i64 5) ∧ w' = w := by
  have h0 : isSyl r = true := by rw [syl_iff]; omega
  have HS : Hid (∀ w, Calls Tryd.prog 9 #[.int .i32 r] w fun e w' => e = .returned (.bool true) ∧ w' = w) := fun w => by rw [← h0]; exact rsyl_any r w
  have k1 : IntKind.i32.wrap (r - 44032) = r - 44032 := wrap_in (by omega) (by omega)
  have f0 : 4352 ≤ r := by omega
  have f1 : ¬ r ≤ 4370 := by omega
  have f2 : 4449 ≤ r := by omega
  have f3 : ¬ r ≤ 4469 := by omega
  have f4 : 4520 ≤ r := by omega
  have f5 : ¬ r ≤ 4546 := by omega
  go_enter Tryd.func11, Tryd.ntmps11
  go_wp2_with (go_at_call 9; refine (unhide HS _).mono ?_; rintro e w' ⟨rfl, rfl⟩)
  go_ret
  exact ⟨rfl, rfl⟩

set_option maxHeartbeats 800000 in
theorem rpart_n0 (r : Int) (w : World) (h : r < 4352) : Calls Tryd.prog 11 #[.int .i32 r] w fun e w' => e = .returned (.int .i64 0) ∧ w' = w := by
  have h0 : isSyl r = false := by rw [syl_not]; omega
  have HS : Hid (∀ w, Calls Tryd.prog 9 #[.int .i32 r] w fun e w' => e = .returned (.bool false) ∧ w' = w) := fun w => by rw [← h0]; exact rsyl_any r w
  have f0 : ¬ 4352 ≤ r := by omega
  have f1 : ¬ 4449 ≤ r := by omega
  have f2 : ¬ 4520 ≤ r := by omega
  go_enter Tryd.func11, Tryd.ntmps11
  go_wp2_with (go_at_call 9; refine (unhide HS _).mono ?_; rintro e w' ⟨rfl, rfl⟩)
  go_ret
  exact ⟨rfl, rfl⟩

set_option maxHeartbeats 800000 in
theorem rpart_n1 (r : Int) (w : World) (h : 4370 < r ∧ r < 4449) : Calls Tryd.prog 11 #[.int .i32 r] w fun e w' => e = .returned (.int .i64 0) ∧ w' = w := by
  have h0 : isSyl r = false := by rw [syl_not]; omega
  have HS : Hid (∀ w, Calls Tryd.prog 9 #[.int .i32 r] w fun e w' => e = .returned (.bool false) ∧ w' = w) := fun w => by rw [← h0]; exact rsyl_any r w
  have f0 : 4352 ≤ r := by omega
  have f1 : ¬ r ≤ 4370 := by omega
  have f2 : ¬ 4449 ≤ r := by omega
  have f3 : ¬ 4520 ≤ r := by omega
  go_enter Tryd.func11, Tryd.ntmps11
  go_wp2_with (go_at_call 9; refine (unhide HS _).mono ?_; rintro e w' ⟨rfl, rfl⟩)
  go_ret
  exact ⟨rfl, rfl⟩

set_option maxHeartbeats 800000 in
theorem rpart_n2 (r : Int) (w : World) (h : 4469 < r ∧ r < 4520) : Calls Tryd.prog 11 #[.int .i32 r] w fun e w' => e = .returned (.int .i64 0) ∧ w' = w := by
  have h0 : isSyl r = false := by rw [syl_not]; omega
  have HS : Hid (∀ w, Calls Tryd.prog 9 #[.int .i32 r] w fun e w' => e = .returned (.bool false) ∧ w' = w) := fun w => by rw [← h0]; exact rsyl_any r w
  have f0 : 4352 ≤ r := by omega
  have f1 : ¬ r ≤ 4370 := by omega
  have f2 : 4449 ≤ r := by omega
  have f3 : ¬ r ≤ 4469 := by omega
  have f4 : ¬ 4520 ≤ r := by omega
  go_enter Tryd.func11, Tryd.ntmps11
  go_wp2_with (go_at_call 9; refine (unhide HS _).mono ?_; rintro e w' ⟨rfl, rfl⟩)
  go_ret
  exact ⟨rfl, rfl⟩

set_option maxHeartbeats 800000 in
theorem rpart_n3 (r : Int) (w : World) (h : 4546 < r ∧ ¬ (44032 ≤ r ∧ r ≤ 55203)) : Calls Tryd.prog 11 #[.int .i32 r] w fun e w' => e = .returned (.int .i64 0) ∧ w' = w := by
  have h0 : isSyl r = false := by rw [syl_not]; omega
  have HS : Hid (∀ w, Calls Tryd.prog 9 #[.int .i32 r] w fun e w' => e = .returned (.bool false) ∧ w' = w) := fun w => by rw [← h0]; exact rsyl_any r w
  have f0 : 4352 ≤ r := by omega
  have f1 : ¬ r ≤ 4370 := by omega
  have f2 : 4449 ≤ r := by omega
  have f3 : ¬ r ≤ 4469 := by omega
  have f4 : 4520 ≤ r := by omega
  have f5 : ¬ r ≤ 4546 := by omega
  go_enter Tryd.func11, Tryd.ntmps11
  go_wp2_with (go_at_call 9; refine (unhide HS _).mono ?_; rintro e w' ⟨rfl, rfl⟩)
  go_ret
  exact ⟨rfl, rfl⟩

/-- The document's Part, of any number. -/
theorem rpart_any (r : Int) (w : World) : Calls Tryd.prog 11 #[.int .i32 r] w fun e w' => e = .returned (.int .i64 (part r)) ∧ w' = w := by
  rcases part_cases r with ⟨e, h⟩ | ⟨e, h⟩ | ⟨e, h⟩ | ⟨e, h1, h2, h3⟩ | ⟨e, h1, h2, h3⟩ | ⟨e, h1, h2, h3, h4⟩ <;> rw [e]
  · exact rpart_lead r w h
  · exact rpart_vowel r w h
  · exact rpart_tail r w h
  · exact rpart_open r w ⟨h1, h2⟩ h3
  · exact rpart_closed r w ⟨h1, h2⟩ h3
  · by_cases g1 : r < 4352
    · exact rpart_n0 r w g1
    · by_cases g2 : r < 4449
      · exact rpart_n1 r w (by omega)
      · by_cases g3 : r < 4520
        · exact rpart_n2 r w (by omega)
        · exact rpart_n3 r w (by omega)
end Go.Proofs.YtcgkdiflhlmlgaaDoor
