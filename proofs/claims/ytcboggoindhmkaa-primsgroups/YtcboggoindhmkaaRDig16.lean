/- The document's digits of layer 16 (made by gen_digits.py). -/
import Derived.Test.YtcboggoindhmkaaMath16
import Derived.Test.YtcboggoindhmkaaStr
namespace Go.Proofs.Ytcboggoindhmkaa
open Go.RowKit

theorem ret_sb {a b : ByteArray} {c : Bool} (h : a = b) : Ending.returned (.tuple #[.string a, .bool c]) = .returned (.tuple #[.string b, .bool c]) := by rw [h]
theorem str_one (z : Int) : strOfNums [z] ++ (⟨#[]⟩ : ByteArray) = strOfNums [z] := by
  rw [show (⟨#[]⟩ : ByteArray) = strOfNums [] from rfl, strOfNums_app, List.append_nil]
set_option maxHeartbeats 1600000 in
theorem rdig_1p (n : Int) (h0 : -128 ≤ n) (h1 : n < 128) (hs : ¬ n < 0) (w : World) : Calls Try.prog 41 #[.int .i64 n, .int .i64 1] w fun r w' => r = .returned (.tuple #[.string (strOfNums (dg 1 n)), .bool true]) ∧ Gr w w' := by
  have k0 : ¬ n < -128 := by omega
  have k1 : ¬ (128 : Int) ≤ n := by omega
  obtain ⟨m0, hm0⟩ : ∃ m, n = m := ⟨_, rfl⟩
  obtain ⟨z0, hz0⟩ : ∃ z, m0 % 256 = z := ⟨_, rfl⟩
  obtain ⟨m1, hm1⟩ : ∃ m, m0 / 256 = m := ⟨_, rfl⟩
  have t0 : m0.tmod 256 = z0 := by rw [Int.tmod_eq_emod_of_nonneg (by omega)]; exact hz0
  have d0 : m0.tdiv 256 = m1 := by rw [Int.tdiv_eq_ediv_of_nonneg (by omega)]; exact hm1
  have u0 : IntKind.u8.wrap z0 = z0 := by simp [IntKind.wrap, IntKind.bits, IntKind.signed]; omega
  have v0 : wrap64 z0 = z0 := by unfold wrap64; omega
  have x0 : wrap64 m1 = m1 := by unfold wrap64; omega
  have c0 : (convert 71 9 (.slice (some ⟨w.heap.size, 0, none⟩) 1 1)).run Try.prog (w.alloc (.cells #[.int .u8 z0] 5)) = .ok (.string (strOfNums [z0])) (w.alloc (.cells #[.int .u8 z0] 5)) := by
    have := conv_new1 w z0
    exact this
  have HD : Hid (dg 1 n = [z0]) := by
    show _ = _
    rw [dg1]
    simp only [List.cons.injEq, and_true]
    omega
  have HG : Hid (Gr w (w.alloc (.cells #[.int .u8 z0] 5))) := Gr.one w _
  generalize dg 1 n = D at *
  clear h0 h1 hm1 hz0
  subst hm0
  go_enter Try.func41, Try.ntmps41
  go_wp2
  refine wp_loop_rounds 1 ?_
  rw [rounds_succ]
  go_wp2
  refine wp_loop_rounds 2 ?_
  rw [rounds_succ]
  go_wp2
  rw [rounds_succ]
  go_wp2
  go_ret2
  exact ⟨ret_sb (by rw [unhide HD, str_one]), unhide HG⟩
set_option maxHeartbeats 1600000 in
theorem rdig_1n (n : Int) (h0 : -128 ≤ n) (h1 : n < 128) (hs : n < 0) (w : World) : Calls Try.prog 41 #[.int .i64 n, .int .i64 1] w fun r w' => r = .returned (.tuple #[.string (strOfNums (dg 1 n)), .bool true]) ∧ Gr w w' := by
  have k0 : ¬ n < -128 := by omega
  have k1 : ¬ (128 : Int) ≤ n := by omega
  obtain ⟨m0, hm0⟩ : ∃ m, n + 256 = m := ⟨_, rfl⟩
  have a0 : wrap64 m0 = m0 := by unfold wrap64; omega
  obtain ⟨z0, hz0⟩ : ∃ z, m0 % 256 = z := ⟨_, rfl⟩
  obtain ⟨m1, hm1⟩ : ∃ m, m0 / 256 = m := ⟨_, rfl⟩
  have t0 : m0.tmod 256 = z0 := by rw [Int.tmod_eq_emod_of_nonneg (by omega)]; exact hz0
  have d0 : m0.tdiv 256 = m1 := by rw [Int.tdiv_eq_ediv_of_nonneg (by omega)]; exact hm1
  have u0 : IntKind.u8.wrap z0 = z0 := by simp [IntKind.wrap, IntKind.bits, IntKind.signed]; omega
  have v0 : wrap64 z0 = z0 := by unfold wrap64; omega
  have x0 : wrap64 m1 = m1 := by unfold wrap64; omega
  have c0 : (convert 71 9 (.slice (some ⟨w.heap.size, 0, none⟩) 1 1)).run Try.prog (w.alloc (.cells #[.int .u8 z0] 5)) = .ok (.string (strOfNums [z0])) (w.alloc (.cells #[.int .u8 z0] 5)) := by
    have := conv_new1 w z0
    exact this
  have HD : Hid (dg 1 n = [z0]) := by
    show _ = _
    rw [dg1]
    simp only [List.cons.injEq, and_true]
    omega
  have HG : Hid (Gr w (w.alloc (.cells #[.int .u8 z0] 5))) := Gr.one w _
  generalize dg 1 n = D at *
  clear h0 h1 hm1 hz0
  go_enter Try.func41, Try.ntmps41
  go_wp2
  refine wp_loop_rounds 1 ?_
  rw [rounds_succ]
  go_wp2
  refine wp_loop_rounds 2 ?_
  rw [rounds_succ]
  go_wp2
  rw [rounds_succ]
  go_wp2
  go_ret2
  exact ⟨ret_sb (by rw [unhide HD, str_one]), unhide HG⟩
set_option maxHeartbeats 1600000 in
theorem rdig_2p (n : Int) (h0 : -32768 ≤ n) (h1 : n < 32768) (hs : ¬ n < 0) (w : World) : Calls Try.prog 41 #[.int .i64 n, .int .i64 2] w fun r w' => r = .returned (.tuple #[.string (strOfNums (dg 2 n)), .bool true]) ∧ Gr w w' := by
  have k0 : ¬ n < -32768 := by omega
  have k1 : ¬ (32768 : Int) ≤ n := by omega
  obtain ⟨m0, hm0⟩ : ∃ m, n = m := ⟨_, rfl⟩
  obtain ⟨z0, hz0⟩ : ∃ z, m0 % 256 = z := ⟨_, rfl⟩
  obtain ⟨m1, hm1⟩ : ∃ m, m0 / 256 = m := ⟨_, rfl⟩
  have t0 : m0.tmod 256 = z0 := by rw [Int.tmod_eq_emod_of_nonneg (by omega)]; exact hz0
  have d0 : m0.tdiv 256 = m1 := by rw [Int.tdiv_eq_ediv_of_nonneg (by omega)]; exact hm1
  have u0 : IntKind.u8.wrap z0 = z0 := by simp [IntKind.wrap, IntKind.bits, IntKind.signed]; omega
  have v0 : wrap64 z0 = z0 := by unfold wrap64; omega
  have x0 : wrap64 m1 = m1 := by unfold wrap64; omega
  obtain ⟨z1, hz1⟩ : ∃ z, m1 % 256 = z := ⟨_, rfl⟩
  obtain ⟨m2, hm2⟩ : ∃ m, m1 / 256 = m := ⟨_, rfl⟩
  have t1 : m1.tmod 256 = z1 := by rw [Int.tmod_eq_emod_of_nonneg (by omega)]; exact hz1
  have d1 : m1.tdiv 256 = m2 := by rw [Int.tdiv_eq_ediv_of_nonneg (by omega)]; exact hm2
  have u1 : IntKind.u8.wrap z1 = z1 := by simp [IntKind.wrap, IntKind.bits, IntKind.signed]; omega
  have v1 : wrap64 z1 = z1 := by unfold wrap64; omega
  have x1 : wrap64 m2 = m2 := by unfold wrap64; omega
  have c0 : (convert 71 9 (.slice (some ⟨w.heap.size, 0, none⟩) 1 1)).run Try.prog (w.alloc (.cells #[.int .u8 z0] 5)) = .ok (.string (strOfNums [z0])) (w.alloc (.cells #[.int .u8 z0] 5)) := by
    have := conv_new1 w z0
    exact this
  have c1 : (convert 71 9 (.slice (some ⟨w.heap.size + 1, 0, none⟩) 1 1)).run Try.prog ((w.alloc (.cells #[.int .u8 z0] 5)).alloc (.cells #[.int .u8 z1] 5)) = .ok (.string (strOfNums [z1])) ((w.alloc (.cells #[.int .u8 z0] 5)).alloc (.cells #[.int .u8 z1] 5)) := by
    have := conv_new1 (w.alloc (.cells #[.int .u8 z0] 5)) z1
    rwa [show (w.alloc (.cells #[.int .u8 z0] 5)).heap.size = w.heap.size + 1 by simp] at this
  have HD : Hid (dg 2 n = [z1, z0]) := by
    show _ = _
    rw [dg2]
    simp only [List.cons.injEq, and_true]
    refine ⟨?_, ?_⟩ <;> omega
  have HG : Hid (Gr w ((w.alloc (.cells #[.int .u8 z0] 5)).alloc (.cells #[.int .u8 z1] 5))) := (Gr.one w _).alloc _
  generalize dg 2 n = D at *
  clear h0 h1 hm1 hz0 hm2 hz1
  subst hm0
  go_enter Try.func41, Try.ntmps41
  go_wp2
  refine wp_loop_rounds 2 ?_
  rw [rounds_succ]
  go_wp2
  rw [rounds_succ]
  go_wp2
  refine wp_loop_rounds 3 ?_
  rw [rounds_succ]
  go_wp2
  rw [rounds_succ]
  go_wp2
  rw [rounds_succ]
  go_wp2
  go_ret2
  exact ⟨ret_sb (by rw [unhide HD, str_one, strOfNums_app]; rfl), unhide HG⟩
set_option maxHeartbeats 1600000 in
theorem rdig_2n (n : Int) (h0 : -32768 ≤ n) (h1 : n < 32768) (hs : n < 0) (w : World) : Calls Try.prog 41 #[.int .i64 n, .int .i64 2] w fun r w' => r = .returned (.tuple #[.string (strOfNums (dg 2 n)), .bool true]) ∧ Gr w w' := by
  have k0 : ¬ n < -32768 := by omega
  have k1 : ¬ (32768 : Int) ≤ n := by omega
  obtain ⟨m0, hm0⟩ : ∃ m, n + 65536 = m := ⟨_, rfl⟩
  have a0 : wrap64 m0 = m0 := by unfold wrap64; omega
  obtain ⟨z0, hz0⟩ : ∃ z, m0 % 256 = z := ⟨_, rfl⟩
  obtain ⟨m1, hm1⟩ : ∃ m, m0 / 256 = m := ⟨_, rfl⟩
  have t0 : m0.tmod 256 = z0 := by rw [Int.tmod_eq_emod_of_nonneg (by omega)]; exact hz0
  have d0 : m0.tdiv 256 = m1 := by rw [Int.tdiv_eq_ediv_of_nonneg (by omega)]; exact hm1
  have u0 : IntKind.u8.wrap z0 = z0 := by simp [IntKind.wrap, IntKind.bits, IntKind.signed]; omega
  have v0 : wrap64 z0 = z0 := by unfold wrap64; omega
  have x0 : wrap64 m1 = m1 := by unfold wrap64; omega
  obtain ⟨z1, hz1⟩ : ∃ z, m1 % 256 = z := ⟨_, rfl⟩
  obtain ⟨m2, hm2⟩ : ∃ m, m1 / 256 = m := ⟨_, rfl⟩
  have t1 : m1.tmod 256 = z1 := by rw [Int.tmod_eq_emod_of_nonneg (by omega)]; exact hz1
  have d1 : m1.tdiv 256 = m2 := by rw [Int.tdiv_eq_ediv_of_nonneg (by omega)]; exact hm2
  have u1 : IntKind.u8.wrap z1 = z1 := by simp [IntKind.wrap, IntKind.bits, IntKind.signed]; omega
  have v1 : wrap64 z1 = z1 := by unfold wrap64; omega
  have x1 : wrap64 m2 = m2 := by unfold wrap64; omega
  have c0 : (convert 71 9 (.slice (some ⟨w.heap.size, 0, none⟩) 1 1)).run Try.prog (w.alloc (.cells #[.int .u8 z0] 5)) = .ok (.string (strOfNums [z0])) (w.alloc (.cells #[.int .u8 z0] 5)) := by
    have := conv_new1 w z0
    exact this
  have c1 : (convert 71 9 (.slice (some ⟨w.heap.size + 1, 0, none⟩) 1 1)).run Try.prog ((w.alloc (.cells #[.int .u8 z0] 5)).alloc (.cells #[.int .u8 z1] 5)) = .ok (.string (strOfNums [z1])) ((w.alloc (.cells #[.int .u8 z0] 5)).alloc (.cells #[.int .u8 z1] 5)) := by
    have := conv_new1 (w.alloc (.cells #[.int .u8 z0] 5)) z1
    rwa [show (w.alloc (.cells #[.int .u8 z0] 5)).heap.size = w.heap.size + 1 by simp] at this
  have HD : Hid (dg 2 n = [z1, z0]) := by
    show _ = _
    rw [dg2]
    simp only [List.cons.injEq, and_true]
    refine ⟨?_, ?_⟩ <;> omega
  have HG : Hid (Gr w ((w.alloc (.cells #[.int .u8 z0] 5)).alloc (.cells #[.int .u8 z1] 5))) := (Gr.one w _).alloc _
  generalize dg 2 n = D at *
  clear h0 h1 hm1 hz0 hm2 hz1
  go_enter Try.func41, Try.ntmps41
  go_wp2
  refine wp_loop_rounds 2 ?_
  rw [rounds_succ]
  go_wp2
  rw [rounds_succ]
  go_wp2
  refine wp_loop_rounds 3 ?_
  rw [rounds_succ]
  go_wp2
  rw [rounds_succ]
  go_wp2
  rw [rounds_succ]
  go_wp2
  go_ret2
  exact ⟨ret_sb (by rw [unhide HD, str_one, strOfNums_app]; rfl), unhide HG⟩
set_option maxHeartbeats 1600000 in
theorem rdig_3p (n : Int) (h0 : -8388608 ≤ n) (h1 : n < 8388608) (hs : ¬ n < 0) (w : World) : Calls Try.prog 41 #[.int .i64 n, .int .i64 3] w fun r w' => r = .returned (.tuple #[.string (strOfNums (dg 3 n)), .bool true]) ∧ Gr w w' := by
  have k0 : ¬ n < -8388608 := by omega
  have k1 : ¬ (8388608 : Int) ≤ n := by omega
  obtain ⟨m0, hm0⟩ : ∃ m, n = m := ⟨_, rfl⟩
  obtain ⟨z0, hz0⟩ : ∃ z, m0 % 256 = z := ⟨_, rfl⟩
  obtain ⟨m1, hm1⟩ : ∃ m, m0 / 256 = m := ⟨_, rfl⟩
  have t0 : m0.tmod 256 = z0 := by rw [Int.tmod_eq_emod_of_nonneg (by omega)]; exact hz0
  have d0 : m0.tdiv 256 = m1 := by rw [Int.tdiv_eq_ediv_of_nonneg (by omega)]; exact hm1
  have u0 : IntKind.u8.wrap z0 = z0 := by simp [IntKind.wrap, IntKind.bits, IntKind.signed]; omega
  have v0 : wrap64 z0 = z0 := by unfold wrap64; omega
  have x0 : wrap64 m1 = m1 := by unfold wrap64; omega
  obtain ⟨z1, hz1⟩ : ∃ z, m1 % 256 = z := ⟨_, rfl⟩
  obtain ⟨m2, hm2⟩ : ∃ m, m1 / 256 = m := ⟨_, rfl⟩
  have t1 : m1.tmod 256 = z1 := by rw [Int.tmod_eq_emod_of_nonneg (by omega)]; exact hz1
  have d1 : m1.tdiv 256 = m2 := by rw [Int.tdiv_eq_ediv_of_nonneg (by omega)]; exact hm2
  have u1 : IntKind.u8.wrap z1 = z1 := by simp [IntKind.wrap, IntKind.bits, IntKind.signed]; omega
  have v1 : wrap64 z1 = z1 := by unfold wrap64; omega
  have x1 : wrap64 m2 = m2 := by unfold wrap64; omega
  obtain ⟨z2, hz2⟩ : ∃ z, m2 % 256 = z := ⟨_, rfl⟩
  obtain ⟨m3, hm3⟩ : ∃ m, m2 / 256 = m := ⟨_, rfl⟩
  have t2 : m2.tmod 256 = z2 := by rw [Int.tmod_eq_emod_of_nonneg (by omega)]; exact hz2
  have d2 : m2.tdiv 256 = m3 := by rw [Int.tdiv_eq_ediv_of_nonneg (by omega)]; exact hm3
  have u2 : IntKind.u8.wrap z2 = z2 := by simp [IntKind.wrap, IntKind.bits, IntKind.signed]; omega
  have v2 : wrap64 z2 = z2 := by unfold wrap64; omega
  have x2 : wrap64 m3 = m3 := by unfold wrap64; omega
  have c0 : (convert 71 9 (.slice (some ⟨w.heap.size, 0, none⟩) 1 1)).run Try.prog (w.alloc (.cells #[.int .u8 z0] 5)) = .ok (.string (strOfNums [z0])) (w.alloc (.cells #[.int .u8 z0] 5)) := by
    have := conv_new1 w z0
    exact this
  have c1 : (convert 71 9 (.slice (some ⟨w.heap.size + 1, 0, none⟩) 1 1)).run Try.prog ((w.alloc (.cells #[.int .u8 z0] 5)).alloc (.cells #[.int .u8 z1] 5)) = .ok (.string (strOfNums [z1])) ((w.alloc (.cells #[.int .u8 z0] 5)).alloc (.cells #[.int .u8 z1] 5)) := by
    have := conv_new1 (w.alloc (.cells #[.int .u8 z0] 5)) z1
    rwa [show (w.alloc (.cells #[.int .u8 z0] 5)).heap.size = w.heap.size + 1 by simp] at this
  have c2 : (convert 71 9 (.slice (some ⟨w.heap.size + 1 + 1, 0, none⟩) 1 1)).run Try.prog (((w.alloc (.cells #[.int .u8 z0] 5)).alloc (.cells #[.int .u8 z1] 5)).alloc (.cells #[.int .u8 z2] 5)) = .ok (.string (strOfNums [z2])) (((w.alloc (.cells #[.int .u8 z0] 5)).alloc (.cells #[.int .u8 z1] 5)).alloc (.cells #[.int .u8 z2] 5)) := by
    have := conv_new1 ((w.alloc (.cells #[.int .u8 z0] 5)).alloc (.cells #[.int .u8 z1] 5)) z2
    rwa [show ((w.alloc (.cells #[.int .u8 z0] 5)).alloc (.cells #[.int .u8 z1] 5)).heap.size = w.heap.size + 1 + 1 by simp] at this
  have HD : Hid (dg 3 n = [z2, z1, z0]) := by
    show _ = _
    rw [dg3]
    simp only [List.cons.injEq, and_true]
    refine ⟨?_, ?_, ?_⟩ <;> omega
  have HG : Hid (Gr w (((w.alloc (.cells #[.int .u8 z0] 5)).alloc (.cells #[.int .u8 z1] 5)).alloc (.cells #[.int .u8 z2] 5))) := ((Gr.one w _).alloc _).alloc _
  generalize dg 3 n = D at *
  clear h0 h1 hm1 hz0 hm2 hz1 hm3 hz2
  subst hm0
  go_enter Try.func41, Try.ntmps41
  go_wp2
  refine wp_loop_rounds 3 ?_
  rw [rounds_succ]
  go_wp2
  rw [rounds_succ]
  go_wp2
  rw [rounds_succ]
  go_wp2
  refine wp_loop_rounds 4 ?_
  rw [rounds_succ]
  go_wp2
  rw [rounds_succ]
  go_wp2
  rw [rounds_succ]
  go_wp2
  rw [rounds_succ]
  go_wp2
  go_ret2
  exact ⟨ret_sb (by rw [unhide HD, str_one, strOfNums_app, strOfNums_app]; rfl), unhide HG⟩
set_option maxHeartbeats 1600000 in
theorem rdig_3n (n : Int) (h0 : -8388608 ≤ n) (h1 : n < 8388608) (hs : n < 0) (w : World) : Calls Try.prog 41 #[.int .i64 n, .int .i64 3] w fun r w' => r = .returned (.tuple #[.string (strOfNums (dg 3 n)), .bool true]) ∧ Gr w w' := by
  have k0 : ¬ n < -8388608 := by omega
  have k1 : ¬ (8388608 : Int) ≤ n := by omega
  obtain ⟨m0, hm0⟩ : ∃ m, n + 16777216 = m := ⟨_, rfl⟩
  have a0 : wrap64 m0 = m0 := by unfold wrap64; omega
  obtain ⟨z0, hz0⟩ : ∃ z, m0 % 256 = z := ⟨_, rfl⟩
  obtain ⟨m1, hm1⟩ : ∃ m, m0 / 256 = m := ⟨_, rfl⟩
  have t0 : m0.tmod 256 = z0 := by rw [Int.tmod_eq_emod_of_nonneg (by omega)]; exact hz0
  have d0 : m0.tdiv 256 = m1 := by rw [Int.tdiv_eq_ediv_of_nonneg (by omega)]; exact hm1
  have u0 : IntKind.u8.wrap z0 = z0 := by simp [IntKind.wrap, IntKind.bits, IntKind.signed]; omega
  have v0 : wrap64 z0 = z0 := by unfold wrap64; omega
  have x0 : wrap64 m1 = m1 := by unfold wrap64; omega
  obtain ⟨z1, hz1⟩ : ∃ z, m1 % 256 = z := ⟨_, rfl⟩
  obtain ⟨m2, hm2⟩ : ∃ m, m1 / 256 = m := ⟨_, rfl⟩
  have t1 : m1.tmod 256 = z1 := by rw [Int.tmod_eq_emod_of_nonneg (by omega)]; exact hz1
  have d1 : m1.tdiv 256 = m2 := by rw [Int.tdiv_eq_ediv_of_nonneg (by omega)]; exact hm2
  have u1 : IntKind.u8.wrap z1 = z1 := by simp [IntKind.wrap, IntKind.bits, IntKind.signed]; omega
  have v1 : wrap64 z1 = z1 := by unfold wrap64; omega
  have x1 : wrap64 m2 = m2 := by unfold wrap64; omega
  obtain ⟨z2, hz2⟩ : ∃ z, m2 % 256 = z := ⟨_, rfl⟩
  obtain ⟨m3, hm3⟩ : ∃ m, m2 / 256 = m := ⟨_, rfl⟩
  have t2 : m2.tmod 256 = z2 := by rw [Int.tmod_eq_emod_of_nonneg (by omega)]; exact hz2
  have d2 : m2.tdiv 256 = m3 := by rw [Int.tdiv_eq_ediv_of_nonneg (by omega)]; exact hm3
  have u2 : IntKind.u8.wrap z2 = z2 := by simp [IntKind.wrap, IntKind.bits, IntKind.signed]; omega
  have v2 : wrap64 z2 = z2 := by unfold wrap64; omega
  have x2 : wrap64 m3 = m3 := by unfold wrap64; omega
  have c0 : (convert 71 9 (.slice (some ⟨w.heap.size, 0, none⟩) 1 1)).run Try.prog (w.alloc (.cells #[.int .u8 z0] 5)) = .ok (.string (strOfNums [z0])) (w.alloc (.cells #[.int .u8 z0] 5)) := by
    have := conv_new1 w z0
    exact this
  have c1 : (convert 71 9 (.slice (some ⟨w.heap.size + 1, 0, none⟩) 1 1)).run Try.prog ((w.alloc (.cells #[.int .u8 z0] 5)).alloc (.cells #[.int .u8 z1] 5)) = .ok (.string (strOfNums [z1])) ((w.alloc (.cells #[.int .u8 z0] 5)).alloc (.cells #[.int .u8 z1] 5)) := by
    have := conv_new1 (w.alloc (.cells #[.int .u8 z0] 5)) z1
    rwa [show (w.alloc (.cells #[.int .u8 z0] 5)).heap.size = w.heap.size + 1 by simp] at this
  have c2 : (convert 71 9 (.slice (some ⟨w.heap.size + 1 + 1, 0, none⟩) 1 1)).run Try.prog (((w.alloc (.cells #[.int .u8 z0] 5)).alloc (.cells #[.int .u8 z1] 5)).alloc (.cells #[.int .u8 z2] 5)) = .ok (.string (strOfNums [z2])) (((w.alloc (.cells #[.int .u8 z0] 5)).alloc (.cells #[.int .u8 z1] 5)).alloc (.cells #[.int .u8 z2] 5)) := by
    have := conv_new1 ((w.alloc (.cells #[.int .u8 z0] 5)).alloc (.cells #[.int .u8 z1] 5)) z2
    rwa [show ((w.alloc (.cells #[.int .u8 z0] 5)).alloc (.cells #[.int .u8 z1] 5)).heap.size = w.heap.size + 1 + 1 by simp] at this
  have HD : Hid (dg 3 n = [z2, z1, z0]) := by
    show _ = _
    rw [dg3]
    simp only [List.cons.injEq, and_true]
    refine ⟨?_, ?_, ?_⟩ <;> omega
  have HG : Hid (Gr w (((w.alloc (.cells #[.int .u8 z0] 5)).alloc (.cells #[.int .u8 z1] 5)).alloc (.cells #[.int .u8 z2] 5))) := ((Gr.one w _).alloc _).alloc _
  generalize dg 3 n = D at *
  clear h0 h1 hm1 hz0 hm2 hz1 hm3 hz2
  go_enter Try.func41, Try.ntmps41
  go_wp2
  refine wp_loop_rounds 3 ?_
  rw [rounds_succ]
  go_wp2
  rw [rounds_succ]
  go_wp2
  rw [rounds_succ]
  go_wp2
  refine wp_loop_rounds 4 ?_
  rw [rounds_succ]
  go_wp2
  rw [rounds_succ]
  go_wp2
  rw [rounds_succ]
  go_wp2
  rw [rounds_succ]
  go_wp2
  go_ret2
  exact ⟨ret_sb (by rw [unhide HD, str_one, strOfNums_app, strOfNums_app]; rfl), unhide HG⟩
set_option maxHeartbeats 1600000 in
theorem rdig_4p (n : Int) (h0 : -2147483648 ≤ n) (h1 : n < 2147483648) (hs : ¬ n < 0) (w : World) : Calls Try.prog 41 #[.int .i64 n, .int .i64 4] w fun r w' => r = .returned (.tuple #[.string (strOfNums (dg 4 n)), .bool true]) ∧ Gr w w' := by
  have k0 : ¬ n < -2147483648 := by omega
  have k1 : ¬ (2147483648 : Int) ≤ n := by omega
  obtain ⟨m0, hm0⟩ : ∃ m, n = m := ⟨_, rfl⟩
  obtain ⟨z0, hz0⟩ : ∃ z, m0 % 256 = z := ⟨_, rfl⟩
  obtain ⟨m1, hm1⟩ : ∃ m, m0 / 256 = m := ⟨_, rfl⟩
  have t0 : m0.tmod 256 = z0 := by rw [Int.tmod_eq_emod_of_nonneg (by omega)]; exact hz0
  have d0 : m0.tdiv 256 = m1 := by rw [Int.tdiv_eq_ediv_of_nonneg (by omega)]; exact hm1
  have u0 : IntKind.u8.wrap z0 = z0 := by simp [IntKind.wrap, IntKind.bits, IntKind.signed]; omega
  have v0 : wrap64 z0 = z0 := by unfold wrap64; omega
  have x0 : wrap64 m1 = m1 := by unfold wrap64; omega
  obtain ⟨z1, hz1⟩ : ∃ z, m1 % 256 = z := ⟨_, rfl⟩
  obtain ⟨m2, hm2⟩ : ∃ m, m1 / 256 = m := ⟨_, rfl⟩
  have t1 : m1.tmod 256 = z1 := by rw [Int.tmod_eq_emod_of_nonneg (by omega)]; exact hz1
  have d1 : m1.tdiv 256 = m2 := by rw [Int.tdiv_eq_ediv_of_nonneg (by omega)]; exact hm2
  have u1 : IntKind.u8.wrap z1 = z1 := by simp [IntKind.wrap, IntKind.bits, IntKind.signed]; omega
  have v1 : wrap64 z1 = z1 := by unfold wrap64; omega
  have x1 : wrap64 m2 = m2 := by unfold wrap64; omega
  obtain ⟨z2, hz2⟩ : ∃ z, m2 % 256 = z := ⟨_, rfl⟩
  obtain ⟨m3, hm3⟩ : ∃ m, m2 / 256 = m := ⟨_, rfl⟩
  have t2 : m2.tmod 256 = z2 := by rw [Int.tmod_eq_emod_of_nonneg (by omega)]; exact hz2
  have d2 : m2.tdiv 256 = m3 := by rw [Int.tdiv_eq_ediv_of_nonneg (by omega)]; exact hm3
  have u2 : IntKind.u8.wrap z2 = z2 := by simp [IntKind.wrap, IntKind.bits, IntKind.signed]; omega
  have v2 : wrap64 z2 = z2 := by unfold wrap64; omega
  have x2 : wrap64 m3 = m3 := by unfold wrap64; omega
  obtain ⟨z3, hz3⟩ : ∃ z, m3 % 256 = z := ⟨_, rfl⟩
  obtain ⟨m4, hm4⟩ : ∃ m, m3 / 256 = m := ⟨_, rfl⟩
  have t3 : m3.tmod 256 = z3 := by rw [Int.tmod_eq_emod_of_nonneg (by omega)]; exact hz3
  have d3 : m3.tdiv 256 = m4 := by rw [Int.tdiv_eq_ediv_of_nonneg (by omega)]; exact hm4
  have u3 : IntKind.u8.wrap z3 = z3 := by simp [IntKind.wrap, IntKind.bits, IntKind.signed]; omega
  have v3 : wrap64 z3 = z3 := by unfold wrap64; omega
  have x3 : wrap64 m4 = m4 := by unfold wrap64; omega
  have c0 : (convert 71 9 (.slice (some ⟨w.heap.size, 0, none⟩) 1 1)).run Try.prog (w.alloc (.cells #[.int .u8 z0] 5)) = .ok (.string (strOfNums [z0])) (w.alloc (.cells #[.int .u8 z0] 5)) := by
    have := conv_new1 w z0
    exact this
  have c1 : (convert 71 9 (.slice (some ⟨w.heap.size + 1, 0, none⟩) 1 1)).run Try.prog ((w.alloc (.cells #[.int .u8 z0] 5)).alloc (.cells #[.int .u8 z1] 5)) = .ok (.string (strOfNums [z1])) ((w.alloc (.cells #[.int .u8 z0] 5)).alloc (.cells #[.int .u8 z1] 5)) := by
    have := conv_new1 (w.alloc (.cells #[.int .u8 z0] 5)) z1
    rwa [show (w.alloc (.cells #[.int .u8 z0] 5)).heap.size = w.heap.size + 1 by simp] at this
  have c2 : (convert 71 9 (.slice (some ⟨w.heap.size + 1 + 1, 0, none⟩) 1 1)).run Try.prog (((w.alloc (.cells #[.int .u8 z0] 5)).alloc (.cells #[.int .u8 z1] 5)).alloc (.cells #[.int .u8 z2] 5)) = .ok (.string (strOfNums [z2])) (((w.alloc (.cells #[.int .u8 z0] 5)).alloc (.cells #[.int .u8 z1] 5)).alloc (.cells #[.int .u8 z2] 5)) := by
    have := conv_new1 ((w.alloc (.cells #[.int .u8 z0] 5)).alloc (.cells #[.int .u8 z1] 5)) z2
    rwa [show ((w.alloc (.cells #[.int .u8 z0] 5)).alloc (.cells #[.int .u8 z1] 5)).heap.size = w.heap.size + 1 + 1 by simp] at this
  have c3 : (convert 71 9 (.slice (some ⟨w.heap.size + 1 + 1 + 1, 0, none⟩) 1 1)).run Try.prog ((((w.alloc (.cells #[.int .u8 z0] 5)).alloc (.cells #[.int .u8 z1] 5)).alloc (.cells #[.int .u8 z2] 5)).alloc (.cells #[.int .u8 z3] 5)) = .ok (.string (strOfNums [z3])) ((((w.alloc (.cells #[.int .u8 z0] 5)).alloc (.cells #[.int .u8 z1] 5)).alloc (.cells #[.int .u8 z2] 5)).alloc (.cells #[.int .u8 z3] 5)) := by
    have := conv_new1 (((w.alloc (.cells #[.int .u8 z0] 5)).alloc (.cells #[.int .u8 z1] 5)).alloc (.cells #[.int .u8 z2] 5)) z3
    rwa [show (((w.alloc (.cells #[.int .u8 z0] 5)).alloc (.cells #[.int .u8 z1] 5)).alloc (.cells #[.int .u8 z2] 5)).heap.size = w.heap.size + 1 + 1 + 1 by simp] at this
  have HD : Hid (dg 4 n = [z3, z2, z1, z0]) := by
    show _ = _
    rw [dg4]
    simp only [List.cons.injEq, and_true]
    refine ⟨?_, ?_, ?_, ?_⟩ <;> omega
  have HG : Hid (Gr w ((((w.alloc (.cells #[.int .u8 z0] 5)).alloc (.cells #[.int .u8 z1] 5)).alloc (.cells #[.int .u8 z2] 5)).alloc (.cells #[.int .u8 z3] 5))) := (((Gr.one w _).alloc _).alloc _).alloc _
  generalize dg 4 n = D at *
  clear h0 h1 hm1 hz0 hm2 hz1 hm3 hz2 hm4 hz3
  subst hm0
  go_enter Try.func41, Try.ntmps41
  go_wp2
  refine wp_loop_rounds 4 ?_
  rw [rounds_succ]
  go_wp2
  rw [rounds_succ]
  go_wp2
  rw [rounds_succ]
  go_wp2
  rw [rounds_succ]
  go_wp2
  refine wp_loop_rounds 5 ?_
  rw [rounds_succ]
  go_wp2
  rw [rounds_succ]
  go_wp2
  rw [rounds_succ]
  go_wp2
  rw [rounds_succ]
  go_wp2
  rw [rounds_succ]
  go_wp2
  go_ret2
  exact ⟨ret_sb (by rw [unhide HD, str_one, strOfNums_app, strOfNums_app, strOfNums_app]; rfl), unhide HG⟩
set_option maxHeartbeats 1600000 in
theorem rdig_4n (n : Int) (h0 : -2147483648 ≤ n) (h1 : n < 2147483648) (hs : n < 0) (w : World) : Calls Try.prog 41 #[.int .i64 n, .int .i64 4] w fun r w' => r = .returned (.tuple #[.string (strOfNums (dg 4 n)), .bool true]) ∧ Gr w w' := by
  have k0 : ¬ n < -2147483648 := by omega
  have k1 : ¬ (2147483648 : Int) ≤ n := by omega
  obtain ⟨m0, hm0⟩ : ∃ m, n + 4294967296 = m := ⟨_, rfl⟩
  have a0 : wrap64 m0 = m0 := by unfold wrap64; omega
  obtain ⟨z0, hz0⟩ : ∃ z, m0 % 256 = z := ⟨_, rfl⟩
  obtain ⟨m1, hm1⟩ : ∃ m, m0 / 256 = m := ⟨_, rfl⟩
  have t0 : m0.tmod 256 = z0 := by rw [Int.tmod_eq_emod_of_nonneg (by omega)]; exact hz0
  have d0 : m0.tdiv 256 = m1 := by rw [Int.tdiv_eq_ediv_of_nonneg (by omega)]; exact hm1
  have u0 : IntKind.u8.wrap z0 = z0 := by simp [IntKind.wrap, IntKind.bits, IntKind.signed]; omega
  have v0 : wrap64 z0 = z0 := by unfold wrap64; omega
  have x0 : wrap64 m1 = m1 := by unfold wrap64; omega
  obtain ⟨z1, hz1⟩ : ∃ z, m1 % 256 = z := ⟨_, rfl⟩
  obtain ⟨m2, hm2⟩ : ∃ m, m1 / 256 = m := ⟨_, rfl⟩
  have t1 : m1.tmod 256 = z1 := by rw [Int.tmod_eq_emod_of_nonneg (by omega)]; exact hz1
  have d1 : m1.tdiv 256 = m2 := by rw [Int.tdiv_eq_ediv_of_nonneg (by omega)]; exact hm2
  have u1 : IntKind.u8.wrap z1 = z1 := by simp [IntKind.wrap, IntKind.bits, IntKind.signed]; omega
  have v1 : wrap64 z1 = z1 := by unfold wrap64; omega
  have x1 : wrap64 m2 = m2 := by unfold wrap64; omega
  obtain ⟨z2, hz2⟩ : ∃ z, m2 % 256 = z := ⟨_, rfl⟩
  obtain ⟨m3, hm3⟩ : ∃ m, m2 / 256 = m := ⟨_, rfl⟩
  have t2 : m2.tmod 256 = z2 := by rw [Int.tmod_eq_emod_of_nonneg (by omega)]; exact hz2
  have d2 : m2.tdiv 256 = m3 := by rw [Int.tdiv_eq_ediv_of_nonneg (by omega)]; exact hm3
  have u2 : IntKind.u8.wrap z2 = z2 := by simp [IntKind.wrap, IntKind.bits, IntKind.signed]; omega
  have v2 : wrap64 z2 = z2 := by unfold wrap64; omega
  have x2 : wrap64 m3 = m3 := by unfold wrap64; omega
  obtain ⟨z3, hz3⟩ : ∃ z, m3 % 256 = z := ⟨_, rfl⟩
  obtain ⟨m4, hm4⟩ : ∃ m, m3 / 256 = m := ⟨_, rfl⟩
  have t3 : m3.tmod 256 = z3 := by rw [Int.tmod_eq_emod_of_nonneg (by omega)]; exact hz3
  have d3 : m3.tdiv 256 = m4 := by rw [Int.tdiv_eq_ediv_of_nonneg (by omega)]; exact hm4
  have u3 : IntKind.u8.wrap z3 = z3 := by simp [IntKind.wrap, IntKind.bits, IntKind.signed]; omega
  have v3 : wrap64 z3 = z3 := by unfold wrap64; omega
  have x3 : wrap64 m4 = m4 := by unfold wrap64; omega
  have c0 : (convert 71 9 (.slice (some ⟨w.heap.size, 0, none⟩) 1 1)).run Try.prog (w.alloc (.cells #[.int .u8 z0] 5)) = .ok (.string (strOfNums [z0])) (w.alloc (.cells #[.int .u8 z0] 5)) := by
    have := conv_new1 w z0
    exact this
  have c1 : (convert 71 9 (.slice (some ⟨w.heap.size + 1, 0, none⟩) 1 1)).run Try.prog ((w.alloc (.cells #[.int .u8 z0] 5)).alloc (.cells #[.int .u8 z1] 5)) = .ok (.string (strOfNums [z1])) ((w.alloc (.cells #[.int .u8 z0] 5)).alloc (.cells #[.int .u8 z1] 5)) := by
    have := conv_new1 (w.alloc (.cells #[.int .u8 z0] 5)) z1
    rwa [show (w.alloc (.cells #[.int .u8 z0] 5)).heap.size = w.heap.size + 1 by simp] at this
  have c2 : (convert 71 9 (.slice (some ⟨w.heap.size + 1 + 1, 0, none⟩) 1 1)).run Try.prog (((w.alloc (.cells #[.int .u8 z0] 5)).alloc (.cells #[.int .u8 z1] 5)).alloc (.cells #[.int .u8 z2] 5)) = .ok (.string (strOfNums [z2])) (((w.alloc (.cells #[.int .u8 z0] 5)).alloc (.cells #[.int .u8 z1] 5)).alloc (.cells #[.int .u8 z2] 5)) := by
    have := conv_new1 ((w.alloc (.cells #[.int .u8 z0] 5)).alloc (.cells #[.int .u8 z1] 5)) z2
    rwa [show ((w.alloc (.cells #[.int .u8 z0] 5)).alloc (.cells #[.int .u8 z1] 5)).heap.size = w.heap.size + 1 + 1 by simp] at this
  have c3 : (convert 71 9 (.slice (some ⟨w.heap.size + 1 + 1 + 1, 0, none⟩) 1 1)).run Try.prog ((((w.alloc (.cells #[.int .u8 z0] 5)).alloc (.cells #[.int .u8 z1] 5)).alloc (.cells #[.int .u8 z2] 5)).alloc (.cells #[.int .u8 z3] 5)) = .ok (.string (strOfNums [z3])) ((((w.alloc (.cells #[.int .u8 z0] 5)).alloc (.cells #[.int .u8 z1] 5)).alloc (.cells #[.int .u8 z2] 5)).alloc (.cells #[.int .u8 z3] 5)) := by
    have := conv_new1 (((w.alloc (.cells #[.int .u8 z0] 5)).alloc (.cells #[.int .u8 z1] 5)).alloc (.cells #[.int .u8 z2] 5)) z3
    rwa [show (((w.alloc (.cells #[.int .u8 z0] 5)).alloc (.cells #[.int .u8 z1] 5)).alloc (.cells #[.int .u8 z2] 5)).heap.size = w.heap.size + 1 + 1 + 1 by simp] at this
  have HD : Hid (dg 4 n = [z3, z2, z1, z0]) := by
    show _ = _
    rw [dg4]
    simp only [List.cons.injEq, and_true]
    refine ⟨?_, ?_, ?_, ?_⟩ <;> omega
  have HG : Hid (Gr w ((((w.alloc (.cells #[.int .u8 z0] 5)).alloc (.cells #[.int .u8 z1] 5)).alloc (.cells #[.int .u8 z2] 5)).alloc (.cells #[.int .u8 z3] 5))) := (((Gr.one w _).alloc _).alloc _).alloc _
  generalize dg 4 n = D at *
  clear h0 h1 hm1 hz0 hm2 hz1 hm3 hz2 hm4 hz3
  go_enter Try.func41, Try.ntmps41
  go_wp2
  refine wp_loop_rounds 4 ?_
  rw [rounds_succ]
  go_wp2
  rw [rounds_succ]
  go_wp2
  rw [rounds_succ]
  go_wp2
  rw [rounds_succ]
  go_wp2
  refine wp_loop_rounds 5 ?_
  rw [rounds_succ]
  go_wp2
  rw [rounds_succ]
  go_wp2
  rw [rounds_succ]
  go_wp2
  rw [rounds_succ]
  go_wp2
  rw [rounds_succ]
  go_wp2
  go_ret2
  exact ⟨ret_sb (by rw [unhide HD, str_one, strOfNums_app, strOfNums_app, strOfNums_app]; rfl), unhide HG⟩
theorem rdig_1 (n : Int) (h0 : -128 ≤ n) (h1 : n < 128) (w : World) : Calls Try.prog 41 #[.int .i64 n, .int .i64 1] w fun r w' => r = .returned (.tuple #[.string (strOfNums (dg 1 n)), .bool true]) ∧ Gr w w' := by
  by_cases hs : n < 0
  · exact rdig_1n n h0 h1 hs w
  · exact rdig_1p n h0 h1 hs w
set_option maxHeartbeats 800000 in
theorem rdig_1o (n : Int) (h : ¬ (-128 ≤ n ∧ n < 128)) (w : World) : Calls Try.prog 41 #[.int .i64 n, .int .i64 1] w fun r w' => r = .returned (.tuple #[.string ⟨#[]⟩, .bool false]) ∧ Gr w w' := by
  by_cases hs : n < -128
  · clear h
    go_enter Try.func41, Try.ntmps41
    go_wp2
    refine wp_loop_rounds 1 ?_
    rw [rounds_succ]
    go_wp2
    go_ret2
    exact ⟨rfl, Gr.refl _⟩
  · have k1 : (128 : Int) ≤ n := by omega
    clear h
    go_enter Try.func41, Try.ntmps41
    go_wp2
    refine wp_loop_rounds 1 ?_
    rw [rounds_succ]
    go_wp2
    go_ret2
    exact ⟨rfl, Gr.refl _⟩
theorem rdig_2 (n : Int) (h0 : -32768 ≤ n) (h1 : n < 32768) (w : World) : Calls Try.prog 41 #[.int .i64 n, .int .i64 2] w fun r w' => r = .returned (.tuple #[.string (strOfNums (dg 2 n)), .bool true]) ∧ Gr w w' := by
  by_cases hs : n < 0
  · exact rdig_2n n h0 h1 hs w
  · exact rdig_2p n h0 h1 hs w
set_option maxHeartbeats 800000 in
theorem rdig_2o (n : Int) (h : ¬ (-32768 ≤ n ∧ n < 32768)) (w : World) : Calls Try.prog 41 #[.int .i64 n, .int .i64 2] w fun r w' => r = .returned (.tuple #[.string ⟨#[]⟩, .bool false]) ∧ Gr w w' := by
  by_cases hs : n < -32768
  · clear h
    go_enter Try.func41, Try.ntmps41
    go_wp2
    refine wp_loop_rounds 2 ?_
    rw [rounds_succ]
    go_wp2
    rw [rounds_succ]
    go_wp2
    go_ret2
    exact ⟨rfl, Gr.refl _⟩
  · have k1 : (32768 : Int) ≤ n := by omega
    clear h
    go_enter Try.func41, Try.ntmps41
    go_wp2
    refine wp_loop_rounds 2 ?_
    rw [rounds_succ]
    go_wp2
    rw [rounds_succ]
    go_wp2
    go_ret2
    exact ⟨rfl, Gr.refl _⟩
theorem rdig_3 (n : Int) (h0 : -8388608 ≤ n) (h1 : n < 8388608) (w : World) : Calls Try.prog 41 #[.int .i64 n, .int .i64 3] w fun r w' => r = .returned (.tuple #[.string (strOfNums (dg 3 n)), .bool true]) ∧ Gr w w' := by
  by_cases hs : n < 0
  · exact rdig_3n n h0 h1 hs w
  · exact rdig_3p n h0 h1 hs w
set_option maxHeartbeats 800000 in
theorem rdig_3o (n : Int) (h : ¬ (-8388608 ≤ n ∧ n < 8388608)) (w : World) : Calls Try.prog 41 #[.int .i64 n, .int .i64 3] w fun r w' => r = .returned (.tuple #[.string ⟨#[]⟩, .bool false]) ∧ Gr w w' := by
  by_cases hs : n < -8388608
  · clear h
    go_enter Try.func41, Try.ntmps41
    go_wp2
    refine wp_loop_rounds 3 ?_
    rw [rounds_succ]
    go_wp2
    rw [rounds_succ]
    go_wp2
    rw [rounds_succ]
    go_wp2
    go_ret2
    exact ⟨rfl, Gr.refl _⟩
  · have k1 : (8388608 : Int) ≤ n := by omega
    clear h
    go_enter Try.func41, Try.ntmps41
    go_wp2
    refine wp_loop_rounds 3 ?_
    rw [rounds_succ]
    go_wp2
    rw [rounds_succ]
    go_wp2
    rw [rounds_succ]
    go_wp2
    go_ret2
    exact ⟨rfl, Gr.refl _⟩
theorem rdig_4 (n : Int) (h0 : -2147483648 ≤ n) (h1 : n < 2147483648) (w : World) : Calls Try.prog 41 #[.int .i64 n, .int .i64 4] w fun r w' => r = .returned (.tuple #[.string (strOfNums (dg 4 n)), .bool true]) ∧ Gr w w' := by
  by_cases hs : n < 0
  · exact rdig_4n n h0 h1 hs w
  · exact rdig_4p n h0 h1 hs w
set_option maxHeartbeats 800000 in
theorem rdig_4o (n : Int) (h : ¬ (-2147483648 ≤ n ∧ n < 2147483648)) (w : World) : Calls Try.prog 41 #[.int .i64 n, .int .i64 4] w fun r w' => r = .returned (.tuple #[.string ⟨#[]⟩, .bool false]) ∧ Gr w w' := by
  by_cases hs : n < -2147483648
  · clear h
    go_enter Try.func41, Try.ntmps41
    go_wp2
    refine wp_loop_rounds 4 ?_
    rw [rounds_succ]
    go_wp2
    rw [rounds_succ]
    go_wp2
    rw [rounds_succ]
    go_wp2
    rw [rounds_succ]
    go_wp2
    go_ret2
    exact ⟨rfl, Gr.refl _⟩
  · have k1 : (2147483648 : Int) ≤ n := by omega
    clear h
    go_enter Try.func41, Try.ntmps41
    go_wp2
    refine wp_loop_rounds 4 ?_
    rw [rounds_succ]
    go_wp2
    rw [rounds_succ]
    go_wp2
    rw [rounds_succ]
    go_wp2
    rw [rounds_succ]
    go_wp2
    go_ret2
    exact ⟨rfl, Gr.refl _⟩
end Go.Proofs.Ytcboggoindhmkaa
