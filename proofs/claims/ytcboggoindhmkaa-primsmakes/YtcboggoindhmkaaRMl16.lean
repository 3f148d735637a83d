/- The document's Int, Bool, Text of layer 16 (made by gen_refm.py). -/
import Derived.Test.YtcboggoindhmkaaRMk16
namespace Go.Proofs.Ytcboggoindhmkaa
open Go.RowKit

theorem el0_V (w : World) : ElV w el0 (vBare 0 0) := ElP.toV _ _ (el0_P (fun _ => True) w)
theorem plain_V2 (w : World) (c n : Int) (t : ByteArray) : ElV w (.mk c false n t []) (.agg #[.int .i64 c, .bool false, .int .i64 n, .string t, .slice none 0 0]) := by
  simp only [ElV]
  exact ⟨none, 0, rfl, Nat.zero_le _, .inl rfl⟩
theorem int_none (k : Int) : (strOfNums (bytI k)).size = 0 ↔ ¬ (-2147483648 ≤ k ∧ k ≤ 2147483647) := by
  rw [strOfNums_size, List.length_eq_zero_iff]
  exact bytI_none k
theorem bel_one16 {w w1 : World} (h : Below w.heap.size w w1) (o : Obj) : Below w.heap.size w (w1.alloc o) := h.trans ((Below.one w1 o).mono h.size)
set_option maxHeartbeats 1600000 in
theorem rtext_any (c n : Int) (s : ByteArray) (w : World) : Calls Try.prog 13 #[.int .i64 c, .int .i64 n, .string s] w fun r w' => ∃ v', r = .returned (.tuple #[v', .int .i64 (mkX c n)]) ∧ ElV w' (mkE c false n s []) v' ∧ Below w.heap.size w w' := by
  have HZ1 := hide (Bx.new w (.int .i64 0) (.bool false) (.int .i64 0) (.string ⟨#[]⟩) (.slice none 0 0) 26)
  have HB0 := hide (Below.one w Z5)
  unfold mkX mkE
  cases hok : mkOk c n
  · have HS := hide (rsort_bad c n hok)
    simp only [Bool.false_eq_true, if_false]
    go_enter Try.func13, Try.ntmps13
    go_wp2_with (first | (go_at_call 32; refine (unhide HS _).mono ?_; rintro r w2 ⟨rfl, b2⟩; have BX9 := hide (((unhide HZ1).below b2).below (Below.one w2 (.cells #[.int .i64 0, .bool false, .int .i64 0, .string ⟨#[]⟩, .slice none 0 0] 26))); have q0 := (unhide BX9).c0; have q1 := (unhide BX9).c1; have q2 := (unhide BX9).c2; have q3 := (unhide BX9).c3; have q4 := (unhide BX9).c4; have f0 := (unhide BX9).f0; have f1 := (unhide BX9).f1; have f2 := (unhide BX9).f2; have f3 := (unhide BX9).f3; have f4 := (unhide BX9).f4; have B9 := hide (bel_one16 (below_next (unhide HB0) b2) (.cells #[.int .i64 0, .bool false, .int .i64 0, .string ⟨#[]⟩, .slice none 0 0] 26)); clear b2))
    generalize w2.alloc (.cells #[.int .i64 0, .bool false, .int .i64 0, .string ⟨#[]⟩, .slice none 0 0] 26) = w9 at *
    have bw := set5_below (.int .i64 0) (.bool false) (.int .i64 0) (.string ⟨#[]⟩) (.slice none 0 0) (Nat.le_refl w.heap.size) (unhide B9)
    generalize hW : (((((w9.setCell ⟨w.heap.size, 0, none⟩ (.int .i64 0)).setCell ⟨w.heap.size, 1, none⟩ (.bool false)).setCell ⟨w.heap.size, 2, none⟩ (.int .i64 0)).setCell ⟨w.heap.size, 3, none⟩ (.string ⟨#[]⟩)).setCell ⟨w.heap.size, 4, none⟩ (.slice none 0 0)) = W9 at *
    obtain ⟨r0, r1, r2, r3, r4, ro⟩ := set5 _ _ _ _ _ (unhide BX9).c0 (unhide BX9).c1 (unhide BX9).c2 (unhide BX9).c3 (unhide BX9).c4 hW
    clear hW
    refine bodyPost_ret (by simp [results, Try.results13, go_sem, r0, r1, r2, r3, r4]; try rfl) rfl ?_
    exact ⟨_, rfl, el0_V _, bw⟩
  · have HS := hide (rsort_ok c n hok)
    simp only [if_true]
    go_enter Try.func13, Try.ntmps13
    go_wp2_with (first | (go_at_call 32; refine (unhide HS _).mono ?_; rintro r w2 ⟨rfl, b2⟩; have BX9 := hide (((unhide HZ1).below b2).below (Below.one w2 (.cells #[.int .i64 c, .bool false, .int .i64 n, .string s, .slice none 0 0] 26))); have q0 := (unhide BX9).c0; have q1 := (unhide BX9).c1; have q2 := (unhide BX9).c2; have q3 := (unhide BX9).c3; have q4 := (unhide BX9).c4; have f0 := (unhide BX9).f0; have f1 := (unhide BX9).f1; have f2 := (unhide BX9).f2; have f3 := (unhide BX9).f3; have f4 := (unhide BX9).f4; have B9 := hide (bel_one16 (below_next (unhide HB0) b2) (.cells #[.int .i64 c, .bool false, .int .i64 n, .string s, .slice none 0 0] 26)); clear b2))
    generalize w2.alloc (.cells #[.int .i64 c, .bool false, .int .i64 n, .string s, .slice none 0 0] 26) = w9 at *
    have bw := set5_below (.int .i64 c) (.bool false) (.int .i64 n) (.string s) (.slice none 0 0) (Nat.le_refl w.heap.size) (unhide B9)
    generalize hW : (((((w9.setCell ⟨w.heap.size, 0, none⟩ (.int .i64 c)).setCell ⟨w.heap.size, 1, none⟩ (.bool false)).setCell ⟨w.heap.size, 2, none⟩ (.int .i64 n)).setCell ⟨w.heap.size, 3, none⟩ (.string s)).setCell ⟨w.heap.size, 4, none⟩ (.slice none 0 0)) = W9 at *
    obtain ⟨r0, r1, r2, r3, r4, ro⟩ := set5 _ _ _ _ _ (unhide BX9).c0 (unhide BX9).c1 (unhide BX9).c2 (unhide BX9).c3 (unhide BX9).c4 hW
    clear hW
    refine bodyPost_ret (by simp [results, Try.results13, go_sem, r0, r1, r2, r3, r4]; try rfl) rfl ?_
    exact ⟨_, rfl, plain_V2 _ c n s, bw⟩
set_option maxHeartbeats 1600000 in
theorem rbool_any (c n : Int) (b : Bool) (w : World) : Calls Try.prog 11 #[.int .i64 c, .int .i64 n, .bool b] w fun r w' => ∃ v', r = .returned (.tuple #[v', .int .i64 (mkX c n)]) ∧ ElV w' (mkE c false n (boolS b) []) v' ∧ Below w.heap.size w w' := by
  have HZ1 := hide (Bx.new w (.int .i64 0) (.bool false) (.int .i64 0) (.string ⟨#[]⟩) (.slice none 0 0) 26)
  have HB0 := hide (Below.one w Z5)
  unfold mkX mkE boolS
  cases hok : mkOk c n
  · have HS := hide (rsort_bad c n hok)
    simp only [Bool.false_eq_true, if_false]
    go_enter Try.func11, Try.ntmps11
    go_wp2_with (first | (go_at_call 32; refine (unhide HS _).mono ?_; rintro r w2 ⟨rfl, b2⟩; have BX9 := hide (((unhide HZ1).below b2).below (Below.one w2 (.cells #[.int .i64 0, .bool false, .int .i64 0, .string ⟨#[]⟩, .slice none 0 0] 26))); have q0 := (unhide BX9).c0; have q1 := (unhide BX9).c1; have q2 := (unhide BX9).c2; have q3 := (unhide BX9).c3; have q4 := (unhide BX9).c4; have f0 := (unhide BX9).f0; have f1 := (unhide BX9).f1; have f2 := (unhide BX9).f2; have f3 := (unhide BX9).f3; have f4 := (unhide BX9).f4; have B9 := hide (bel_one16 (below_next (unhide HB0) b2) (.cells #[.int .i64 0, .bool false, .int .i64 0, .string ⟨#[]⟩, .slice none 0 0] 26)); clear b2))
    generalize w2.alloc (.cells #[.int .i64 0, .bool false, .int .i64 0, .string ⟨#[]⟩, .slice none 0 0] 26) = w9 at *
    have bw := set5_below (.int .i64 0) (.bool false) (.int .i64 0) (.string ⟨#[]⟩) (.slice none 0 0) (Nat.le_refl w.heap.size) (unhide B9)
    generalize hW : (((((w9.setCell ⟨w.heap.size, 0, none⟩ (.int .i64 0)).setCell ⟨w.heap.size, 1, none⟩ (.bool false)).setCell ⟨w.heap.size, 2, none⟩ (.int .i64 0)).setCell ⟨w.heap.size, 3, none⟩ (.string ⟨#[]⟩)).setCell ⟨w.heap.size, 4, none⟩ (.slice none 0 0)) = W9 at *
    obtain ⟨r0, r1, r2, r3, r4, ro⟩ := set5 _ _ _ _ _ (unhide BX9).c0 (unhide BX9).c1 (unhide BX9).c2 (unhide BX9).c3 (unhide BX9).c4 hW
    clear hW
    refine bodyPost_ret (by simp [results, Try.results11, go_sem, r0, r1, r2, r3, r4]; try rfl) rfl ?_
    exact ⟨_, rfl, el0_V _, bw⟩
  · have HS := hide (rsort_ok c n hok)
    simp only [if_true]
    cases b
    · simp only [Bool.false_eq_true, if_false]
      go_enter Try.func11, Try.ntmps11
      go_wp2_with (first | (go_at_call 32; refine (unhide HS _).mono ?_; rintro r w2 ⟨rfl, b2⟩; have BX9 := hide (((unhide HZ1).below b2).below (Below.one w2 (.cells #[.int .i64 c, .bool false, .int .i64 n, .string ⟨#[0]⟩, .slice none 0 0] 26))); have q0 := (unhide BX9).c0; have q1 := (unhide BX9).c1; have q2 := (unhide BX9).c2; have q3 := (unhide BX9).c3; have q4 := (unhide BX9).c4; have f0 := (unhide BX9).f0; have f1 := (unhide BX9).f1; have f2 := (unhide BX9).f2; have f3 := (unhide BX9).f3; have f4 := (unhide BX9).f4; have B9 := hide (bel_one16 (below_next (unhide HB0) b2) (.cells #[.int .i64 c, .bool false, .int .i64 n, .string ⟨#[0]⟩, .slice none 0 0] 26)); clear b2))
      generalize w2.alloc (.cells #[.int .i64 c, .bool false, .int .i64 n, .string ⟨#[0]⟩, .slice none 0 0] 26) = w9 at *
      have bw := set5_below (.int .i64 c) (.bool false) (.int .i64 n) (.string ⟨#[0]⟩) (.slice none 0 0) (Nat.le_refl w.heap.size) (unhide B9)
      generalize hW : (((((w9.setCell ⟨w.heap.size, 0, none⟩ (.int .i64 c)).setCell ⟨w.heap.size, 1, none⟩ (.bool false)).setCell ⟨w.heap.size, 2, none⟩ (.int .i64 n)).setCell ⟨w.heap.size, 3, none⟩ (.string ⟨#[0]⟩)).setCell ⟨w.heap.size, 4, none⟩ (.slice none 0 0)) = W9 at *
      obtain ⟨r0, r1, r2, r3, r4, ro⟩ := set5 _ _ _ _ _ (unhide BX9).c0 (unhide BX9).c1 (unhide BX9).c2 (unhide BX9).c3 (unhide BX9).c4 hW
      clear hW
      refine bodyPost_ret (by simp [results, Try.results11, go_sem, r0, r1, r2, r3, r4]; try rfl) rfl ?_
      exact ⟨_, rfl, plain_V2 _ c n _, bw⟩
    · simp only [if_true]
      go_enter Try.func11, Try.ntmps11
      go_wp2_with (first | (go_at_call 32; refine (unhide HS _).mono ?_; rintro r w2 ⟨rfl, b2⟩; have BX9 := hide (((unhide HZ1).below b2).below (Below.one w2 (.cells #[.int .i64 c, .bool false, .int .i64 n, .string ⟨#[255]⟩, .slice none 0 0] 26))); have q0 := (unhide BX9).c0; have q1 := (unhide BX9).c1; have q2 := (unhide BX9).c2; have q3 := (unhide BX9).c3; have q4 := (unhide BX9).c4; have f0 := (unhide BX9).f0; have f1 := (unhide BX9).f1; have f2 := (unhide BX9).f2; have f3 := (unhide BX9).f3; have f4 := (unhide BX9).f4; have B9 := hide (bel_one16 (below_next (unhide HB0) b2) (.cells #[.int .i64 c, .bool false, .int .i64 n, .string ⟨#[255]⟩, .slice none 0 0] 26)); clear b2))
      generalize w2.alloc (.cells #[.int .i64 c, .bool false, .int .i64 n, .string ⟨#[255]⟩, .slice none 0 0] 26) = w9 at *
      have bw := set5_below (.int .i64 c) (.bool false) (.int .i64 n) (.string ⟨#[255]⟩) (.slice none 0 0) (Nat.le_refl w.heap.size) (unhide B9)
      generalize hW : (((((w9.setCell ⟨w.heap.size, 0, none⟩ (.int .i64 c)).setCell ⟨w.heap.size, 1, none⟩ (.bool false)).setCell ⟨w.heap.size, 2, none⟩ (.int .i64 n)).setCell ⟨w.heap.size, 3, none⟩ (.string ⟨#[255]⟩)).setCell ⟨w.heap.size, 4, none⟩ (.slice none 0 0)) = W9 at *
      obtain ⟨r0, r1, r2, r3, r4, ro⟩ := set5 _ _ _ _ _ (unhide BX9).c0 (unhide BX9).c1 (unhide BX9).c2 (unhide BX9).c3 (unhide BX9).c4 hW
      clear hW
      refine bodyPost_ret (by simp [results, Try.results11, go_sem, r0, r1, r2, r3, r4]; try rfl) rfl ?_
      exact ⟨_, rfl, plain_V2 _ c n _, bw⟩
set_option maxHeartbeats 1600000 in
theorem rint_any (c n k : Int) (w : World) : Calls Try.prog 9 #[.int .i64 c, .int .i64 n, .int .i64 k] w fun r w' => ∃ v', r = .returned (.tuple #[v', .int .i64 (intX c n k)]) ∧ ElV w' (intE c n k) v' ∧ Below w.heap.size w w' := by
  have HZ1 := hide (Bx.new w (.int .i64 0) (.bool false) (.int .i64 0) (.string ⟨#[]⟩) (.slice none 0 0) 26)
  have HB0 := hide (Below.one w Z5)
  have HBy := hide (rbytes_any k)
  by_cases hk : -2147483648 ≤ k ∧ k ≤ 2147483647
  · have e1 := toList_some (s := strOfNums (bytI k)) (Nat.pos_of_ne_zero fun h => (int_none k).1 h hk)
    have hX : intX c n k = mkX c n := by unfold intX; rw [if_pos hk]
    have hE : intE c n k = mkE c false n (strOfNums (bytI k)) [] := by unfold intE; rw [if_pos hk]
    rw [hX, hE]
    clear hX hE hk
    generalize strOfNums (bytI k) = s at *
    unfold mkX mkE
    cases hok : mkOk c n
    · have HS := hide (rsort_bad c n hok)
      simp only [Bool.false_eq_true, if_false]
      go_enter Try.func9, Try.ntmps9
      go_wp2_with (first | (go_at_call 32; refine (unhide HS _).mono ?_; rintro r w2 ⟨rfl, b2⟩; have BX9 := hide (((unhide HZ2).below b2).below (Below.one w2 (.cells #[.int .i64 0, .bool false, .int .i64 0, .string ⟨#[]⟩, .slice none 0 0] 26))); have q0 := (unhide BX9).c0; have q1 := (unhide BX9).c1; have q2 := (unhide BX9).c2; have q3 := (unhide BX9).c3; have q4 := (unhide BX9).c4; have f0 := (unhide BX9).f0; have f1 := (unhide BX9).f1; have f2 := (unhide BX9).f2; have f3 := (unhide BX9).f3; have f4 := (unhide BX9).f4; have B9 := hide (bel_one16 (below_next (unhide HB1) b2) (.cells #[.int .i64 0, .bool false, .int .i64 0, .string ⟨#[]⟩, .slice none 0 0] 26)); clear b2) | (go_at_call 31; refine (unhide HBy _).mono ?_; rintro r w1 ⟨rfl, g1⟩; have HZ2 := hide ((unhide HZ1).below g1.below); have HB1 := hide (below_next (unhide HB0) g1.below); clear g1))
      generalize w2.alloc (.cells #[.int .i64 0, .bool false, .int .i64 0, .string ⟨#[]⟩, .slice none 0 0] 26) = w9 at *
      have bw := set5_below (.int .i64 0) (.bool false) (.int .i64 0) (.string ⟨#[]⟩) (.slice none 0 0) (Nat.le_refl w.heap.size) (unhide B9)
      generalize hW : (((((w9.setCell ⟨w.heap.size, 0, none⟩ (.int .i64 0)).setCell ⟨w.heap.size, 1, none⟩ (.bool false)).setCell ⟨w.heap.size, 2, none⟩ (.int .i64 0)).setCell ⟨w.heap.size, 3, none⟩ (.string ⟨#[]⟩)).setCell ⟨w.heap.size, 4, none⟩ (.slice none 0 0)) = W9 at *
      obtain ⟨r0, r1, r2, r3, r4, ro⟩ := set5 _ _ _ _ _ (unhide BX9).c0 (unhide BX9).c1 (unhide BX9).c2 (unhide BX9).c3 (unhide BX9).c4 hW
      clear hW
      refine bodyPost_ret (by simp [results, Try.results9, go_sem, r0, r1, r2, r3, r4]; try rfl) rfl ?_
      exact ⟨_, rfl, el0_V _, bw⟩
    · have HS := hide (rsort_ok c n hok)
      simp only [if_true]
      go_enter Try.func9, Try.ntmps9
      go_wp2_with (first | (go_at_call 32; refine (unhide HS _).mono ?_; rintro r w2 ⟨rfl, b2⟩; have BX9 := hide (((unhide HZ2).below b2).below (Below.one w2 (.cells #[.int .i64 c, .bool false, .int .i64 n, .string s, .slice none 0 0] 26))); have q0 := (unhide BX9).c0; have q1 := (unhide BX9).c1; have q2 := (unhide BX9).c2; have q3 := (unhide BX9).c3; have q4 := (unhide BX9).c4; have f0 := (unhide BX9).f0; have f1 := (unhide BX9).f1; have f2 := (unhide BX9).f2; have f3 := (unhide BX9).f3; have f4 := (unhide BX9).f4; have B9 := hide (bel_one16 (below_next (unhide HB1) b2) (.cells #[.int .i64 c, .bool false, .int .i64 n, .string s, .slice none 0 0] 26)); clear b2) | (go_at_call 31; refine (unhide HBy _).mono ?_; rintro r w1 ⟨rfl, g1⟩; have HZ2 := hide ((unhide HZ1).below g1.below); have HB1 := hide (below_next (unhide HB0) g1.below); clear g1))
      generalize w2.alloc (.cells #[.int .i64 c, .bool false, .int .i64 n, .string s, .slice none 0 0] 26) = w9 at *
      have bw := set5_below (.int .i64 c) (.bool false) (.int .i64 n) (.string s) (.slice none 0 0) (Nat.le_refl w.heap.size) (unhide B9)
      generalize hW : (((((w9.setCell ⟨w.heap.size, 0, none⟩ (.int .i64 c)).setCell ⟨w.heap.size, 1, none⟩ (.bool false)).setCell ⟨w.heap.size, 2, none⟩ (.int .i64 n)).setCell ⟨w.heap.size, 3, none⟩ (.string s)).setCell ⟨w.heap.size, 4, none⟩ (.slice none 0 0)) = W9 at *
      obtain ⟨r0, r1, r2, r3, r4, ro⟩ := set5 _ _ _ _ _ (unhide BX9).c0 (unhide BX9).c1 (unhide BX9).c2 (unhide BX9).c3 (unhide BX9).c4 hW
      clear hW
      refine bodyPost_ret (by simp [results, Try.results9, go_sem, r0, r1, r2, r3, r4]; try rfl) rfl ?_
      exact ⟨_, rfl, plain_V2 _ c n s, bw⟩
  · have e1 := toList_none ((int_none k).2 hk)
    have hX : intX c n k = 2 := by unfold intX; rw [if_neg hk]
    have hE : intE c n k = el0 := by unfold intE; rw [if_neg hk]
    rw [hX, hE]
    clear hX hE hk
    generalize strOfNums (bytI k) = s at *
    cases hok : mkOk c n
    · have HS := hide (rsort_bad c n hok)
      go_enter Try.func9, Try.ntmps9
      go_wp2_with (first | (go_at_call 32; refine (unhide HS _).mono ?_; rintro r w2 ⟨rfl, b2⟩; have BX9 := hide (((unhide HZ2).below b2).below (Below.one w2 (.cells #[.int .i64 0, .bool false, .int .i64 0, .string ⟨#[]⟩, .slice none 0 0] 26))); have q0 := (unhide BX9).c0; have q1 := (unhide BX9).c1; have q2 := (unhide BX9).c2; have q3 := (unhide BX9).c3; have q4 := (unhide BX9).c4; have f0 := (unhide BX9).f0; have f1 := (unhide BX9).f1; have f2 := (unhide BX9).f2; have f3 := (unhide BX9).f3; have f4 := (unhide BX9).f4; have B9 := hide (bel_one16 (below_next (unhide HB1) b2) (.cells #[.int .i64 0, .bool false, .int .i64 0, .string ⟨#[]⟩, .slice none 0 0] 26)); clear b2) | (go_at_call 31; refine (unhide HBy _).mono ?_; rintro r w1 ⟨rfl, g1⟩; have HZ2 := hide ((unhide HZ1).below g1.below); have HB1 := hide (below_next (unhide HB0) g1.below); clear g1))
      generalize w2.alloc (.cells #[.int .i64 0, .bool false, .int .i64 0, .string ⟨#[]⟩, .slice none 0 0] 26) = w9 at *
      have bw := set5_below (.int .i64 0) (.bool false) (.int .i64 0) (.string ⟨#[]⟩) (.slice none 0 0) (Nat.le_refl w.heap.size) (unhide B9)
      generalize hW : (((((w9.setCell ⟨w.heap.size, 0, none⟩ (.int .i64 0)).setCell ⟨w.heap.size, 1, none⟩ (.bool false)).setCell ⟨w.heap.size, 2, none⟩ (.int .i64 0)).setCell ⟨w.heap.size, 3, none⟩ (.string ⟨#[]⟩)).setCell ⟨w.heap.size, 4, none⟩ (.slice none 0 0)) = W9 at *
      obtain ⟨r0, r1, r2, r3, r4, ro⟩ := set5 _ _ _ _ _ (unhide BX9).c0 (unhide BX9).c1 (unhide BX9).c2 (unhide BX9).c3 (unhide BX9).c4 hW
      clear hW
      refine bodyPost_ret (by simp [results, Try.results9, go_sem, r0, r1, r2, r3, r4]; try rfl) rfl ?_
      exact ⟨_, rfl, el0_V _, bw⟩
    · have HS := hide (rsort_ok c n hok)
      go_enter Try.func9, Try.ntmps9
      go_wp2_with (first | (go_at_call 32; refine (unhide HS _).mono ?_; rintro r w2 ⟨rfl, b2⟩; have BX9 := hide (((unhide HZ2).below b2).below (Below.one w2 (.cells #[.int .i64 c, .bool false, .int .i64 n, .string ⟨#[]⟩, .slice none 0 0] 26))); have q0 := (unhide BX9).c0; have q1 := (unhide BX9).c1; have q2 := (unhide BX9).c2; have q3 := (unhide BX9).c3; have q4 := (unhide BX9).c4; have f0 := (unhide BX9).f0; have f1 := (unhide BX9).f1; have f2 := (unhide BX9).f2; have f3 := (unhide BX9).f3; have f4 := (unhide BX9).f4; have B9 := hide (bel_one16 (below_next (unhide HB1) b2) (.cells #[.int .i64 c, .bool false, .int .i64 n, .string ⟨#[]⟩, .slice none 0 0] 26)); clear b2) | (go_at_call 31; refine (unhide HBy _).mono ?_; rintro r w1 ⟨rfl, g1⟩; have HZ2 := hide ((unhide HZ1).below g1.below); have HB1 := hide (below_next (unhide HB0) g1.below); clear g1))
      generalize w2.alloc (.cells #[.int .i64 c, .bool false, .int .i64 n, .string ⟨#[]⟩, .slice none 0 0] 26) = w9 at *
      have bw := set5_below (.int .i64 0) (.bool false) (.int .i64 0) (.string ⟨#[]⟩) (.slice none 0 0) (Nat.le_refl w.heap.size) (unhide B9)
      generalize hW : (((((w9.setCell ⟨w.heap.size, 0, none⟩ (.int .i64 0)).setCell ⟨w.heap.size, 1, none⟩ (.bool false)).setCell ⟨w.heap.size, 2, none⟩ (.int .i64 0)).setCell ⟨w.heap.size, 3, none⟩ (.string ⟨#[]⟩)).setCell ⟨w.heap.size, 4, none⟩ (.slice none 0 0)) = W9 at *
      obtain ⟨r0, r1, r2, r3, r4, ro⟩ := set5 _ _ _ _ _ (unhide BX9).c0 (unhide BX9).c1 (unhide BX9).c2 (unhide BX9).c3 (unhide BX9).c4 hW
      clear hW
      refine bodyPost_ret (by simp [results, Try.results9, go_sem, r0, r1, r2, r3, r4]; try rfl) rfl ?_
      exact ⟨_, rfl, el0_V _, bw⟩
end Go.Proofs.Ytcboggoindhmkaa
