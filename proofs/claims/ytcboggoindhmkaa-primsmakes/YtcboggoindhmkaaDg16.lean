/- The program's Int, Bool, Text, Group of layer 16 (made by gen_make.py). -/
import Derived.Test.YtcboggoindhmkaaDf16
namespace Go.Proofs.Ytcboggoindhmkaa
open Go.RowKit

/-- What Int makes. -/
def intE (c n k : Int) : El := if -2147483648 ≤ k ∧ k ≤ 2147483647 then mkE c false n (strOfNums (bytI k)) [] else el0
def intX (c n k : Int) : Int := if -2147483648 ≤ k ∧ k ≤ 2147483647 then mkX c n else 2
/-- The contents of a truth. -/
def boolS (b : Bool) : ByteArray := if b then ⟨#[255]⟩ else ⟨#[0]⟩
theorem few_nil : fewN.L [] := by simp only [fewN.L]
set_option maxHeartbeats 1600000 in
theorem int_any (c n k : Int) (w : World) : Calls Try.prog 8 #[.int .i64 c, .int .i64 n, .int .i64 k] w fun r w' => ∃ v', r = .returned (.tuple #[v', .int .i64 (intX c n k)]) ∧ ElP (In w.heap.size w') w' (intE c n k) v' ∧ Below w.heap.size w w' := by
  unfold intX intE
  by_cases hk : -2147483648 ≤ k ∧ k ≤ 2147483647
  · rw [if_pos hk, if_pos hk]
    have k0 : ¬ k < -2147483648 := by omega
    have k1 : ¬ (2147483647 : Int) < k := by omega
    have HWH := hide (whole_any k hk.1 hk.2)
    have HM := hide (maker_any c n (w.alloc Z5))
    rw [show (w.alloc Z5).heap.size = w.heap.size + 1 by simp] at HM
    have HZ1 := hide ((Bx.new w (.int .i64 0) (.bool false) (.int .i64 0) (.string ⟨#[]⟩) (.slice none 0 0) 26).below ((Gr.one (w.alloc Z5) (.cells #[.int .i64 c] 3)).alloc (.cells #[.int .i64 n] 3)).below)
    have HBM : Hid (Below w.heap.size w (mkW c n (w.alloc Z5))) := (((Gr.one w Z5).alloc _).alloc _).below
    have HS0 : Hid (w.heap.size < (mkW c n (w.alloc Z5)).heap.size) := by show _ < _; simp; omega
    have HMK := hide (fun w1 hb => mk_on c n false (strOfNums (bytI k)) (.slice none 0 0) ([]) (w.alloc Z5) w1 hb (Nat.zero_le _) few_nil (Nat.zero_le _) (⟨none, 0, rfl, Nat.zero_le _, .inl rfl⟩))
    rw [show (w.alloc Z5).heap.size = w.heap.size + 1 by simp] at HMK
    generalize mkE c false n (strOfNums (bytI k)) ([]) = E at *
    generalize mkX c n = X at *
    clear hk
    go_enter Try.func8, Try.ntmps8
    go_wp2_with (first | (go_at_call 39; refine (unhide HMK _ b2).mono ?_; rintro r w3 ⟨v3, rfl, p3, b3⟩; obtain ⟨ad3, cap3, rfl⟩ := p3.shape; have bx := hide ((unhide HZ1).below (below_next b2 b3)); have q0 := (unhide bx).c0; have q1 := (unhide bx).c1; have q2 := (unhide bx).c2; have q3 := (unhide bx).c3; have q4 := (unhide bx).c4; have f0 := (unhide bx).f0; have f1 := (unhide bx).f1; have f2 := (unhide bx).f2; have f3 := (unhide bx).f3; have f4 := (unhide bx).f4; have P3 := hide p3; have B3 := hide (below_next (below_next (unhide HBM) b2) b3); have HSZ := hide (Nat.lt_of_lt_of_le (unhide HS0) b2.size); clear p3 b3) | (go_at_call 30; refine (unhide HWH _).mono ?_; rintro r w2 ⟨rfl, b2⟩) | (go_at_call 29; refine (unhide HM).mono ?_; rintro r w1 ⟨rfl, rfl⟩))
    have bw := set5_below (.int .i64 E.cls) (.bool E.made) (.int .i64 E.num) (.string E.con) (.slice ad3 E.els.length cap3) (Nat.le_refl w.heap.size) (unhide B3)
    have GZ := (unhide HSZ)
    generalize hW : (((((w3.setCell ⟨w.heap.size, 0, none⟩ (.int .i64 E.cls)).setCell ⟨w.heap.size, 1, none⟩ (.bool E.made)).setCell ⟨w.heap.size, 2, none⟩ (.int .i64 E.num)).setCell ⟨w.heap.size, 3, none⟩ (.string E.con)).setCell ⟨w.heap.size, 4, none⟩ (.slice ad3 E.els.length cap3)) = W9 at *
    have sz9 : W9.heap.size = w3.heap.size := by rw [← hW]; simp
    obtain ⟨r0, r1, r2, r3, r4, ro⟩ := set5 _ _ _ _ _ q0 q1 q2 q3 q4 hW
    clear hW
    refine bodyPost_ret (by simp [results, Try.results8, go_sem, r0, r1, r2, r3, r4]; try rfl) rfl ?_
    refine ⟨_, rfl, ElP.kept (fun g hg => ?_) (fun g off v hg hcv => ?_) E _ (unhide P3), bw⟩
    · exact ⟨by have := hg.1; omega, by have := hg.2; omega⟩
    · rw [ro _ (by show g ≠ w.heap.size; have := hg.1; omega)]
      exact hcv
  · rw [if_neg hk, if_neg hk]
    have hz : k < -2147483648 ∨ (2147483647 : Int) < k := by omega
    clear hk
    rcases hz with h | h
    · go_enter Try.func8, Try.ntmps8
      go_wp2
      go_returns
      exact ⟨_, rfl, el0_P _ _, Below.one w _⟩
    · have k0 : ¬ k < -2147483648 := by omega
      go_enter Try.func8, Try.ntmps8
      go_wp2
      go_returns
      exact ⟨_, rfl, el0_P _ _, Below.one w _⟩
set_option maxHeartbeats 1600000 in
theorem bool_any (c n : Int) (b : Bool) (w : World) : Calls Try.prog 10 #[.int .i64 c, .int .i64 n, .bool b] w fun r w' => ∃ v', r = .returned (.tuple #[v', .int .i64 (mkX c n)]) ∧ ElP (In w.heap.size w') w' (mkE c false n (boolS b) []) v' ∧ Below w.heap.size w w' := by
  unfold boolS
  cases b
  · rw [if_neg (by simp)]
    have HM := hide (maker_any c n (w.alloc Z5))
    rw [show (w.alloc Z5).heap.size = w.heap.size + 1 by simp] at HM
    have HZ1 := hide ((Bx.new w (.int .i64 0) (.bool false) (.int .i64 0) (.string ⟨#[]⟩) (.slice none 0 0) 26).below ((Gr.one (w.alloc Z5) (.cells #[.int .i64 c] 3)).alloc (.cells #[.int .i64 n] 3)).below)
    have HBM : Hid (Below w.heap.size w (mkW c n (w.alloc Z5))) := (((Gr.one w Z5).alloc _).alloc _).below
    have HS0 : Hid (w.heap.size < (mkW c n (w.alloc Z5)).heap.size) := by show _ < _; simp; omega
    have HMK := hide (fun w1 hb => mk_on c n false (⟨#[0]⟩) (.slice none 0 0) ([]) (w.alloc Z5) w1 hb (Nat.zero_le _) few_nil (Nat.zero_le _) (⟨none, 0, rfl, Nat.zero_le _, .inl rfl⟩))
    rw [show (w.alloc Z5).heap.size = w.heap.size + 1 by simp] at HMK
    generalize mkE c false n (⟨#[0]⟩) ([]) = E at *
    generalize mkX c n = X at *
    go_enter Try.func10, Try.ntmps10
    go_wp2_with (first | (go_at_call 39; refine (unhide HMK _ (Below.refl _ _)).mono ?_; rintro r w3 ⟨v3, rfl, p3, b3⟩; obtain ⟨ad3, cap3, rfl⟩ := p3.shape; have bx := hide ((unhide HZ1).below (below_next (Below.refl _ _) b3)); have q0 := (unhide bx).c0; have q1 := (unhide bx).c1; have q2 := (unhide bx).c2; have q3 := (unhide bx).c3; have q4 := (unhide bx).c4; have f0 := (unhide bx).f0; have f1 := (unhide bx).f1; have f2 := (unhide bx).f2; have f3 := (unhide bx).f3; have f4 := (unhide bx).f4; have P3 := hide p3; have B3 := hide (below_next (below_next (unhide HBM) (Below.refl _ _)) b3); have HSZ := hide (Nat.lt_of_lt_of_le (unhide HS0) (Nat.le_refl _)); clear p3 b3) | (go_at_call 29; refine (unhide HM).mono ?_; rintro r w1 ⟨rfl, rfl⟩))
    have bw := set5_below (.int .i64 E.cls) (.bool E.made) (.int .i64 E.num) (.string E.con) (.slice ad3 E.els.length cap3) (Nat.le_refl w.heap.size) (unhide B3)
    have GZ := (unhide HSZ)
    generalize hW : (((((w3.setCell ⟨w.heap.size, 0, none⟩ (.int .i64 E.cls)).setCell ⟨w.heap.size, 1, none⟩ (.bool E.made)).setCell ⟨w.heap.size, 2, none⟩ (.int .i64 E.num)).setCell ⟨w.heap.size, 3, none⟩ (.string E.con)).setCell ⟨w.heap.size, 4, none⟩ (.slice ad3 E.els.length cap3)) = W9 at *
    have sz9 : W9.heap.size = w3.heap.size := by rw [← hW]; simp
    obtain ⟨r0, r1, r2, r3, r4, ro⟩ := set5 _ _ _ _ _ q0 q1 q2 q3 q4 hW
    clear hW
    refine bodyPost_ret (by simp [results, Try.results10, go_sem, r0, r1, r2, r3, r4]; try rfl) rfl ?_
    refine ⟨_, rfl, ElP.kept (fun g hg => ?_) (fun g off v hg hcv => ?_) E _ (unhide P3), bw⟩
    · exact ⟨by have := hg.1; omega, by have := hg.2; omega⟩
    · rw [ro _ (by show g ≠ w.heap.size; have := hg.1; omega)]
      exact hcv
  · rw [if_pos rfl]
    have HM := hide (maker_any c n (w.alloc Z5))
    rw [show (w.alloc Z5).heap.size = w.heap.size + 1 by simp] at HM
    have HZ1 := hide ((Bx.new w (.int .i64 0) (.bool false) (.int .i64 0) (.string ⟨#[]⟩) (.slice none 0 0) 26).below ((Gr.one (w.alloc Z5) (.cells #[.int .i64 c] 3)).alloc (.cells #[.int .i64 n] 3)).below)
    have HBM : Hid (Below w.heap.size w (mkW c n (w.alloc Z5))) := (((Gr.one w Z5).alloc _).alloc _).below
    have HS0 : Hid (w.heap.size < (mkW c n (w.alloc Z5)).heap.size) := by show _ < _; simp; omega
    have HMK := hide (fun w1 hb => mk_on c n false (⟨#[255]⟩) (.slice none 0 0) ([]) (w.alloc Z5) w1 hb (Nat.zero_le _) few_nil (Nat.zero_le _) (⟨none, 0, rfl, Nat.zero_le _, .inl rfl⟩))
    rw [show (w.alloc Z5).heap.size = w.heap.size + 1 by simp] at HMK
    generalize mkE c false n (⟨#[255]⟩) ([]) = E at *
    generalize mkX c n = X at *
    go_enter Try.func10, Try.ntmps10
    go_wp2_with (first | (go_at_call 39; refine (unhide HMK _ (Below.refl _ _)).mono ?_; rintro r w3 ⟨v3, rfl, p3, b3⟩; obtain ⟨ad3, cap3, rfl⟩ := p3.shape; have bx := hide ((unhide HZ1).below (below_next (Below.refl _ _) b3)); have q0 := (unhide bx).c0; have q1 := (unhide bx).c1; have q2 := (unhide bx).c2; have q3 := (unhide bx).c3; have q4 := (unhide bx).c4; have f0 := (unhide bx).f0; have f1 := (unhide bx).f1; have f2 := (unhide bx).f2; have f3 := (unhide bx).f3; have f4 := (unhide bx).f4; have P3 := hide p3; have B3 := hide (below_next (below_next (unhide HBM) (Below.refl _ _)) b3); have HSZ := hide (Nat.lt_of_lt_of_le (unhide HS0) (Nat.le_refl _)); clear p3 b3) | (go_at_call 29; refine (unhide HM).mono ?_; rintro r w1 ⟨rfl, rfl⟩))
    have bw := set5_below (.int .i64 E.cls) (.bool E.made) (.int .i64 E.num) (.string E.con) (.slice ad3 E.els.length cap3) (Nat.le_refl w.heap.size) (unhide B3)
    have GZ := (unhide HSZ)
    generalize hW : (((((w3.setCell ⟨w.heap.size, 0, none⟩ (.int .i64 E.cls)).setCell ⟨w.heap.size, 1, none⟩ (.bool E.made)).setCell ⟨w.heap.size, 2, none⟩ (.int .i64 E.num)).setCell ⟨w.heap.size, 3, none⟩ (.string E.con)).setCell ⟨w.heap.size, 4, none⟩ (.slice ad3 E.els.length cap3)) = W9 at *
    have sz9 : W9.heap.size = w3.heap.size := by rw [← hW]; simp
    obtain ⟨r0, r1, r2, r3, r4, ro⟩ := set5 _ _ _ _ _ q0 q1 q2 q3 q4 hW
    clear hW
    refine bodyPost_ret (by simp [results, Try.results10, go_sem, r0, r1, r2, r3, r4]; try rfl) rfl ?_
    refine ⟨_, rfl, ElP.kept (fun g hg => ?_) (fun g off v hg hcv => ?_) E _ (unhide P3), bw⟩
    · exact ⟨by have := hg.1; omega, by have := hg.2; omega⟩
    · rw [ro _ (by show g ≠ w.heap.size; have := hg.1; omega)]
      exact hcv
set_option maxHeartbeats 1600000 in
theorem text_any (c n : Int) (s : ByteArray) (w : World) : Calls Try.prog 12 #[.int .i64 c, .int .i64 n, .string s] w fun r w' => ∃ v', r = .returned (.tuple #[v', .int .i64 (mkX c n)]) ∧ ElP (In w.heap.size w') w' (mkE c false n s []) v' ∧ Below w.heap.size w w' := by
  have HM := hide (maker_any c n (w.alloc Z5))
  rw [show (w.alloc Z5).heap.size = w.heap.size + 1 by simp] at HM
  have HZ1 := hide ((Bx.new w (.int .i64 0) (.bool false) (.int .i64 0) (.string ⟨#[]⟩) (.slice none 0 0) 26).below ((Gr.one (w.alloc Z5) (.cells #[.int .i64 c] 3)).alloc (.cells #[.int .i64 n] 3)).below)
  have HBM : Hid (Below w.heap.size w (mkW c n (w.alloc Z5))) := (((Gr.one w Z5).alloc _).alloc _).below
  have HS0 : Hid (w.heap.size < (mkW c n (w.alloc Z5)).heap.size) := by show _ < _; simp; omega
  have HMK := hide (fun w1 hb => mk_on c n false (s) (.slice none 0 0) ([]) (w.alloc Z5) w1 hb (Nat.zero_le _) few_nil (Nat.zero_le _) (⟨none, 0, rfl, Nat.zero_le _, .inl rfl⟩))
  rw [show (w.alloc Z5).heap.size = w.heap.size + 1 by simp] at HMK
  generalize mkE c false n (s) ([]) = E at *
  generalize mkX c n = X at *
  go_enter Try.func12, Try.ntmps12
  go_wp2_with (first | (go_at_call 39; refine (unhide HMK _ (Below.refl _ _)).mono ?_; rintro r w3 ⟨v3, rfl, p3, b3⟩; obtain ⟨ad3, cap3, rfl⟩ := p3.shape; have bx := hide ((unhide HZ1).below (below_next (Below.refl _ _) b3)); have q0 := (unhide bx).c0; have q1 := (unhide bx).c1; have q2 := (unhide bx).c2; have q3 := (unhide bx).c3; have q4 := (unhide bx).c4; have f0 := (unhide bx).f0; have f1 := (unhide bx).f1; have f2 := (unhide bx).f2; have f3 := (unhide bx).f3; have f4 := (unhide bx).f4; have P3 := hide p3; have B3 := hide (below_next (below_next (unhide HBM) (Below.refl _ _)) b3); have HSZ := hide (Nat.lt_of_lt_of_le (unhide HS0) (Nat.le_refl _)); clear p3 b3) | (go_at_call 29; refine (unhide HM).mono ?_; rintro r w1 ⟨rfl, rfl⟩))
  have bw := set5_below (.int .i64 E.cls) (.bool E.made) (.int .i64 E.num) (.string E.con) (.slice ad3 E.els.length cap3) (Nat.le_refl w.heap.size) (unhide B3)
  have GZ := (unhide HSZ)
  generalize hW : (((((w3.setCell ⟨w.heap.size, 0, none⟩ (.int .i64 E.cls)).setCell ⟨w.heap.size, 1, none⟩ (.bool E.made)).setCell ⟨w.heap.size, 2, none⟩ (.int .i64 E.num)).setCell ⟨w.heap.size, 3, none⟩ (.string E.con)).setCell ⟨w.heap.size, 4, none⟩ (.slice ad3 E.els.length cap3)) = W9 at *
  have sz9 : W9.heap.size = w3.heap.size := by rw [← hW]; simp
  obtain ⟨r0, r1, r2, r3, r4, ro⟩ := set5 _ _ _ _ _ q0 q1 q2 q3 q4 hW
  clear hW
  refine bodyPost_ret (by simp [results, Try.results12, go_sem, r0, r1, r2, r3, r4]; try rfl) rfl ?_
  refine ⟨_, rfl, ElP.kept (fun g hg => ?_) (fun g off v hg hcv => ?_) E _ (unhide P3), bw⟩
  · exact ⟨by have := hg.1; omega, by have := hg.2; omega⟩
  · rw [ro _ (by show g ≠ w.heap.size; have := hg.1; omega)]
    exact hcv
set_option maxHeartbeats 1600000 in
theorem group_any (c n : Int) (l : List El) (v : Value) (w : World) (hl : l.length ≤ 1000) (hf : fewN.L l) (hh : hgt.L l ≤ 65536) (hV : ElsV w v l) : Calls Try.prog 17 #[.int .i64 c, .int .i64 n, v] w fun r w' => ∃ v', r = .returned (.tuple #[v', .int .i64 (mkX c n)]) ∧ ElP (In w.heap.size w') w' (mkE c true n ⟨#[]⟩ l) v' ∧ Below w.heap.size w w' := by
  have HM := hide (maker_any c n (w.alloc Z5))
  rw [show (w.alloc Z5).heap.size = w.heap.size + 1 by simp] at HM
  have HZ1 := hide ((Bx.new w (.int .i64 0) (.bool false) (.int .i64 0) (.string ⟨#[]⟩) (.slice none 0 0) 26).below ((Gr.one (w.alloc Z5) (.cells #[.int .i64 c] 3)).alloc (.cells #[.int .i64 n] 3)).below)
  have HBM : Hid (Below w.heap.size w (mkW c n (w.alloc Z5))) := (((Gr.one w Z5).alloc _).alloc _).below
  have HS0 : Hid (w.heap.size < (mkW c n (w.alloc Z5)).heap.size) := by show _ < _; simp; omega
  have HMK := hide (fun w1 hb => mk_on c n true (⟨#[]⟩) (v) (l) (w.alloc Z5) w1 hb hl hf hh (hV.below (Gr.one w Z5).below))
  rw [show (w.alloc Z5).heap.size = w.heap.size + 1 by simp] at HMK
  generalize mkE c true n (⟨#[]⟩) (l) = E at *
  generalize mkX c n = X at *
  obtain ⟨ad, cap, rfl, _⟩ := hV
  go_enter Try.func17, Try.ntmps17
  go_wp2_with (first | (go_at_call 39; refine (unhide HMK _ (Below.refl _ _)).mono ?_; rintro r w3 ⟨v3, rfl, p3, b3⟩; obtain ⟨ad3, cap3, rfl⟩ := p3.shape; have bx := hide ((unhide HZ1).below (below_next (Below.refl _ _) b3)); have q0 := (unhide bx).c0; have q1 := (unhide bx).c1; have q2 := (unhide bx).c2; have q3 := (unhide bx).c3; have q4 := (unhide bx).c4; have f0 := (unhide bx).f0; have f1 := (unhide bx).f1; have f2 := (unhide bx).f2; have f3 := (unhide bx).f3; have f4 := (unhide bx).f4; have P3 := hide p3; have B3 := hide (below_next (below_next (unhide HBM) (Below.refl _ _)) b3); have HSZ := hide (Nat.lt_of_lt_of_le (unhide HS0) (Nat.le_refl _)); clear p3 b3) | (go_at_call 29; refine (unhide HM).mono ?_; rintro r w1 ⟨rfl, rfl⟩))
  have bw := set5_below (.int .i64 E.cls) (.bool E.made) (.int .i64 E.num) (.string E.con) (.slice ad3 E.els.length cap3) (Nat.le_refl w.heap.size) (unhide B3)
  have GZ := (unhide HSZ)
  generalize hW : (((((w3.setCell ⟨w.heap.size, 0, none⟩ (.int .i64 E.cls)).setCell ⟨w.heap.size, 1, none⟩ (.bool E.made)).setCell ⟨w.heap.size, 2, none⟩ (.int .i64 E.num)).setCell ⟨w.heap.size, 3, none⟩ (.string E.con)).setCell ⟨w.heap.size, 4, none⟩ (.slice ad3 E.els.length cap3)) = W9 at *
  have sz9 : W9.heap.size = w3.heap.size := by rw [← hW]; simp
  obtain ⟨r0, r1, r2, r3, r4, ro⟩ := set5 _ _ _ _ _ q0 q1 q2 q3 q4 hW
  clear hW
  refine bodyPost_ret (by simp [results, Try.results17, go_sem, r0, r1, r2, r3, r4]; try rfl) rfl ?_
  refine ⟨_, rfl, ElP.kept (fun g hg => ?_) (fun g off v hg hcv => ?_) E _ (unhide P3), bw⟩
  · exact ⟨by have := hg.1; omega, by have := hg.2; omega⟩
  · rw [ro _ (by show g ≠ w.heap.size; have := hg.1; omega)]
    exact hcv
end Go.Proofs.Ytcboggoindhmkaa
