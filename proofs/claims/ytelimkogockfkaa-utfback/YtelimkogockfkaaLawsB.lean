/- The laws UtfBack and UtfForms: their walks. -/
import Derived.Test.YtelimkogockfkaaLawsA
namespace Go.Proofs.Ytelimkogockfkaa
open Go.RowKit

theorem ru_of_run (s : ByteArray) (h : runN s.size (nums s) = s.size) : ruP s = runP s.size (nums s) ∧ ruA s = s.size ∧ ruE s = 0 := by
  have hok : ruOk s = true := by unfold ruOk; rw [decide_eq_true_iff]; exact h
  refine ⟨?_, ?_, ?_⟩
  · unfold ruP; rw [hok]; rfl
  · unfold ruA; rw [h]
  · unfold ruE; rw [hok]; rfl

theorem ru_enc (l : List Int) (h : okL l = true) : ruP (strOfNums (encL l)) = l ∧ ruA (strOfNums (encL l)) = (encL l).length ∧ ruE (strOfNums (encL l)) = 0 := by
  have hn : nums (strOfNums (encL l)) = encL l := nums_strOfNums _ (encL_byte l h)
  have hz := strOfNums_size (encL l)
  obtain ⟨e1, e2⟩ := run_enc l h (strOfNums (encL l)).size (by omega)
  obtain ⟨g1, g2, g3⟩ := ru_of_run (strOfNums (encL l)) (by rw [hn, e2, hz])
  rw [hn, e1] at g1
  rw [hz] at g2
  exact ⟨g1, g2, g3⟩

theorem enc_of_ok (l : List Int) (h : okL l = true) : encS l = strOfNums (encL l) ∧ encE l = 0 := by
  unfold encS encE; rw [h]; exact ⟨rfl, rfl⟩


set_option maxRecDepth 100000 in
set_option maxHeartbeats 800000 in
theorem back_law_some (b off cap : Nat) (l : List Int) (w : World) (hl : l.length ≤ 20000)
    (hcell : ∀ j, j < l.length → w.cell? ⟨b, off + j, none⟩ = some (.int .i32 (l.getD j 0))) :
    Calls Try.prog 7 #[.slice (some ⟨b, off, none⟩) l.length cap] w fun e w' => e = .returned (.bool true) ∧ Below w.heap.size w w' := by
  have hr : Row w (.slice (some ⟨b, off, none⟩) l.length cap) l := ⟨_, _, rfl, fun i hi => ⟨b, off, rfl, hcell⟩⟩
  have HC := hide hcell
  have g : ¬ (20000 : Int) < (l.length : Int) := by omega
  clear hcell
  go_enter Try.func7, Try.ntmps7
  go_wp2
  go_loop [3, 4] (fun n i => ∃ k : Nat, k ≤ l.length ∧ i = .int .i64 k ∧ n = .int .i64 ((encL (l.take k)).length : Int) ∧ okL (l.take k) = true) (fun _ i => l.length - (intOf i).toNat)
  case atStart => exact ⟨0, Nat.zero_le _, rfl, rfl, rfl⟩
  case round =>
    obtain ⟨k, hk, rfl, rfl, hok⟩ := hrel
    have HOK := hide hok
    clear hok
    by_cases hlt : k < l.length
    · have hzl : (k : Int) < (l.length : Int) := by omega
      have hc := unhide HC k hlt
      have hsn := hide (take_snoc l k hlt)
      have hs1 := encL_bound (l.take k)
      have hs3 : (l.take k).length ≤ k := List.length_take_le _ _
      generalize l.getD k 0 = x at *
      cases hx : isPt x
      · have HX := hide hx
        clear hx
        go_wp2_with (first
          | (go_at_call 11; refine (point_no x _ (unhide HX)).mono ?_; rintro e w3 ⟨rfl, hq⟩; obtain rfl := hq.symm; clear hq)
          | (go_at_call 15; refine (awake_any _).mono ?_; rintro e w7 ⟨rfl, hb7⟩))
        go_ret
        exact ⟨rfl, hb7⟩
      · have HX := hide hx
        have hel := enc1_len hx
        have hs2 := enc1_bound x
        have H13 : Hid (∀ w, Calls Try.prog 13 #[.int .i32 x] w fun e w' => e = .returned (.int .i64 ((enc1 x).length : Int)) ∧ w = w') := fun w => by
          rw [hel]; exact (length_any x w).mono fun e w' ⟨h1, h2⟩ => ⟨h1, h2.symm⟩
        clear hx hel
        go_wp2_with (first
          | (go_at_call 11; refine (point_yes x _ (unhide HX)).mono ?_; rintro e w3 ⟨rfl, hq⟩; obtain rfl := hq.symm; clear hq)
          | (go_at_call 13; refine (unhide H13 _).mono ?_; rintro e w3 ⟨rfl, rfl⟩))
        go_round
        case rel =>
          have hn : (l.take k ++ [x]) = l.take (k + 1) := (unhide hsn).symm
          refine ⟨k + 1, by omega, by go_num, ?_, ?_⟩
          · rw [← hn, encL_snoc, List.length_append]; go_num
          · rw [← hn, okL_snoc, unhide HOK, unhide HX]; rfl
        case measure => simp [intOf]; omega
    · have hzl : ¬ (k : Int) < (l.length : Int) := by omega
      have hkl : k = l.length := by omega
      subst hkl
      have hok := unhide HOK
      rw [List.take_length] at hok
      obtain ⟨e1, e2⟩ := enc_of_ok l hok
      obtain ⟨f1, f2, f3⟩ := ru_enc l hok
      have hz := strOfNums_size (encL l)
      have hbd := encL_bound l
      rw [List.take_length] at *
      have H9 : Hid (∀ w, Row w (.slice (some ⟨b, off, none⟩) l.length cap) l → Calls Try.prog 9 #[.slice (some ⟨b, off, none⟩) l.length cap] w fun e w' => e = .returned (.tuple #[.string (strOfNums (encL l)), .int .i64 0]) ∧ Below w.heap.size w w') := fun w h => by
        have := encode_any _ l w (by omega) h
        rwa [e1, e2] at this
      have H18 : Hid (∀ w, Calls Try.prog 18 #[.string (strOfNums (encL l))] w fun e w' => ∃ v, e = .returned (.tuple #[v, .int .i64 ((encL l).length : Int), .int .i64 0]) ∧ Row w' v l ∧ Below w.heap.size w w') := fun w => by
        have := runes_any (strOfNums (encL l)) w (by omega)
        rw [f1, f2, f3] at this
        exact this.mono fun e w' ⟨v, h1, h2, h3⟩ => ⟨v, h1, Row.of_own h2, h3⟩
      have hl8 : l.length ≤ 80000 := by omega
      have hzi : ((strOfNums (encL l)).size : Int) = ((encL l).length : Int) := by omega
      clear e1 e2 f1 f2 f3 hok hz hbd
      go_wp2_with (first
        | (go_at_call 9; refine (unhide H9 _ hr).mono ?_; rintro e w1 ⟨rfl, hb1⟩; have hr1 := hr.below hb1)
        | (go_at_call 18; refine (unhide H18 _).mono ?_; rintro e w2 ⟨v2, rfl, hr2, hb2⟩; have hr3 := hr1.below hb2)
        | (go_at_call 20; refine (same_any _ v2 l _ hl8 hr3 hr2).mono ?_; rintro e w3 ⟨rfl, hb3⟩)
        | (go_at_call 15; refine (awake_any _).mono ?_; rintro e w7 ⟨rfl, hb7⟩))
      go_ret
      have k2 := hb1.trans (hb2.mono hb1.size)
      have k3 := k2.trans (hb3.mono k2.size)
      exact ⟨rfl, k3.trans (hb7.mono k3.size)⟩

theorem ru_empty : ruP (strOfNums []) = [] ∧ ruA (strOfNums []) = 0 ∧ ruE (strOfNums []) = 0 := by
  have := ru_enc [] rfl
  simpa [encL] using this

set_option maxRecDepth 100000 in
set_option maxHeartbeats 800000 in
theorem back_law_empty (a : Option Addr) (cap : Nat) (w : World) :
    Calls Try.prog 7 #[.slice a 0 cap] w fun e w' => e = .returned (.bool true) ∧ Below w.heap.size w w' := by
  have hr : ∀ w, Row w (.slice a 0 cap) [] := fun w => ⟨a, cap, rfl, fun i hi => by simp at hi⟩
  have HR := hide hr
  obtain ⟨f1, f2, f3⟩ := ru_empty
  have H18 : Hid (∀ w, Calls Try.prog 18 #[.string (strOfNums [])] w fun e w' => ∃ v, e = .returned (.tuple #[v, .int .i64 0, .int .i64 0]) ∧ Row w' v [] ∧ Below w.heap.size w w') := fun w => by
    have := runes_any (strOfNums []) w (by rw [strOfNums_size]; simp)
    rw [f1, f2, f3] at this
    exact this.mono fun e w' ⟨v, h1, h2, h3⟩ => ⟨v, h1, Row.of_own h2, h3⟩
  have hzi : (strOfNums []).size = 0 := strOfNums_size []
  clear hr f1 f2 f3
  go_enter Try.func7, Try.ntmps7
  go_wp2
  refine wp_loop_rounds 1 ?_
  rw [rounds_succ]
  go_wp2_with (first
    | (go_at_call 9; refine (encode_empty a cap _).mono ?_; rintro e w1 ⟨rfl, hb1⟩)
    | (go_at_call 18; refine (unhide H18 _).mono ?_; rintro e w2 ⟨v2, rfl, hr2, hb2⟩)
    | (go_at_call 20; refine (same_any _ v2 [] _ (by simp) (unhide HR _) hr2).mono ?_; rintro e w3 ⟨rfl, hb3⟩)
    | (go_at_call 15; refine (awake_any _).mono ?_; rintro e w7 ⟨rfl, hb7⟩))
  go_ret
  have k2 := hb1.trans (hb2.mono hb1.size)
  have k3 := k2.trans (hb3.mono k2.size)
  exact ⟨rfl, k3.trans (hb7.mono k3.size)⟩

set_option maxHeartbeats 400000 in
theorem back_law (a : Option Addr) (cap : Nat) (l : List Int) (w : World) (hr : Row w (.slice a l.length cap) l) :
    Calls Try.prog 7 #[.slice a l.length cap] w fun e w' => e = .returned (.bool true) ∧ Below w.heap.size w w' := by
  by_cases hl : l.length ≤ 20000
  · by_cases h0 : l.length = 0
    · rw [h0]; exact back_law_empty a cap w
    · obtain ⟨a', cap', he, hc⟩ := hr
      obtain ⟨b, off, rfl, hcc⟩ := hc 0 (by omega)
      simp only [Value.slice.injEq] at he
      obtain ⟨rfl, _, rfl⟩ := he
      exact back_law_some b off cap l w hl hcc
  · have g : (20000 : Int) < (l.length : Int) := by omega
    go_enter Try.func7, Try.ntmps7
    go_wp2_with (go_at_call 15; refine (awake_any _).mono ?_; rintro e w7 ⟨rfl, hb7⟩)
    go_ret
    exact ⟨rfl, hb7⟩

/-- Where nothing is read on, none stands. -/
theorem run_stop (f : Nat) : ∀ L : List Int, L.length ≤ f → decN (L.drop (runN f L)) = 0 := by
  induction f with
  | zero => intro L h; obtain rfl : L = [] := List.eq_nil_of_length_eq_zero (by omega); simp [decN_nil]
  | succ f ih =>
    intro L h
    by_cases h0 : decN L = 0
    · simp [runN, h0]
    · simp only [runN, if_neg h0]
      rw [← List.drop_drop]
      refine ih _ ?_
      rcases decN_cases L with ⟨h', _⟩ | ⟨n, n1, _, _, hn⟩
      · exact absurd h' h0
      · rw [hn]; simp; omega
theorem runN_le (f : Nat) : ∀ L : List Int, runN f L ≤ L.length := by
  induction f with
  | zero => intro L; simp [runN]
  | succ f ih =>
    intro L
    simp only [runN]
    split
    · omega
    · rename_i h0
      have := ih (L.drop (decN L).toNat)
      rcases decN_cases L with ⟨h', _⟩ | ⟨n, n1, _, nl, hn⟩
      · exact absurd h' h0
      · rw [hn] at this ⊢; simp at this ⊢; omega

theorem forms_ok (s : ByteArray) (h : ruOk s = true) : encS (ruP s) = s ∧ encE (ruP s) = 0 ∧ ruA s = s.size ∧ ruE s = 0 := by
  unfold ruOk at h
  rw [decide_eq_true_iff] at h
  obtain ⟨g1, g2, g3⟩ := ru_of_run s h
  obtain ⟨p1, p2⟩ := runP_back s.size (nums s) (nums_bound s)
  rw [g1]
  obtain ⟨e1, e2⟩ := enc_of_ok _ p1
  refine ⟨?_, e2, g2, g3⟩
  rw [e1, p2, h, ← nums_length, List.take_length, strOfNums_nums]

theorem forms_bad (s : ByteArray) (h : ruOk s = false) : ∃ n : Nat, n < s.size ∧ ruA s = n ∧ ruP s = [] ∧ ruE s = 10 ∧ decN (from_ s n) = 0 ∧ ruA (s.extract 0 n) = n ∧ ruE (s.extract 0 n) = 0 := by
  have hn := runN_le s.size (nums s)
  rw [nums_length] at hn
  have hne : runN s.size (nums s) ≠ s.size := by unfold ruOk at h; rwa [decide_eq_false_iff_not] at h
  refine ⟨runN s.size (nums s), by omega, rfl, by unfold ruP; rw [h]; rfl, by unfold ruE; rw [h]; rfl, ?_, ?_⟩
  · have := run_stop s.size (nums s) (by rw [nums_length]; omega)
    unfold from_
    rwa [Int.toNat_natCast]
  · obtain ⟨p1, p2⟩ := runP_back s.size (nums s) (nums_bound s)
    have hx : s.extract 0 (runN s.size (nums s)) = strOfNums (encL (runP s.size (nums s))) := by
      rw [← strOfNums_nums (s.extract 0 (runN s.size (nums s))), nums_extract, p2]
      simp
    obtain ⟨_, q2, q3⟩ := ru_enc _ p1
    rw [hx, q2, q3, p2]
    refine ⟨?_, rfl⟩
    simp [nums_length]
    omega

set_option maxRecDepth 100000 in
set_option maxHeartbeats 800000 in
theorem forms_law_bad (s : ByteArray) (w : World) (hl : s.size ≤ 50000) (hok : ruOk s = false) :
    Calls Try.prog 8 #[.string s] w fun e w' => e = .returned (.bool true) ∧ Below w.heap.size w w' := by
  have g : ¬ (50000 : Int) < (s.size : Int) := by omega
  have hl8 : s.size ≤ 80000 := by omega
  obtain ⟨n, n1, n2, n3, n4, n5, n6, n7⟩ := forms_bad s hok
  have hx : (s.extract 0 n).size ≤ 80000 := by
    have h := nums_length (s.extract 0 n)
    rw [nums_extract, List.length_take, List.length_drop, nums_length] at h
    omega
  have H18 : Hid (∀ w, Calls Try.prog 18 #[.string s] w fun e w' => ∃ a cap, e = .returned (.tuple #[.slice a 0 cap, .int .i64 (n : Int), .int .i64 10]) ∧ Below w.heap.size w w') := fun w => by
    have := runes_any s w hl8
    rw [n2, n3, n4] at this
    refine this.mono fun e w' ⟨v, h1, h2, h3⟩ => ?_
    obtain ⟨a, cap, rfl, _⟩ := Row.of_own h2
    exact ⟨a, cap, h1, h3⟩
  have H18b : Hid (∀ w, Calls Try.prog 18 #[.string (s.extract 0 n)] w fun e w' => ∃ v, e = .returned (.tuple #[v, .int .i64 (n : Int), .int .i64 0]) ∧ Below w.heap.size w w') := fun w => by
    have := runes_any (s.extract 0 n) w hx
    rw [n6, n7] at this
    exact this.mono fun e w' ⟨v, h1, _, h3⟩ => ⟨v, h1, h3⟩
  obtain ⟨R, hR⟩ : ∃ R, R = decR (from_ s n) := ⟨_, rfl⟩
  have H16 : Hid (∀ w, Calls Try.prog 16 #[.string s, .int .i64 (n : Int)] w fun e w' => e = .returned (.tuple #[.int .i32 R, .int .i64 0, .int .i64 10]) ∧ Below w.heap.size w w') := fun w =>
    decode_in s n w R 0 10 (by omega) n1 hR (by rw [n5]; rfl) (by rw [n5]; rfl)
  clear n2 n3 n4 n5 n6 n7 hok hx hR
  have n1i : (n : Int) < (s.size : Int) := by omega
  have n0i : ¬ (n : Int) < 0 := by omega
  go_enter Try.func8, Try.ntmps8
  go_wp2_with (first
    | (go_at_call_of 18 (s.extract 0 n); refine (unhide H18b _).mono ?_; rintro e w2 ⟨v2, rfl, hb2⟩)
    | (go_at_call 18; refine (unhide H18 _).mono ?_; rintro e w1 ⟨a1, cap1, rfl, hb1⟩)
    | (go_at_call 16; refine (unhide H16 _).mono ?_; rintro e w3 ⟨rfl, hb3⟩)
    | (go_at_call 15; refine (awake_any _).mono ?_; rintro e w7 ⟨rfl, hb7⟩))
  go_ret
  have k2 := hb1.trans (hb2.mono hb1.size)
  have k3 := k2.trans (hb3.mono k2.size)
  exact ⟨rfl, k3.trans (hb7.mono k3.size)⟩

set_option maxRecDepth 100000 in
set_option maxHeartbeats 800000 in
theorem forms_law_ok (s : ByteArray) (w : World) (hl : s.size ≤ 50000) (hok : ruOk s = true) :
    Calls Try.prog 8 #[.string s] w fun e w' => e = .returned (.bool true) ∧ Below w.heap.size w w' := by
  have g : ¬ (50000 : Int) < (s.size : Int) := by omega
  have hl8 : s.size ≤ 80000 := by omega
  have hlp : (ruP s).length ≤ 80000 := by have := ruP_length s; omega
  obtain ⟨n1, n2, n3, n4⟩ := forms_ok s hok
  have H18 : Hid (∀ w, Calls Try.prog 18 #[.string s] w fun e w' => ∃ v, e = .returned (.tuple #[v, .int .i64 (s.size : Int), .int .i64 0]) ∧ Row w' v (ruP s) ∧ Below w.heap.size w w') := fun w => by
    have := runes_any s w hl8
    rw [n3, n4] at this
    exact this.mono fun e w' ⟨v, h1, h2, h3⟩ => ⟨v, h1, Row.of_own h2, h3⟩
  have H9 : Hid (∀ v w, Row w v (ruP s) → Calls Try.prog 9 #[v] w fun e w' => e = .returned (.tuple #[.string s, .int .i64 0]) ∧ Below w.heap.size w w') := fun v w h => by
    have := encode_any v _ w hlp h
    rwa [n1, n2] at this
  clear n1 n2 n3 n4 hok
  go_enter Try.func8, Try.ntmps8
  go_wp2_with (first
    | (go_at_call 18; refine (unhide H18 _).mono ?_; rintro e w1 ⟨v1, rfl, hr1, hb1⟩)
    | (go_at_call 9; refine (unhide H9 v1 _ hr1).mono ?_; rintro e w2 ⟨rfl, hb2⟩)
    | (go_at_call 15; refine (awake_any _).mono ?_; rintro e w7 ⟨rfl, hb7⟩))
  go_ret
  have k2 := hb1.trans (hb2.mono hb1.size)
  exact ⟨rfl, k2.trans (hb7.mono k2.size)⟩

set_option maxHeartbeats 400000 in
theorem forms_law (s : ByteArray) (w : World) :
    Calls Try.prog 8 #[.string s] w fun e w' => e = .returned (.bool true) ∧ Below w.heap.size w w' := by
  by_cases hl : s.size ≤ 50000
  · cases hok : ruOk s
    · exact forms_law_bad s w hl hok
    · exact forms_law_ok s w hl hok
  · have g : (50000 : Int) < (s.size : Int) := by omega
    go_enter Try.func8, Try.ntmps8
    go_wp2_with (go_at_call 15; refine (awake_any _).mono ?_; rintro e w7 ⟨rfl, hb7⟩)
    go_ret
    exact ⟨rfl, hb7⟩
end Go.Proofs.Ytelimkogockfkaa
