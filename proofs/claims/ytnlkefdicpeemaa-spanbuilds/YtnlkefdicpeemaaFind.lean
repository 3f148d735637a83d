/- Contracts of sort.Search, of Find and of the document's Find, of Count and of the document's Count. -/
import Derived.Test.YtnlkefdicpeemaaChk
namespace Go.Proofs.Ytnlkefdicpeemaa
open Go.RowKit
open Go.Sort (grow)

set_option maxHeartbeats 800000 in
theorem rfind_some (b o c : Nat) (l : List Sp) (r : Int) (w : World) (hl : l.length ≤ 700) (hc : ∀ j, j < l.length →
    w.cell? ⟨b, o + j * 3, none⟩ = some (.int .i32 (l.getD j sp0).f) ∧ w.cell? ⟨b, o + j * 3 + 1, none⟩ = some (.int .i32 (l.getD j sp0).t) ∧ w.cell? ⟨b, o + j * 3 + 2, none⟩ = some (.int .i64 (l.getD j sp0).h)) :
    Calls Try.prog 12 #[.slice (some ⟨b, o, none⟩) l.length c, .int .i32 r] w fun e w' => e = .returned (.int .i64 (fndT l r)) ∧ Gr w w' := by
  have hck : ∀ W, Gr w W → Calls Try.prog 10 #[.slice (some ⟨b, o, none⟩) l.length c] W fun e w' => e = .returned (.int .i64 (chk l)) ∧ Gr W w' :=
    fun W hW => rcheck_any _ l W (hW.tab ⟨some ⟨b, o, none⟩, c, rfl, fun _ => ⟨b, o, rfl, hc⟩⟩)
  have HC := hide hc
  clear hc
  rcases chk_two l with h0 | h0
  · rw [fndT_yes h0]
    rw [h0] at hck
    have HK := hide hck
    clear hck h0
    go_enter Try.func12, Try.ntmps12
    go_wp2
    go_loopw [5] (fun i wr => ∃ k : Nat, k ≤ l.length ∧ i = .int .i64 k ∧ Gr w wr ∧ Hid (fnd l r = fnd (l.drop k) r)) (fun i _ => l.length - (intOf i).toNat)
    case atStart => exact ⟨0, Nat.zero_le _, rfl, Gr.refl _, rfl⟩
    case round =>
      obtain ⟨k, hk, rfl, hg, HF⟩ := hrel
      by_cases hlt : k < l.length
      · have hzl : (k : Int) < (l.length : Int) := by omega
        have hz0 : (0 : Int) ≤ (k : Int) := by omega
        obtain ⟨g1, g2, g3⟩ := unhide HC k hlt
        replace g1 := hg.cell g1
        replace g2 := hg.cell g2
        replace g3 := hg.cell g3
        have hin := fun h => fnd_drop_in l k r hlt h
        have hout := fun h => fnd_drop_out l k r hlt h
        generalize l.getD k sp0 = s at *
        obtain ⟨f, t, h⟩ := s
        dsimp only at g1 g2 g3 hin hout
        simp only [inS_iff, inS_not] at hin hout
        have HIN := hide hin
        have HOUT := hide hout
        clear hin hout
        by_cases c1 : f ≤ r
        · by_cases c2 : r ≤ t
          · have HE : Hid (fnd l r = h) := (unhide HF).trans (unhide HIN ⟨c1, c2⟩)
            go_wp2_with (go_at_call 10; refine (unhide HK _ hg).mono ?_; rintro e w' ⟨rfl, hg2⟩; replace g1 := hg2.cell g1; replace g2 := hg2.cell g2; replace g3 := hg2.cell g3)
            go_ret
            exact ⟨ret_int (unhide HE).symm, hg.trans hg2⟩
          · have HE : Hid (fnd l r = fnd (l.drop (k + 1)) r) := (unhide HF).trans (unhide HOUT (by omega))
            go_wp2_with (go_at_call 10; refine (unhide HK _ hg).mono ?_; rintro e w' ⟨rfl, hg2⟩; replace g1 := hg2.cell g1; replace g2 := hg2.cell g2; replace g3 := hg2.cell g3)
            go_roundw
            case rel => exact ⟨k + 1, by omega, by go_num, hg.trans hg2, HE⟩
            case measure => simp [intOf]; omega
        · have HE : Hid (fnd l r = fnd (l.drop (k + 1)) r) := (unhide HF).trans (unhide HOUT (by omega))
          go_wp2_with (go_at_call 10; refine (unhide HK _ hg).mono ?_; rintro e w' ⟨rfl, hg2⟩; replace g1 := hg2.cell g1; replace g2 := hg2.cell g2; replace g3 := hg2.cell g3)
          go_roundw
          case rel => exact ⟨k + 1, by omega, by go_num, hg.trans hg2, HE⟩
          case measure => simp [intOf]; omega
      · have hzl : ¬ (k : Int) < (l.length : Int) := by omega
        have HE : Hid (fnd l r = 0) := by
          rw [unhide HF, show k = l.length by omega, List.drop_length]; rfl
        go_wp2
        go_ret
        exact ⟨ret_int (unhide HE).symm, hg⟩
  · rw [fndT_no h0]
    rw [h0] at hck
    have HK := hide hck
    clear hck
    have hpos : 0 < l.length := by
      rcases Nat.eq_zero_or_pos l.length with h1 | h1
      · rw [chk_ok (by omega) (by rw [h1]; rfl)] at h0; omega
      · exact h1
    have hzl : (0 : Int) < (l.length : Int) := by omega
    clear h0
    go_enter Try.func12, Try.ntmps12
    go_wp2
    refine wp_loop_rounds 1 ?_
    rw [rounds_succ]
    go_wp2_with (go_at_call 10; refine (unhide HK _ (Gr.refl _)).mono ?_; rintro e w' ⟨rfl, hg2⟩)
    go_ret
    exact ⟨rfl, hg2⟩

set_option maxHeartbeats 400000 in
theorem rfind_none (a : Option Addr) (c : Nat) (r : Int) (w : World) :
    Calls Try.prog 12 #[.slice a 0 c, .int .i32 r] w fun e w' => e = .returned (.int .i64 0) ∧ Gr w w' := by
  go_enter Try.func12, Try.ntmps12
  go_wp2
  refine wp_loop_rounds 1 ?_
  rw [rounds_succ]
  go_wp2
  go_ret
  exact ⟨rfl, Gr.refl _⟩

/-- The document's Find: of any spans. -/
theorem rfind_any (v : Value) (l : List Sp) (r : Int) (w : World) (h : Tab w v l) (hl : l.length ≤ 700) :
    Calls Try.prog 12 #[v, .int .i32 r] w fun e w' => e = .returned (.int .i64 (fndT l r)) ∧ Gr w w' := by
  obtain ⟨a, c, rfl, h⟩ := h
  by_cases h0 : l.length = 0
  · obtain rfl : l = [] := List.length_eq_zero_iff.1 h0
    exact rfind_none a c r w
  · obtain ⟨b, o, rfl, hc⟩ := h (by omega)
    exact rfind_some b o c l r w hl hc

set_option maxHeartbeats 800000 in
theorem count_some (b o c : Nat) (l : List Sp) (q : Int) (w : World) (hc : ∀ j, j < l.length →
    w.cell? ⟨b, o + j * 3, none⟩ = some (.int .i32 (l.getD j sp0).f) ∧ w.cell? ⟨b, o + j * 3 + 1, none⟩ = some (.int .i32 (l.getD j sp0).t) ∧ w.cell? ⟨b, o + j * 3 + 2, none⟩ = some (.int .i64 (l.getD j sp0).h)) :
    Calls Try.prog 13 #[.slice (some ⟨b, o, none⟩) l.length c, .int .i64 q] w fun e w' => e = .returned (.int .i64 (cntT l q)) ∧ Gr w w' := by
  have hck : ∀ W, Gr w W → Calls Try.prog 9 #[.slice (some ⟨b, o, none⟩) l.length c] W fun e w' => e = .returned (.int .i64 (chk l)) ∧ Gr W w' :=
    fun W hW => check_any _ l W (hW.tab ⟨some ⟨b, o, none⟩, c, rfl, fun _ => ⟨b, o, rfl, hc⟩⟩)
  have HC := hide hc
  clear hc
  rcases chk_two l with h0 | h0
  · rw [cntT_yes h0]
    rw [h0] at hck
    have HT := hide (chk_zero h0).2
    have hl := (chk_zero h0).1
    have HK := hide hck
    clear hck h0
    go_enter Try.func13, Try.ntmps13
    go_wp2_with (go_at_call 9; refine (unhide HK _ (Gr.refl _)).mono ?_; rintro e w1 ⟨rfl, hg1⟩)
    go_loopw [5, 13] (fun n i wr => ∃ k : Nat, k ≤ l.length ∧ i = .int .i64 k ∧ Gr w wr ∧ n = .int .i64 (cntTo l q k)) (fun _ i _ => l.length - (intOf i).toNat)
    case atStart => exact ⟨0, Nat.zero_le _, rfl, hg1, rfl⟩
    case round =>
      obtain ⟨k, hk, rfl, hg, rfl⟩ := hrel
      by_cases hlt : k < l.length
      · have hzl : (k : Int) < (l.length : Int) := by omega
        have hz0 : (0 : Int) ≤ (k : Int) := by omega
        obtain ⟨g1, g2, g3⟩ := unhide HC k hlt
        replace g1 := hg.cell g1
        replace g2 := hg.cell g2
        replace g3 := hg.cell g3
        have hst : cntTo l q (k + 1) = cntTo l q k + (if (l.getD k sp0).h = q then (l.getD k sp0).t - (l.getD k sp0).f + 1 else 0) := rfl
        have hm := okAt_may (okTo_at (unhide HT) k hlt)
        have hbd := cnt_bound (q := q) (okTo_of (fun i hi => okTo_at (unhide HT) i (by omega)) : okTo l k = true)
        generalize l.getD k sp0 = s at *
        obtain ⟨f, t, h⟩ := s
        dsimp only at g1 g2 g3 hm hst
        have HST := hide hst
        clear hst
        generalize cntTo l q k = n at *
        by_cases c1 : h = q
        · subst c1
          have hw1 : IntKind.i32.wrap (t - f) = t - f := by simp [IntKind.wrap, IntKind.bits, IntKind.signed]; omega
          have hw2 : IntKind.i64.wrap (t - f + 1) = t - f + 1 := by rw [IntKind.wrap_i64]; omega
          have hw3 : IntKind.i64.wrap (n + (t - f + 1)) = n + (t - f + 1) := by rw [IntKind.wrap_i64]; omega
          go_wp2
          go_roundw
          case rel => exact ⟨k + 1, by omega, by go_num, hg.alloc _, by rw [unhide HST, if_pos rfl]⟩
          case measure => simp [intOf]; omega
        · have c2 : (h == q) = false := by simpa using c1
          go_wp2
          go_roundw
          case rel => exact ⟨k + 1, by omega, by go_num, hg.alloc _, by rw [unhide HST, if_neg c1, Int.add_zero]⟩
          case measure => simp [intOf]; omega
      · have hzl : ¬ (k : Int) < (l.length : Int) := by omega
        have hkl : k = l.length := by omega
        go_wp2
        go_ret
        exact ⟨ret_int rfl, hg⟩
  · rw [cntT_no h0]
    rw [h0] at hck
    have HK := hide hck
    clear hck h0
    go_enter Try.func13, Try.ntmps13
    go_wp2_with (go_at_call 9; refine (unhide HK _ (Gr.refl _)).mono ?_; rintro e w1 ⟨rfl, hg1⟩)
    go_ret
    exact ⟨rfl, hg1⟩

set_option maxHeartbeats 400000 in
theorem count_none (a : Option Addr) (c : Nat) (q : Int) (w : World) :
    Calls Try.prog 13 #[.slice a 0 c, .int .i64 q] w fun e w' => e = .returned (.int .i64 0) ∧ Gr w w' := by
  go_enter Try.func13, Try.ntmps13
  go_wp2_with (go_at_call 9; refine (check_none a c _).mono ?_; rintro e w1 ⟨rfl, hg1⟩)
  refine wp_loop_rounds 1 ?_
  rw [rounds_succ]
  go_wp2
  go_ret
  exact ⟨rfl, hg1⟩

/-- Count: of any spans. -/
theorem count_any (v : Value) (l : List Sp) (q : Int) (w : World) (h : Tab w v l) :
    Calls Try.prog 13 #[v, .int .i64 q] w fun e w' => e = .returned (.int .i64 (cntT l q)) ∧ Gr w w' := by
  obtain ⟨a, c, rfl, h⟩ := h
  by_cases h0 : l.length = 0
  · obtain rfl : l = [] := List.length_eq_zero_iff.1 h0
    exact count_none a c q w
  · obtain ⟨b, o, rfl, hc⟩ := h (by omega)
    exact count_some b o c l q w hc

set_option maxHeartbeats 800000 in
theorem rcount_some (b o c : Nat) (l : List Sp) (q : Int) (w : World) (hc : ∀ j, j < l.length →
    w.cell? ⟨b, o + j * 3, none⟩ = some (.int .i32 (l.getD j sp0).f) ∧ w.cell? ⟨b, o + j * 3 + 1, none⟩ = some (.int .i32 (l.getD j sp0).t) ∧ w.cell? ⟨b, o + j * 3 + 2, none⟩ = some (.int .i64 (l.getD j sp0).h)) :
    Calls Try.prog 14 #[.slice (some ⟨b, o, none⟩) l.length c, .int .i64 q] w fun e w' => e = .returned (.int .i64 (cntT l q)) ∧ Gr w w' := by
  have hck : ∀ W, Gr w W → Calls Try.prog 10 #[.slice (some ⟨b, o, none⟩) l.length c] W fun e w' => e = .returned (.int .i64 (chk l)) ∧ Gr W w' :=
    fun W hW => rcheck_any _ l W (hW.tab ⟨some ⟨b, o, none⟩, c, rfl, fun _ => ⟨b, o, rfl, hc⟩⟩)
  have HC := hide hc
  clear hc
  rcases chk_two l with h0 | h0
  · rw [cntT_yes h0]
    rw [h0] at hck
    have HT := hide (chk_zero h0).2
    have hl := (chk_zero h0).1
    have HK := hide hck
    clear hck h0
    go_enter Try.func14, Try.ntmps14
    go_wp2
    go_loopw [5, 6] (fun n i wr => ∃ k : Nat, k ≤ l.length ∧ i = .int .i64 k ∧ Gr w wr ∧ n = .int .i64 (cntTo l q k)) (fun _ i _ => l.length - (intOf i).toNat)
    case atStart => exact ⟨0, Nat.zero_le _, rfl, Gr.refl _, rfl⟩
    case round =>
      obtain ⟨k, hk, rfl, hg, rfl⟩ := hrel
      by_cases hlt : k < l.length
      · have hzl : (k : Int) < (l.length : Int) := by omega
        have hz0 : (0 : Int) ≤ (k : Int) := by omega
        obtain ⟨g1, g2, g3⟩ := unhide HC k hlt
        replace g1 := hg.cell g1
        replace g2 := hg.cell g2
        replace g3 := hg.cell g3
        have hst : cntTo l q (k + 1) = cntTo l q k + (if (l.getD k sp0).h = q then (l.getD k sp0).t - (l.getD k sp0).f + 1 else 0) := rfl
        have hm := okAt_may (okTo_at (unhide HT) k hlt)
        have hbd := cnt_bound (q := q) (okTo_of (fun i hi => okTo_at (unhide HT) i (by omega)) : okTo l k = true)
        generalize l.getD k sp0 = s at *
        obtain ⟨f, t, h⟩ := s
        dsimp only at g1 g2 g3 hm hst
        have HST := hide hst
        clear hst
        generalize cntTo l q k = n at *
        by_cases c1 : h = q
        · subst c1
          have hw2 : IntKind.i64.wrap (n + t) = n + t := by rw [IntKind.wrap_i64]; omega
          have hw3 : IntKind.i64.wrap (n + t - f) = n + t - f := by rw [IntKind.wrap_i64]; omega
          have hw4 : IntKind.i64.wrap (n + t - f + 1) = n + t - f + 1 := by rw [IntKind.wrap_i64]; omega
          go_wp2_with (go_at_call 10; refine (unhide HK _ hg).mono ?_; rintro e w' ⟨rfl, hg2⟩; replace g1 := hg2.cell g1; replace g2 := hg2.cell g2; replace g3 := hg2.cell g3)
          go_quiet (fail)
          go_wp2
          go_roundw
          case rel => exact ⟨k + 1, by omega, by go_num, (hg.trans hg2).drewN _, by rw [unhide HST]; simp only [if_true]; congr 1; omega⟩
          case measure => simp [intOf]; omega
        · have c2 : (h == q) = false := by simpa using c1
          go_wp2_with (go_at_call 10; refine (unhide HK _ hg).mono ?_; rintro e w' ⟨rfl, hg2⟩; replace g1 := hg2.cell g1; replace g2 := hg2.cell g2; replace g3 := hg2.cell g3)
          go_roundw
          case rel => exact ⟨k + 1, by omega, by go_num, hg.trans hg2, by rw [unhide HST, if_neg c1, Int.add_zero]⟩
          case measure => simp [intOf]; omega
      · have hzl : ¬ (k : Int) < (l.length : Int) := by omega
        have hkl : k = l.length := by omega
        go_wp2
        go_ret
        exact ⟨ret_int rfl, hg⟩
  · rw [cntT_no h0]
    rw [h0] at hck
    have HK := hide hck
    have hpos : 0 < l.length := by
      rcases Nat.eq_zero_or_pos l.length with h1 | h1
      · rw [chk_ok (by omega) (by rw [h1]; rfl)] at h0; omega
      · exact h1
    have hzl : (0 : Int) < (l.length : Int) := by omega
    clear hck h0
    go_enter Try.func14, Try.ntmps14
    go_wp2
    refine wp_loop_rounds 1 ?_
    rw [rounds_succ]
    go_wp2_with (go_at_call 10; refine (unhide HK _ (Gr.refl _)).mono ?_; rintro e w' ⟨rfl, hg2⟩)
    go_ret
    exact ⟨rfl, hg2⟩

set_option maxHeartbeats 400000 in
theorem rcount_none (a : Option Addr) (c : Nat) (q : Int) (w : World) :
    Calls Try.prog 14 #[.slice a 0 c, .int .i64 q] w fun e w' => e = .returned (.int .i64 0) ∧ Gr w w' := by
  go_enter Try.func14, Try.ntmps14
  go_wp2
  refine wp_loop_rounds 1 ?_
  rw [rounds_succ]
  go_wp2
  go_ret
  exact ⟨rfl, Gr.refl _⟩

/-- The document's Count: of any spans. -/
theorem rcount_any (v : Value) (l : List Sp) (q : Int) (w : World) (h : Tab w v l) :
    Calls Try.prog 14 #[v, .int .i64 q] w fun e w' => e = .returned (.int .i64 (cntT l q)) ∧ Gr w w' := by
  obtain ⟨a, c, rfl, h⟩ := h
  by_cases h0 : l.length = 0
  · obtain rfl : l = [] := List.length_eq_zero_iff.1 h0
    exact rcount_none a c q w
  · obtain ⟨b, o, rfl, hc⟩ := h (by omega)
    exact rcount_some b o c l q w hc

set_option maxHeartbeats 800000 in
/-- sort.Search: a place with no true one right ahead, that is true itself or the end. -/
theorem search_any (g : Nat) (cb : Array Value) (n : Nat) (p : Nat → Bool) (w : World) (eg : ∀ args w, (callFunc g args).run Try.prog w = .ok (.enter g args) w) (hn : n ≤ 700)
    (hf : ∀ (W : World) (i : Nat), Gr w W → i < n → Calls Try.prog g (#[.int .i64 i] ++ cb) W fun e w' => e = .returned (.bool (p i)) ∧ Gr W w') :
    Calls Try.prog 21 #[.int .i64 n, .func (.func g) #[] cb] w fun e w' => ∃ m : Nat, e = .returned (.int .i64 m) ∧ m ≤ n ∧ (m = 0 ∨ p (m - 1) = false) ∧ (m = n ∨ p m = true) ∧ Gr w w' := by
  have HF := hide hf
  clear hf
  go_enter Try.func21, Try.ntmps21
  go_wp2
  go_loopw [5, 6] (fun x y wr => ∃ lo hi : Nat, x = .int .i64 lo ∧ y = .int .i64 hi ∧ lo ≤ hi ∧ hi ≤ n ∧ Gr w wr ∧ Hid ((lo = 0 ∨ p (lo - 1) = false) ∧ (hi = n ∨ p hi = true))) (fun x y _ => (intOf y - intOf x).toNat)
  case atStart => exact ⟨0, n, rfl, rfl, Nat.zero_le _, Nat.le_refl _, Gr.refl _, hide ⟨.inl rfl, .inl rfl⟩⟩
  case round =>
    obtain ⟨lo, hi, rfl, rfl, hlh, hin, hg, HI⟩ := hrel
    by_cases hlt : lo < hi
    · have hltz : (lo : Int) < (hi : Int) := by omega
      have hc := unhide HF wr ((lo + hi) / 2) hg (by omega)
      rw [show (((lo + hi) / 2 : Nat) : Int) = ((lo : Int) + (hi : Int)) / 2 by omega] at hc
      cases hp : p ((lo + hi) / 2) <;> rw [hp] at hc
      · have HP := hide hp
        clear hp
        go_wp2_with (refine hc.mono ?_; rintro e w' ⟨rfl, hg2⟩)
        go_roundw
        case rel =>
          exact ⟨(lo + hi) / 2 + 1, hi, by congr 1, rfl, by omega, hin, hg.trans hg2, hide ⟨.inr (by simpa using unhide HP), (unhide HI).2⟩⟩
        case measure => simp [intOf]; omega
      · have HP := hide hp
        clear hp
        go_wp2_with (refine hc.mono ?_; rintro e w' ⟨rfl, hg2⟩)
        go_roundw
        case rel =>
          exact ⟨lo, (lo + hi) / 2, rfl, by congr 1, by omega, by omega, hg.trans hg2, hide ⟨(unhide HI).1, .inr (unhide HP)⟩⟩
        case measure => simp [intOf]; omega
    · have hltz : ¬ (lo : Int) < (hi : Int) := by omega
      obtain rfl : hi = lo := by omega
      go_wp2
      go_ret
      exact ⟨hi, rfl, hin, (unhide HI).1, (unhide HI).2, hg⟩

set_option maxHeartbeats 400000 in
theorem find1_any (ba bx b o c n i : Nat) (t r : Int) (W : World) (hi : i < n) (ha : W.cell? ⟨ba, 0, none⟩ = some (.slice (some ⟨b, o, none⟩) n c)) (hx : W.cell? ⟨bx, 0, none⟩ = some (.int .i32 r)) (hc : W.cell? ⟨b, o + i * 3 + 1, none⟩ = some (.int .i32 t)) :
    Calls Try.prog 22 (#[.int .i64 i] ++ #[.pointer (some ⟨ba, 0, none⟩), .pointer (some ⟨bx, 0, none⟩)]) W fun e w' => e = .returned (.bool (decide (r ≤ t))) ∧ Gr W w' := by
  have hz0 : (0 : Int) ≤ (i : Int) := by omega
  have hzl : (i : Int) < (n : Int) := by omega
  go_enter Try.func22, Try.ntmps22
  go_wp2
  go_quiet (fail)
  go_wp2
  go_ret
  exact ⟨rfl, (Gr.refl _).drewN _⟩

set_option maxHeartbeats 800000 in
theorem find_some (b o c : Nat) (l : List Sp) (r : Int) (w : World) (hc : ∀ j, j < l.length →
    w.cell? ⟨b, o + j * 3, none⟩ = some (.int .i32 (l.getD j sp0).f) ∧ w.cell? ⟨b, o + j * 3 + 1, none⟩ = some (.int .i32 (l.getD j sp0).t) ∧ w.cell? ⟨b, o + j * 3 + 2, none⟩ = some (.int .i64 (l.getD j sp0).h)) :
    Calls Try.prog 11 #[.slice (some ⟨b, o, none⟩) l.length c, .int .i32 r] w fun e w' => e = .returned (.int .i64 (fndT l r)) ∧ Gr w w' := by
  have mx := mixed
  have hck : ∀ W, Gr w W → Calls Try.prog 9 #[.slice (some ⟨b, o, none⟩) l.length c] W fun e w' => e = .returned (.int .i64 (chk l)) ∧ Gr W w' :=
    fun W hW => check_any _ l W (hW.tab ⟨some ⟨b, o, none⟩, c, rfl, fun _ => ⟨b, o, rfl, hc⟩⟩)
  have HC := hide hc
  clear hc
  have ca := box1 w (.slice (some ⟨b, o, none⟩) l.length c) 22
  replace ca := (Gr.one _ (.cells #[.int .i32 r] 21)).cell ca
  have cx := box1 (w.alloc (.cells #[.slice (some ⟨b, o, none⟩) l.length c] 22)) (.int .i32 r) 21
  rw [World.size_alloc] at cx
  have hg0 := ((Gr.refl w).alloc (.cells #[.slice (some ⟨b, o, none⟩) l.length c] 22)).alloc (.cells #[.int .i32 r] 21)
  rcases chk_two l with h0 | h0
  · rw [fndT_yes h0]
    rw [h0] at hck
    have HT := hide (chk_zero h0).2
    have hl := (chk_zero h0).1
    have HK := hide hck
    clear hck h0
    go_enter Try.func11, Try.ntmps11
    go_wp2_with (first
      | (go_at_call 9; refine (unhide HK _ hg0).mono ?_; rintro e w1 ⟨rfl, hg1⟩; replace ca := hg1.cell ca; replace cx := hg1.cell cx; replace hg1 := hg0.trans hg1)
      | (go_at_call 21; refine (search_any 22 _ l.length (fun i => decide (r ≤ (l.getD i sp0).t)) _ (enters_of Try.func22 (by kernel_rfl) rfl) (by omega) (fun W i hW hi => find1_any _ _ b o c l.length i _ r W hi (hW.cell ca) (hW.cell cx) ((hg1.trans hW).cell (unhide HC i hi).2.1))).mono ?_; rintro e w2 ⟨m, rfl, hm, h1, h2, hg2⟩))
    replace ca := cell_gr (hg2.cell ca)
    replace cx := cell_gr (hg2.cell cx)
    replace hg2 := hg1.trans hg2
    have H1 : Hid (m = 0 ∨ (l.getD (m - 1) sp0).t < r) := h1.imp id (fun h => by have := of_decide_eq_false h; omega)
    have H2 : Hid (m = l.length ∨ r ≤ (l.getD m sp0).t) := h2.imp id (fun h => of_decide_eq_true h)
    clear h1 h2
    by_cases hml : m = l.length
    · have HE : Hid (fnd l r = 0) := search_out r (unhide HT) hm (unhide H1) (.inl hml) (.inl hml)
      have d1 : ((m : Int) == (l.length : Int)) = true := by simp; omega
      clear H1 H2 hml
      refine wp_region_quiet_grown (by first | exact mx | assumption) (by kernel_rfl) ?_
      repeat (go_big_quiet_step (fail))
      refine wpQuiet_nil ?_
      intro _ hw'
      obtain ⟨⟨nq, osq⟩, hw''⟩ := hw'
      subst hw''
      go_wp2
      go_ret
      exact ⟨ret_int (unhide HE).symm, hg2.grow _ _⟩
    · have d1 : ((m : Int) == (l.length : Int)) = false := by simp; omega
      have hlt : m < l.length := by omega
      have hzl : (m : Int) < (l.length : Int) := by omega
      have hz0 : (0 : Int) ≤ (m : Int) := by omega
      obtain ⟨g1, g2, g3⟩ := unhide HC m hlt
      replace g1 := cell_gr (hg2.cell g1)
      replace g2 := cell_gr (hg2.cell g2)
      replace g3 := cell_gr (hg2.cell g3)
      have hin : inS (l.getD m sp0) r = true → Hid (fnd l r = (l.getD m sp0).h) := fun h => search_in r (unhide HT) hlt h
      have hout : inS (l.getD m sp0) r = false → Hid (fnd l r = 0) := fun h => search_out r (unhide HT) hm (unhide H1) (.inr h) (unhide H2)
      clear H1 H2 hml
      generalize l.getD m sp0 = s at *
      obtain ⟨f, t, h⟩ := s
      dsimp only at g1 g2 g3 hin
      have hh := fun w => holds_any f t h r w
      cases hi : inS ⟨f, t, h⟩ r <;> rw [hi] at hh
      · have HE := hout hi
        have HH := hide hh
        clear hin hout hi hh
        refine wp_region_quiet_grown (by first | exact mx | assumption) (by kernel_rfl) ?_
        repeat (go_big_quiet_step ((go_at_call 23; exact callsGr (unhide HH _))))
        refine wpQuiet_nil ?_
        intro _ hw'
        obtain ⟨⟨nq, osq⟩, hw''⟩ := hw'
        subst hw''
        go_wp2
        go_ret
        exact ⟨ret_int (unhide HE).symm, hg2.grow _ _⟩
      · have HE := hin hi
        have HH := hide hh
        clear hin hout hi hh
        refine wp_region_quiet_grown (by first | exact mx | assumption) (by kernel_rfl) ?_
        repeat (go_big_quiet_step ((go_at_call 23; exact callsGr (unhide HH _))))
        refine wpQuiet_nil ?_
        intro _ hw'
        obtain ⟨⟨nq, osq⟩, hw''⟩ := hw'
        subst hw''
        replace ca := ca nq osq
        replace g3 := g3 nq osq
        go_wp2
        go_ret
        exact ⟨ret_int (unhide HE).symm, hg2.grow _ _⟩
  · rw [fndT_no h0]
    rw [h0] at hck
    have HK := hide hck
    clear hck h0
    go_enter Try.func11, Try.ntmps11
    go_wp2_with (go_at_call 9; refine (unhide HK _ hg0).mono ?_; rintro e w1 ⟨rfl, hg1⟩)
    go_ret
    exact ⟨rfl, hg0.trans hg1⟩

set_option maxHeartbeats 800000 in
theorem find_none (a : Option Addr) (c : Nat) (r : Int) (w : World) :
    Calls Try.prog 11 #[.slice a 0 c, .int .i32 r] w fun e w' => e = .returned (.int .i64 0) ∧ Gr w w' := by
  have mx := mixed
  have ca := box1 w (.slice a 0 c) 22
  replace ca := (Gr.one _ (.cells #[.int .i32 r] 21)).cell ca
  have hg0 := ((Gr.refl w).alloc (.cells #[.slice a 0 c] 22)).alloc (.cells #[.int .i32 r] 21)
  go_enter Try.func11, Try.ntmps11
  go_wp2_with (first
      | (go_at_call 9; refine (check_none a c _).mono ?_; rintro e w1 ⟨rfl, hg1⟩; replace ca := hg1.cell ca; replace hg1 := hg0.trans hg1)
      | (go_at_call 21; refine (search_any 22 _ 0 (fun i => true) _ (enters_of Try.func22 (by kernel_rfl) rfl) (by omega) (fun W i hW hi => absurd hi (Nat.not_lt_zero _))).mono ?_; rintro e w2 ⟨m, rfl, hm, h1, h2, hg2⟩))
  obtain rfl : m = 0 := by omega
  replace ca := cell_gr (hg2.cell ca)
  replace hg2 := hg1.trans hg2
  clear h1 h2
  refine wp_region_quiet_grown (by first | exact mx | assumption) (by kernel_rfl) ?_
  repeat (go_big_quiet_step (fail))
  refine wpQuiet_nil ?_
  intro _ hw'
  obtain ⟨⟨nq, osq⟩, hw''⟩ := hw'
  subst hw''
  go_wp2
  go_ret
  exact ⟨rfl, hg2.grow _ _⟩

/-- Find: of any spans. -/
theorem find_any (v : Value) (l : List Sp) (r : Int) (w : World) (h : Tab w v l) :
    Calls Try.prog 11 #[v, .int .i32 r] w fun e w' => e = .returned (.int .i64 (fndT l r)) ∧ Gr w w' := by
  obtain ⟨a, c, rfl, h⟩ := h
  by_cases h0 : l.length = 0
  · obtain rfl : l = [] := List.length_eq_zero_iff.1 h0
    exact find_none a c r w
  · obtain ⟨b, o, rfl, hc⟩ := h (by omega)
    exact find_some b o c l r w hc
end Go.Proofs.Ytnlkefdicpeemaa
