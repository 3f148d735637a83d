/- Contracts of sort.Search, of Find and of the document's Find, of Count and of the document's Count. -/
import Derived.Test.YtjoafogemjllhaaChk
namespace Go.Proofs.Ytjoafogemjllhaa
open Go.RowKit
open Go.Sort (grow)

set_option maxHeartbeats 800000 in
theorem rfind_some (b o c : Nat) (l : List Sp) (r : Int) (w : World) (hl : l.length ≤ 700) (hc : ∀ j, j < l.length →
    w.cell? ⟨b, o + j * 3, none⟩ = some (.int .i32 (l.getD j sp0).f) ∧ w.cell? ⟨b, o + j * 3 + 1, none⟩ = some (.int .i32 (l.getD j sp0).t) ∧ w.cell? ⟨b, o + j * 3 + 2, none⟩ = some (.int .i64 (l.getD j sp0).h)) :
    Calls Try.prog 21 #[.slice (some ⟨b, o, none⟩) l.length c, .int .i32 r] w fun e w' => e = .returned (.int .i64 (fndT l r)) ∧ Gr w w' := by
  have hck : ∀ W, Gr w W → Calls Try.prog 32 #[.slice (some ⟨b, o, none⟩) l.length c] W fun e w' => e = .returned (.int .i64 (chk l)) ∧ Gr W w' :=
    fun W hW => rcheck_any _ l W (hW.tab ⟨some ⟨b, o, none⟩, c, rfl, fun _ => ⟨b, o, rfl, hc⟩⟩)
  have HC := hide hc
  clear hc
  rcases chk_two l with h0 | h0
  · rw [fndT_yes h0]
    rw [h0] at hck
    have HK := hide hck
    clear hck h0
    go_enter Try.func21, Try.ntmps21
    go_wp2
    go_loopw [5] (fun i wr => ∃ k : Nat, k ≤ l.length ∧ i = .int .i64 k ∧ Gr w wr ∧ Hid (fnd l r = fnd (l.drop k) r)) (fun i _ => l.length - (intOf i).toNat)
    case atStart => exact ⟨0, Nat.zero_le _, rfl, Gr.refl _, rfl⟩
    case round =>
      obtain ⟨k, hk, rfl, hg, HF⟩ := hrel
      by_cases hlt : k < l.length
      · have hzl : (k : Int) < (l.length : Int) := by omega
        have hz0 : (0 : Int) ≤ (k : Int) := by omega
        obtain ⟨g1, g2, g3⟩ := unhide HC k hlt
        replace g1 := hg.cell g1
        replace g2 := hg.cell g2
        replace g3 := hg.cell g3
        have hin := fun h => fnd_drop_in l k r hlt h
        have hout := fun h => fnd_drop_out l k r hlt h
        generalize l.getD k sp0 = s at *
        obtain ⟨f, t, h⟩ := s
        dsimp only at g1 g2 g3 hin hout
        simp only [inS_iff, inS_not] at hin hout
        have HIN := hide hin
        have HOUT := hide hout
        clear hin hout
        by_cases c1 : f ≤ r
        · by_cases c2 : r ≤ t
          · have HE : Hid (fnd l r = h) := (unhide HF).trans (unhide HIN ⟨c1, c2⟩)
            go_wp2_with (go_at_call 32; refine (unhide HK _ hg).mono ?_; rintro e w' ⟨rfl, hg2⟩; replace g1 := hg2.cell g1; replace g2 := hg2.cell g2; replace g3 := hg2.cell g3)
            go_ret
            exact ⟨ret_int (unhide HE).symm, hg.trans hg2⟩
          · have HE : Hid (fnd l r = fnd (l.drop (k + 1)) r) := (unhide HF).trans (unhide HOUT (by omega))
            go_wp2_with (go_at_call 32; refine (unhide HK _ hg).mono ?_; rintro e w' ⟨rfl, hg2⟩; replace g1 := hg2.cell g1; replace g2 := hg2.cell g2; replace g3 := hg2.cell g3)
            go_roundw
            case rel => exact ⟨k + 1, by omega, by go_num, hg.trans hg2, HE⟩
            case measure => simp [intOf]; omega
        · have HE : Hid (fnd l r = fnd (l.drop (k + 1)) r) := (unhide HF).trans (unhide HOUT (by omega))
          go_wp2_with (go_at_call 32; refine (unhide HK _ hg).mono ?_; rintro e w' ⟨rfl, hg2⟩; replace g1 := hg2.cell g1; replace g2 := hg2.cell g2; replace g3 := hg2.cell g3)
          go_roundw
          case rel => exact ⟨k + 1, by omega, by go_num, hg.trans hg2, HE⟩
          case measure => simp [intOf]; omega
      · have hzl : ¬ (k : Int) < (l.length : Int) := by omega
        have HE : Hid (fnd l r = 0) := by
          rw [unhide HF, show k = l.length by omega, List.drop_length]; rfl
        go_wp2
        go_ret
        exact ⟨ret_int (unhide HE).symm, hg⟩
  · rw [fndT_no h0]
    rw [h0] at hck
    have HK := hide hck
    clear hck
    have hpos : 0 < l.length := by
      rcases Nat.eq_zero_or_pos l.length with h1 | h1
      · rw [chk_ok (by omega) (by rw [h1]; rfl)] at h0; omega
      · exact h1
    have hzl : (0 : Int) < (l.length : Int) := by omega
    clear h0
    go_enter Try.func21, Try.ntmps21
    go_wp2
    refine wp_loop_rounds 1 ?_
    rw [rounds_succ]
    go_wp2_with (go_at_call 32; refine (unhide HK _ (Gr.refl _)).mono ?_; rintro e w' ⟨rfl, hg2⟩)
    go_ret
    exact ⟨rfl, hg2⟩

set_option maxHeartbeats 400000 in
theorem rfind_none (a : Option Addr) (c : Nat) (r : Int) (w : World) :
    Calls Try.prog 21 #[.slice a 0 c, .int .i32 r] w fun e w' => e = .returned (.int .i64 0) ∧ Gr w w' := by
  go_enter Try.func21, Try.ntmps21
  go_wp2
  refine wp_loop_rounds 1 ?_
  rw [rounds_succ]
  go_wp2
  go_ret
  exact ⟨rfl, Gr.refl _⟩

/-- The document's Find: of any spans. -/
theorem rfind_any (v : Value) (l : List Sp) (r : Int) (w : World) (h : Tab w v l) (hl : l.length ≤ 700) :
    Calls Try.prog 21 #[v, .int .i32 r] w fun e w' => e = .returned (.int .i64 (fndT l r)) ∧ Gr w w' := by
  obtain ⟨a, c, rfl, h⟩ := h
  by_cases h0 : l.length = 0
  · obtain rfl : l = [] := List.length_eq_zero_iff.1 h0
    exact rfind_none a c r w
  · obtain ⟨b, o, rfl, hc⟩ := h (by omega)
    exact rfind_some b o c l r w hl hc

set_option maxHeartbeats 800000 in
theorem count_some (b o c : Nat) (l : List Sp) (q : Int) (w : World) (hc : ∀ j, j < l.length →
    w.cell? ⟨b, o + j * 3, none⟩ = some (.int .i32 (l.getD j sp0).f) ∧ w.cell? ⟨b, o + j * 3 + 1, none⟩ = some (.int .i32 (l.getD j sp0).t) ∧ w.cell? ⟨b, o + j * 3 + 2, none⟩ = some (.int .i64 (l.getD j sp0).h)) :
    Calls Try.prog 22 #[.slice (some ⟨b, o, none⟩) l.length c, .int .i64 q] w fun e w' => e = .returned (.int .i64 (cntT l q)) ∧ Gr w w' := by
  have hck : ∀ W, Gr w W → Calls Try.prog 33 #[.slice (some ⟨b, o, none⟩) l.length c] W fun e w' => e = .returned (.int .i64 (chk l)) ∧ Gr W w' :=
    fun W hW => check_any _ l W (hW.tab ⟨some ⟨b, o, none⟩, c, rfl, fun _ => ⟨b, o, rfl, hc⟩⟩)
  have HC := hide hc
  clear hc
  rcases chk_two l with h0 | h0
  · rw [cntT_yes h0]
    rw [h0] at hck
    have HT := hide (chk_zero h0).2
    have hl := (chk_zero h0).1
    have HK := hide hck
    clear hck h0
    go_enter Try.func22, Try.ntmps22
    go_wp2_with (go_at_call 33; refine (unhide HK _ (Gr.refl _)).mono ?_; rintro e w1 ⟨rfl, hg1⟩)
    go_loopw [5, 13] (fun n i wr => ∃ k : Nat, k ≤ l.length ∧ i = .int .i64 k ∧ Gr w wr ∧ n = .int .i64 (cntTo l q k)) (fun _ i _ => l.length - (intOf i).toNat)
    case atStart => exact ⟨0, Nat.zero_le _, rfl, hg1, rfl⟩
    case round =>
      obtain ⟨k, hk, rfl, hg, rfl⟩ := hrel
      by_cases hlt : k < l.length
      · have hzl : (k : Int) < (l.length : Int) := by omega
        have hz0 : (0 : Int) ≤ (k : Int) := by omega
        obtain ⟨g1, g2, g3⟩ := unhide HC k hlt
        replace g1 := hg.cell g1
        replace g2 := hg.cell g2
        replace g3 := hg.cell g3
        have hst : cntTo l q (k + 1) = cntTo l q k + (if (l.getD k sp0).h = q then (l.getD k sp0).t - (l.getD k sp0).f + 1 else 0) := rfl
        have hm := okAt_may (okTo_at (unhide HT) k hlt)
        have hbd := cnt_bound (q := q) (okTo_of (fun i hi => okTo_at (unhide HT) i (by omega)) : okTo l k = true)
        generalize l.getD k sp0 = s at *
        obtain ⟨f, t, h⟩ := s
        dsimp only at g1 g2 g3 hm hst
        have HST := hide hst
        clear hst
        generalize cntTo l q k = n at *
        by_cases c1 : h = q
        · subst c1
          have hw1 : IntKind.i32.wrap (t - f) = t - f := by simp [IntKind.wrap, IntKind.bits, IntKind.signed]; omega
          have hw2 : IntKind.i64.wrap (t - f + 1) = t - f + 1 := by rw [IntKind.wrap_i64]; omega
          have hw3 : IntKind.i64.wrap (n + (t - f + 1)) = n + (t - f + 1) := by rw [IntKind.wrap_i64]; omega
          go_wp2
          go_roundw
          case rel => exact ⟨k + 1, by omega, by go_num, hg.alloc _, by rw [unhide HST, if_pos rfl]⟩
          case measure => simp [intOf]; omega
        · have c2 : (h == q) = false := by simpa using c1
          go_wp2
          go_roundw
          case rel => exact ⟨k + 1, by omega, by go_num, hg.alloc _, by rw [unhide HST, if_neg c1, Int.add_zero]⟩
          case measure => simp [intOf]; omega
      · have hzl : ¬ (k : Int) < (l.length : Int) := by omega
        have hkl : k = l.length := by omega
        go_wp2
        go_ret
        exact ⟨ret_int rfl, hg⟩
  · rw [cntT_no h0]
    rw [h0] at hck
    have HK := hide hck
    clear hck h0
    go_enter Try.func22, Try.ntmps22
    go_wp2_with (go_at_call 33; refine (unhide HK _ (Gr.refl _)).mono ?_; rintro e w1 ⟨rfl, hg1⟩)
    go_ret
    exact ⟨rfl, hg1⟩

set_option maxHeartbeats 400000 in
theorem count_none (a : Option Addr) (c : Nat) (q : Int) (w : World) :
    Calls Try.prog 22 #[.slice a 0 c, .int .i64 q] w fun e w' => e = .returned (.int .i64 0) ∧ Gr w w' := by
  go_enter Try.func22, Try.ntmps22
  go_wp2_with (go_at_call 33; refine (check_none a c _).mono ?_; rintro e w1 ⟨rfl, hg1⟩)
  refine wp_loop_rounds 1 ?_
  rw [rounds_succ]
  go_wp2
  go_ret
  exact ⟨rfl, hg1⟩

/-- Count: of any spans. -/
theorem count_any (v : Value) (l : List Sp) (q : Int) (w : World) (h : Tab w v l) :
    Calls Try.prog 22 #[v, .int .i64 q] w fun e w' => e = .returned (.int .i64 (cntT l q)) ∧ Gr w w' := by
  obtain ⟨a, c, rfl, h⟩ := h
  by_cases h0 : l.length = 0
  · obtain rfl : l = [] := List.length_eq_zero_iff.1 h0
    exact count_none a c q w
  · obtain ⟨b, o, rfl, hc⟩ := h (by omega)
    exact count_some b o c l q w hc

end Go.Proofs.Ytjoafogemjllhaa
