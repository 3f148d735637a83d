/- Contracts of Check and of the document's Check: what they answer of any spans. -/
import Derived.Test.YtnlkefdicpeemaaLeaf
import Derived.Test.YtnlkefdicpeemaaPlain
namespace Go.Proofs.Ytnlkefdicpeemaa
open Go.RowKit
open Go.Sort (grow)

set_option maxHeartbeats 800000 in
theorem check_some (b o c : Nat) (l : List Sp) (w : World) (hl : l.length ≤ 500) (hc : ∀ j, j < l.length →
    w.cell? ⟨b, o + j * 3, none⟩ = some (.int .i32 (l.getD j sp0).f) ∧ w.cell? ⟨b, o + j * 3 + 1, none⟩ = some (.int .i32 (l.getD j sp0).t) ∧ w.cell? ⟨b, o + j * 3 + 2, none⟩ = some (.int .i64 (l.getD j sp0).h)) :
    Calls Try.prog 9 #[.slice (some ⟨b, o, none⟩) l.length c] w fun e w' => e = .returned (.int .i64 (chk l)) ∧ Gr w w' := by
  have HC := hide hc
  clear hc
  have mx := mixed
  have hln : ¬ (500 : Int) < (l.length : Int) := by omega
  go_enter Try.func9, Try.ntmps9
  go_wp2
  go_loopw [10] (fun i wr => ∃ k : Nat, k ≤ l.length ∧ i = .int .i64 k ∧ Gr w wr ∧ Hid (okTo l k = true)) (fun i _ => l.length - (intOf i).toNat)
  case atStart => exact ⟨0, Nat.zero_le _, rfl, Gr.refl _, rfl⟩
  case round =>
    obtain ⟨k, hk, rfl, hg, HK⟩ := hrel
    by_cases hlt : k < l.length
    · have hzl : (k : Int) < (l.length : Int) := by omega
      have hz0 : (0 : Int) ≤ (k : Int) := by omega
      obtain ⟨g1, g2, g3⟩ := unhide HC k hlt
      replace g1 := hg.cell g1
      replace g2 := hg.cell g2
      replace g3 := hg.cell g3
      generalize hs : l.getD k sp0 = s at *
      obtain ⟨f, t, h⟩ := s
      have HS := hide hs
      clear hs
      dsimp only at g1 g2 g3
      have hmb := fun w => mayBe_any f t h w
      have bad : okAt l k = false → Hid (chk l = 20) := fun hb => chk_bad hlt hb
      have good : okAt l k = true → Hid (okTo l (k + 1) = true) := fun hb => by
        show okTo l (k + 1) = true
        simp only [okTo, Bool.and_eq_true]; exact ⟨unhide HK, hb⟩
      have hok : okAt l k = (mayS ⟨f, t, h⟩ && (decide (h ≠ 0) && (decide (k = 0) || folS (l.getD (k - 1) sp0) ⟨f, t, h⟩))) := by
        unfold okAt; rw [unhide HS]
      have HOK := hide hok
      have BAD := hide bad
      have GOOD := hide good
      clear hok bad good
      cases hm : mayS ⟨f, t, h⟩ <;> rw [hm] at hmb HOK
      · have HB : Hid (chk l = 20) := unhide BAD (by rw [unhide HOK]; rfl)
        have HMB := hide hmb
        clear hmb hm
        obtain ⟨a1, a2, a3⟩ := box3 wr (.int .i32 f) (.int .i32 t) (.int .i64 h) 37
        go_wp2
        replace a1 := cell_gr a1
        replace a2 := cell_gr a2
        replace a3 := cell_gr a3
        have wg := hg.alloc (.cells #[.int .i32 f, .int .i32 t, .int .i64 h] 37)
        generalize wr.alloc (.cells #[.int .i32 f, .int .i32 t, .int .i64 h] 37) = wq at *
        refine wp_region_quiet_grown (by first | exact mx | assumption) (by kernel_rfl) ?_
        repeat (go_big_quiet_step ((go_at_call 18; exact callsGr (unhide HMB _))))
        refine wpQuiet_nil ?_
        intro _ hw'
        obtain ⟨⟨nq, osq⟩, hw''⟩ := hw'
        subst hw''
        go_wp2
        go_ret
        exact ⟨ret_int (unhide HB).symm, wg.grow _ _⟩
      · have HMB := hide hmb
        have HM := hide hm
        clear hmb hm
        cases hh : (h == 0)
        · have hne : h ≠ 0 := by simpa using hh
          by_cases hk0 : k = 0
          · have HG := unhide GOOD (by rw [unhide HOK]; simp [hne, hk0])
            have d1 : decide ((k : Int) > 0) = false := decide_eq_false (by omega)
            have d2 : decide ((0 : Int) < (k : Int)) = false := decide_eq_false (by omega)
            have d3 : decide (0 < k) = false := decide_eq_false (by omega)
            clear hk0
            obtain ⟨a1, a2, a3⟩ := box3 wr (.int .i32 f) (.int .i32 t) (.int .i64 h) 37
            go_wp2
            replace a1 := cell_gr a1
            replace a2 := cell_gr a2
            replace a3 := cell_gr a3
            have wg := hg.alloc (.cells #[.int .i32 f, .int .i32 t, .int .i64 h] 37)
            generalize wr.alloc (.cells #[.int .i32 f, .int .i32 t, .int .i64 h] 37) = wq at *
            refine wp_region_quiet_grown (by first | exact mx | assumption) (by kernel_rfl) ?_
            repeat (go_big_quiet_step ((go_at_call 18; exact callsGr (unhide HMB _))))
            refine wpQuiet_nil ?_
            intro _ hw'
            obtain ⟨⟨nq, osq⟩, hw''⟩ := hw'
            subst hw''
            go_wp2
            go_roundw
            case rel => exact ⟨k + 1, by omega, by go_num, wg.grow _ _, HG⟩
            case measure => simp [intOf]; omega
          · obtain ⟨p1, p2, p3⟩ := unhide HC (k - 1) (by omega)
            have hpm := okAt_may (okTo_at (unhide HK) (k - 1) (by omega))
            replace p1 := (hg.alloc (.cells #[.int .i32 f, .int .i32 t, .int .i64 h] 37)).cell p1
            replace p2 := (hg.alloc (.cells #[.int .i32 f, .int .i32 t, .int .i64 h] 37)).cell p2
            replace p3 := (hg.alloc (.cells #[.int .i32 f, .int .i32 t, .int .i64 h] 37)).cell p3
            have hofs : ((k : Int) - 1).toNat = k - 1 := by omega
            have hwr : IntKind.i64.wrap ((k : Int) - 1) = (k : Int) - 1 := by rw [IntKind.wrap_i64]; omega
            have hgt : (0 : Int) < (k : Int) := by omega
            have d1 : decide ((k : Int) > 0) = true := decide_eq_true (by omega)
            have d2 : decide ((0 : Int) < (k : Int)) = true := decide_eq_true (by omega)
            have d3 : decide (0 < k) = true := decide_eq_true (by omega)
            have hge1 : (0 : Int) ≤ (k : Int) - 1 := by omega
            have hlt1 : (k : Int) - 1 < (l.length : Int) := by omega
            generalize l.getD (k - 1) sp0 = p at *
            obtain ⟨pf, pt, ph⟩ := p
            dsimp only at p1 p2 p3 hpm
            have hff := fun w => fol_any pf pt ph f t h w (by omega) (by omega)
            generalize k - 1 = k1 at *
            cases hf : folS ⟨pf, pt, ph⟩ ⟨f, t, h⟩ <;> rw [hf] at hff HOK
            · have HB : Hid (chk l = 20) := unhide BAD (by rw [unhide HOK]; simp [hk0])
              have HFF := hide hff
              clear hff hf
              obtain ⟨a1, a2, a3⟩ := box3 wr (.int .i32 f) (.int .i32 t) (.int .i64 h) 37
              go_wp2
              replace a1 := cell_gr a1
              replace a2 := cell_gr a2
              replace a3 := cell_gr a3
              replace p1 := cell_gr p1
              replace p2 := cell_gr p2
              replace p3 := cell_gr p3
              have wg := hg.alloc (.cells #[.int .i32 f, .int .i32 t, .int .i64 h] 37)
              generalize wr.alloc (.cells #[.int .i32 f, .int .i32 t, .int .i64 h] 37) = wq at *
              refine wp_region_quiet_grown (by first | exact mx | assumption) (by kernel_rfl) ?_
              repeat (go_big_quiet_step (first | (go_at_call 18; exact callsGr (unhide HMB _)) | (go_at_call 19; exact callsGr (unhide HFF _))))
              refine wpQuiet_nil ?_
              intro _ hw'
              obtain ⟨⟨nq, osq⟩, hw''⟩ := hw'
              subst hw''
              go_wp2
              go_ret
              exact ⟨ret_int (unhide HB).symm, wg.grow _ _⟩
            · have HG := unhide GOOD (by rw [unhide HOK]; simp [hne])
              have HFF := hide hff
              clear hff hf
              obtain ⟨a1, a2, a3⟩ := box3 wr (.int .i32 f) (.int .i32 t) (.int .i64 h) 37
              go_wp2
              replace a1 := cell_gr a1
              replace a2 := cell_gr a2
              replace a3 := cell_gr a3
              replace p1 := cell_gr p1
              replace p2 := cell_gr p2
              replace p3 := cell_gr p3
              have wg := hg.alloc (.cells #[.int .i32 f, .int .i32 t, .int .i64 h] 37)
              generalize wr.alloc (.cells #[.int .i32 f, .int .i32 t, .int .i64 h] 37) = wq at *
              refine wp_region_quiet_grown (by first | exact mx | assumption) (by kernel_rfl) ?_
              repeat (go_big_quiet_step (first | (go_at_call 18; exact callsGr (unhide HMB _)) | (go_at_call 19; exact callsGr (unhide HFF _))))
              refine wpQuiet_nil ?_
              intro _ hw'
              obtain ⟨⟨nq, osq⟩, hw''⟩ := hw'
              subst hw''
              go_wp2
              go_roundw
              case rel => exact ⟨k + 1, by omega, by go_num, wg.grow _ _, HG⟩
              case measure => simp [intOf]; omega
        · have h0 : h = 0 := by simpa using hh
          have HB : Hid (chk l = 20) := unhide BAD (by rw [unhide HOK]; simp [h0])
          clear HOK BAD GOOD HM hh
          subst h0
          obtain ⟨a1, a2, a3⟩ := box3 wr (.int .i32 f) (.int .i32 t) (.int .i64 0) 37
          go_wp2
          replace a1 := cell_gr a1
          replace a2 := cell_gr a2
          replace a3 := cell_gr a3
          have wg := hg.alloc (.cells #[.int .i32 f, .int .i32 t, .int .i64 0] 37)
          generalize wr.alloc (.cells #[.int .i32 f, .int .i32 t, .int .i64 0] 37) = wq at *
          refine wp_region_quiet_grown (by first | exact mx | assumption) (by kernel_rfl) ?_
          repeat (go_big_quiet_step ((go_at_call 18; exact callsGr (unhide HMB _))))
          refine wpQuiet_nil ?_
          intro _ hw'
          obtain ⟨⟨nq, osq⟩, hw''⟩ := hw'
          subst hw''
          go_wp2
          go_ret
          exact ⟨ret_int (unhide HB).symm, wg.grow _ _⟩
    · have hzl : ¬ (k : Int) < (l.length : Int) := by omega
      have hc0 := hide (chk_ok hl (by rw [show l.length = k by omega]; exact unhide HK))
      go_wp2
      go_ret
      exact ⟨ret_int (unhide hc0).symm, hg⟩

set_option maxHeartbeats 400000 in
theorem check_long (a : Option Addr) (n c : Nat) (w : World) (hl : 500 < n) :
    Calls Try.prog 9 #[.slice a n c] w fun e w' => e = .returned (.int .i64 20) ∧ Gr w w' := by
  have hln : (500 : Int) < (n : Int) := by omega
  go_enter Try.func9, Try.ntmps9
  go_wp2
  go_ret
  exact ⟨rfl, Gr.refl _⟩

set_option maxHeartbeats 400000 in
theorem check_none (a : Option Addr) (c : Nat) (w : World) :
    Calls Try.prog 9 #[.slice a 0 c] w fun e w' => e = .returned (.int .i64 0) ∧ Gr w w' := by
  go_enter Try.func9, Try.ntmps9
  go_wp2
  refine wp_loop_rounds 1 ?_
  rw [rounds_succ]
  go_wp2
  go_ret
  exact ⟨rfl, Gr.refl _⟩

/-- Check: of any spans. -/
theorem check_any (v : Value) (l : List Sp) (w : World) (h : Tab w v l) :
    Calls Try.prog 9 #[v] w fun e w' => e = .returned (.int .i64 (chk l)) ∧ Gr w w' := by
  obtain ⟨a, c, rfl, h⟩ := h
  by_cases h5 : 500 < l.length
  · rw [chk_long h5]; exact check_long a _ c w h5
  · by_cases h0 : l.length = 0
    · obtain rfl : l = [] := List.length_eq_zero_iff.1 h0
      exact check_none a c w
    · obtain ⟨b, o, rfl, hc⟩ := h (by omega)
      exact check_some b o c l w (by omega) hc

set_option maxHeartbeats 800000 in
theorem rcheck_some (b o c : Nat) (l : List Sp) (w : World) (hl : l.length ≤ 500) (hc : ∀ j, j < l.length →
    w.cell? ⟨b, o + j * 3, none⟩ = some (.int .i32 (l.getD j sp0).f) ∧ w.cell? ⟨b, o + j * 3 + 1, none⟩ = some (.int .i32 (l.getD j sp0).t) ∧ w.cell? ⟨b, o + j * 3 + 2, none⟩ = some (.int .i64 (l.getD j sp0).h)) :
    Calls Try.prog 10 #[.slice (some ⟨b, o, none⟩) l.length c] w fun e w' => e = .returned (.int .i64 (chk l)) ∧ Gr w w' := by
  have HC := hide hc
  clear hc
  have mx := mixed
  have hln : ¬ (500 : Int) < (l.length : Int) := by omega
  go_enter Try.func10, Try.ntmps10
  go_wp2
  go_loopw [3] (fun i wr => ∃ k : Nat, k ≤ l.length ∧ i = .int .i64 k ∧ Gr w wr ∧ Hid (okTo l k = true)) (fun i _ => l.length - (intOf i).toNat)
  case atStart => exact ⟨0, Nat.zero_le _, rfl, Gr.refl _, rfl⟩
  case round =>
    obtain ⟨k, hk, rfl, hg, HK⟩ := hrel
    by_cases hlt : k < l.length
    · have hzl : (k : Int) < (l.length : Int) := by omega
      have hz0 : (0 : Int) ≤ (k : Int) := by omega
      obtain ⟨g1, g2, g3⟩ := unhide HC k hlt
      replace g1 := hg.cell g1
      replace g2 := hg.cell g2
      replace g3 := hg.cell g3
      generalize hs : l.getD k sp0 = s at *
      obtain ⟨f, t, h⟩ := s
      have HS := hide hs
      clear hs
      dsimp only at g1 g2 g3
      have hmb := fun w => may_any f t h w
      have bad : okAt l k = false → Hid (chk l = 20) := fun hb => chk_bad hlt hb
      have good : okAt l k = true → Hid (okTo l (k + 1) = true) := fun hb => by
        show okTo l (k + 1) = true
        simp only [okTo, Bool.and_eq_true]; exact ⟨unhide HK, hb⟩
      have hok : okAt l k = (mayS ⟨f, t, h⟩ && (decide (h ≠ 0) && (decide (k = 0) || folS (l.getD (k - 1) sp0) ⟨f, t, h⟩))) := by
        unfold okAt; rw [unhide HS]
      have HOK := hide hok
      have BAD := hide bad
      have GOOD := hide good
      clear hok bad good
      cases hm : mayS ⟨f, t, h⟩ <;> rw [hm] at hmb HOK
      · have HB : Hid (chk l = 20) := unhide BAD (by rw [unhide HOK]; rfl)
        have HMB := hide hmb
        clear hmb hm
        go_wp2_with (go_at_call 20; refine (unhide HMB _).mono ?_; rintro e w' ⟨rfl, hg2⟩)
        go_ret
        exact ⟨ret_int (unhide HB).symm, hg.trans hg2⟩
      · have HMB := hide hmb
        have hmm := (mayS_iff _).1 hm
        dsimp only at hmm
        clear hmb hm
        cases hh : (h == 0)
        · have hne : h ≠ 0 := by simpa using hh
          by_cases hk0 : k = 0
          · have HG := unhide GOOD (by rw [unhide HOK]; simp [hne, hk0])
            have d1 : ((k : Int) == 0) = true := by simp [hk0]
            have HK0 := hide hk0
            clear hk0
            go_wp2_with (go_at_call 20; refine (unhide HMB _).mono ?_; rintro e w' ⟨rfl, hg2⟩; have g4 := hg2.cell g3)
            exact ⟨⟨k + 1, by omega, by go_num, hg.trans hg2, HG⟩, by simp [intOf]; omega⟩
          · obtain ⟨p1, p2, p3⟩ := unhide HC (k - 1) (by omega)
            have hpm := okAt_may (okTo_at (unhide HK) (k - 1) (by omega))
            have hofs : ((k : Int) - 1).toNat = k - 1 := by omega
            have hwr : IntKind.i64.wrap ((k : Int) - 1) = (k : Int) - 1 := by rw [IntKind.wrap_i64]; omega
            have hgt : (0 : Int) < (k : Int) := by omega
            have d1 : ((k : Int) == 0) = false := by simp; omega
            have hge1 : (0 : Int) ≤ (k : Int) - 1 := by omega
            have hlt1 : (k : Int) - 1 < (l.length : Int) := by omega
            generalize l.getD (k - 1) sp0 = p at *
            obtain ⟨pf, pt, ph⟩ := p
            dsimp only at p1 p2 p3 hpm
            generalize k - 1 = k1 at *
            replace p1 := hg.cell p1
            replace p2 := hg.cell p2
            replace p3 := hg.cell p3
            have hwg : IntKind.i32.wrap (f - pt) = f - pt := by simp [IntKind.wrap, IntKind.bits, IntKind.signed]; omega
            have hfs : folS ⟨pf, pt, ph⟩ ⟨f, t, h⟩ = (decide (pt < f) && !(decide (f = pt + 1) && decide (h = ph))) := by
              simp only [folS, joinS, Bool.decide_and]
            have HFS := hide hfs
            clear hfs
            have hke := hk0
            clear hk0
            by_cases c1 : f - pt < 1
            · have HB : Hid (chk l = 20) := unhide BAD (by rw [unhide HOK, unhide HFS]; simp [hke]; omega)
              clear hke
              have e1 : decide (f - pt < 1) = true := decide_eq_true c1
              go_wp2_with (go_at_call 20; refine (unhide HMB _).mono ?_; rintro e w' ⟨rfl, hg2⟩; replace g1 := hg2.cell g1; replace g3 := hg2.cell g3; replace p2 := hg2.cell p2; replace p3 := hg2.cell p3)
              go_quiet (fail)
              go_wp2
              go_quiet (fail)
              go_wp2
              go_ret
              exact ⟨ret_int (unhide HB).symm, ((hg.trans hg2).drewN _).drewN _⟩
            · have e1 : decide (f - pt < 1) = false := decide_eq_false c1
              cases c2 : (f - pt == 1)
              · have c2' : f - pt ≠ 1 := by simpa using c2
                have HG := unhide GOOD (by rw [unhide HOK, unhide HFS]; simp [hne]; right; omega)
                clear hke c2'
                go_wp2_with (go_at_call 20; refine (unhide HMB _).mono ?_; rintro e w' ⟨rfl, hg2⟩; replace g1 := hg2.cell g1; replace g3 := hg2.cell g3; replace p2 := hg2.cell p2; replace p3 := hg2.cell p3)
                go_quiet (fail)
                go_wp2
                go_quiet (fail)
                go_wp2
                go_roundw
                case rel => exact ⟨k + 1, by omega, by go_num, (hg.trans hg2).drewN _, HG⟩
                case measure => simp [intOf]; omega
              · have c2' : f - pt = 1 := by simpa using c2
                cases c3 : (h == ph)
                · have c3' : h ≠ ph := by simpa using c3
                  have HG := unhide GOOD (by rw [unhide HOK, unhide HFS]; simp [hne, c3']; right; omega)
                  clear hke c2'
                  go_wp2_with (go_at_call 20; refine (unhide HMB _).mono ?_; rintro e w' ⟨rfl, hg2⟩; replace g1 := hg2.cell g1; replace g3 := hg2.cell g3; replace p2 := hg2.cell p2; replace p3 := hg2.cell p3)
                  go_quiet (fail)
                  go_wp2
                  go_quiet (fail)
                  go_wp2
                  go_roundw
                  case rel => exact ⟨k + 1, by omega, by go_num, (hg.trans hg2).drewN _, HG⟩
                  case measure => simp [intOf]; omega
                · have c3' : h = ph := by simpa using c3
                  have HB : Hid (chk l = 20) := unhide BAD (by rw [unhide HOK, unhide HFS]; simp [hke, c3']; omega)
                  clear hke c2' c3'
                  go_wp2_with (go_at_call 20; refine (unhide HMB _).mono ?_; rintro e w' ⟨rfl, hg2⟩; replace g1 := hg2.cell g1; replace g3 := hg2.cell g3; replace p2 := hg2.cell p2; replace p3 := hg2.cell p3)
                  go_quiet (fail)
                  go_wp2
                  go_quiet (fail)
                  go_wp2
                  go_ret
                  exact ⟨ret_int (unhide HB).symm, ((hg.trans hg2).drewN _).drewN _⟩
        · have h0 : h = 0 := by simpa using hh
          have HB : Hid (chk l = 20) := unhide BAD (by rw [unhide HOK]; simp [h0])
          clear HOK BAD GOOD hh
          subst h0
          go_wp2_with (go_at_call 20; refine (unhide HMB _).mono ?_; rintro e w' ⟨rfl, hg2⟩; replace g3 := hg2.cell g3)
          go_ret
          exact ⟨ret_int (unhide HB).symm, hg.trans hg2⟩
    · have hzl : ¬ (k : Int) < (l.length : Int) := by omega
      have hc0 := hide (chk_ok hl (by rw [show l.length = k by omega]; exact unhide HK))
      go_wp2
      go_ret
      exact ⟨ret_int (unhide hc0).symm, hg⟩

set_option maxHeartbeats 400000 in
theorem rcheck_long (a : Option Addr) (n c : Nat) (w : World) (hl : 500 < n) :
    Calls Try.prog 10 #[.slice a n c] w fun e w' => e = .returned (.int .i64 20) ∧ Gr w w' := by
  have hln : (500 : Int) < (n : Int) := by omega
  go_enter Try.func10, Try.ntmps10
  go_wp2
  go_ret
  exact ⟨rfl, Gr.refl _⟩

set_option maxHeartbeats 400000 in
theorem rcheck_none (a : Option Addr) (c : Nat) (w : World) :
    Calls Try.prog 10 #[.slice a 0 c] w fun e w' => e = .returned (.int .i64 0) ∧ Gr w w' := by
  go_enter Try.func10, Try.ntmps10
  go_wp2
  refine wp_loop_rounds 1 ?_
  rw [rounds_succ]
  go_wp2
  go_ret
  exact ⟨rfl, Gr.refl _⟩

/-- The document's Check: of any spans. -/
theorem rcheck_any (v : Value) (l : List Sp) (w : World) (h : Tab w v l) :
    Calls Try.prog 10 #[v] w fun e w' => e = .returned (.int .i64 (chk l)) ∧ Gr w w' := by
  obtain ⟨a, c, rfl, h⟩ := h
  by_cases h5 : 500 < l.length
  · rw [chk_long h5]; exact rcheck_long a _ c w h5
  · by_cases h0 : l.length = 0
    · obtain rfl : l = [] := List.length_eq_zero_iff.1 h0
      exact rcheck_none a c w
    · obtain ⟨b, o, rfl, hc⟩ := h (by omega)
      exact rcheck_some b o c l w (by omega) hc
end Go.Proofs.Ytnlkefdicpeemaa
