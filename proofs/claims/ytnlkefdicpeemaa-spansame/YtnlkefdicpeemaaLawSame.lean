/- The law SpanSame. -/
import Derived.Test.YtnlkefdicpeemaaAwake
import Derived.Test.YtnlkefdicpeemaaMath
namespace Go.Proofs.Ytnlkefdicpeemaa
open Go.RowKit

set_option maxRecDepth 100000 in
set_option maxHeartbeats 4000000 in
theorem same_tabs (b1 o1 c1 b2 o2 c2 : Nat) (a b : List Sp) (a1 a2 : Option Addr) (w : World) (ha : chk a = 0) (hb : chk b = 0) (hT1 : Tab w (.slice a1 a.length c1) a) (hT2 : Tab w (.slice a2 b.length c2) b)
    (e1 : 0 < a.length → a1 = some ⟨b1, o1, none⟩) (e2 : 0 < b.length → a2 = some ⟨b2, o2, none⟩)
    (hc1 : ∀ j, j < a.length → w.cell? ⟨b1, o1 + j * 3, none⟩ = some (.int .i32 (a.getD j sp0).f) ∧ w.cell? ⟨b1, o1 + j * 3 + 1, none⟩ = some (.int .i32 (a.getD j sp0).t) ∧ w.cell? ⟨b1, o1 + j * 3 + 2, none⟩ = some (.int .i64 (a.getD j sp0).h))
    (hc2 : ∀ j, j < b.length → w.cell? ⟨b2, o2 + j * 3, none⟩ = some (.int .i32 (b.getD j sp0).f) ∧ w.cell? ⟨b2, o2 + j * 3 + 1, none⟩ = some (.int .i32 (b.getD j sp0).t) ∧ w.cell? ⟨b2, o2 + j * 3 + 2, none⟩ = some (.int .i64 (b.getD j sp0).h)) :
    Calls Try.prog 7 #[.slice a1 a.length c1, .slice a2 b.length c2] w fun e w' => e = .returned (.bool true) ∧ Below w.heap.size w w' := by
  have mx := mixed
  have HC1 := hide hc1
  have HC2 := hide hc2
  have HFA := hide (fun r W (hW : Gr w W) => find_any _ a r W (hW.tab hT1))
  have HFB := hide (fun r W (hW : Gr w W) => find_any _ b r W (hW.tab hT2))
  have HKA : Hid (∀ W, Gr w W → Calls Try.prog 9 #[.slice a1 a.length c1] W fun e w' => e = .returned (.int .i64 0) ∧ Gr W w') := fun W hW => by rw [← ha]; exact check_any _ a W (hW.tab hT1)
  have HKB : Hid (∀ W, Gr w W → Calls Try.prog 9 #[.slice a2 b.length c2] W fun e w' => e = .returned (.int .i64 0) ∧ Gr W w') := fun W hW => by rw [← hb]; exact check_any _ b W (hW.tab hT2)
  have hla := (chk_zero ha).1
  have hlb := (chk_zero hb).1
  have HTA := hide (chk_zero ha).2
  have HTB := hide (chk_zero hb).2
  have HSM := hide (fun W (hW : Gr w W) => rsame_any _ _ a b W (hW.tab hT1) (hW.tab hT2) (by omega))
  have HIFF := hide (same_iff ha hb)
  have HA := hide awake_any
  have hz1 : ¬ (500 : Int) < (a.length : Int) := by omega
  have hz2 : ¬ (500 : Int) < (b.length : Int) := by omega
  clear hc1 hc2 hT1 hT2 ha hb
  go_enter Try.func7, Try.ntmps7
  go_wp2_with (first
    | (go_at_call_of 9 (c1); refine (unhide HKA _ (Gr.refl _)).mono ?_; rintro e w1 ⟨rfl, g1⟩)
    | (go_at_call_of 9 (c2); refine (unhide HKB _ g1).mono ?_; rintro e w2 ⟨rfl, g2⟩; replace g2 := g1.trans g2))
  clear HKA HKB
  go_loopw [5, 6] (fun m i wr => ∃ k : Nat, k ≤ a.length ∧ i = .int .i64 k ∧ m = .bool (smTo a b k) ∧ Gr w wr) (fun _ i _ => a.length - (intOf i).toNat)
  case atStart => exact ⟨0, Nat.zero_le _, rfl, rfl, g2⟩
  case round =>
    obtain ⟨k, hk, rfl, rfl, hg⟩ := hrel
    by_cases hlt : k < a.length
    · have hae := e1 (by omega)
      subst hae
      have hzl : (k : Int) < (a.length : Int) := by omega
      have hz0 : (0 : Int) ≤ (k : Int) := by omega
      obtain ⟨p1, p2, p3⟩ := unhide HC1 k hlt
      replace p1 := cell_gr (hg.cell p1)
      replace p2 := cell_gr (hg.cell p2)
      replace p3 := cell_gr (hg.cell p3)
      have hmm := okAt_may (okTo_at (unhide HTA) k hlt)
      have hst : (smTo a b (k + 1)) = (smTo a b k && (fndT b (a.getD k sp0).f == (a.getD k sp0).h) && (fndT b (a.getD k sp0).t == (a.getD k sp0).h) && (fndT b ((a.getD k sp0).t + 1) == fndT a ((a.getD k sp0).t + 1))) := rfl
      generalize a.getD k sp0 = s at *
      obtain ⟨f, t, h⟩ := s
      dsimp only at p1 p2 p3 hmm hst
      have hw1 : IntKind.i32.wrap (t + 1) = t + 1 := by simp [IntKind.wrap, IntKind.bits, IntKind.signed]; omega
      have H1 := hide (fun n os => unhide HFB f _ (hg.grow n os))
      have H2 := hide (fun n os => unhide HFB t _ (hg.grow n os))
      have H3 := hide (fun n os => unhide HFB (t + 1) _ (hg.grow n os))
      have H4 := hide (fun n os => unhide HFA (t + 1) _ (hg.grow n os))
      generalize fndT b f = X1 at *
      generalize fndT b t = X2 at *
      generalize fndT b (t + 1) = X3 at *
      generalize fndT a (t + 1) = X4 at *
      have HST := hide hst
      clear hst
      obtain ⟨hm1, hm2, hm3⟩ := hmm
      have hm4 : -2147483648 ≤ t + 1 := by omega
      have hm5 : t + 1 ≤ 2147483647 := by omega
      cases hm0 : (smTo a b k)
      · rw [hm0] at HST
        clear hm0
        go_wp2
        refine wp_region_quiet_grown (by first | exact mx | assumption) (by kernel_rfl) ?_
        repeat (go_big_quiet_step (fail))
        refine wpQuiet_nil ?_
        intro _ hw'
        obtain ⟨⟨nq, osq⟩, hw''⟩ := hw'
        subst hw''
        go_wp2
        go_roundw
        case rel => exact ⟨k + 1, by omega, by go_num, by rw [unhide HST]; rfl, hg.grow _ _⟩
        case measure => simp [intOf]; omega
      · rw [hm0] at HST
        clear hm0
        cases hx1 : (X1 == h)
        · rw [hx1] at HST
          go_wp2
          refine wp_region_quiet_grown (by first | exact mx | assumption) (by kernel_rfl) ?_
          repeat (go_big_quiet_step (first | (go_at_call_of 11 (t); exact callsGr (unhide H2 _ _)) | (go_at_call_of 11 (f); exact callsGr (unhide H1 _ _))))
          refine wpQuiet_nil ?_
          intro _ hw'
          obtain ⟨⟨nq, osq⟩, hw''⟩ := hw'
          subst hw''
          go_wp2
          go_roundw
          case rel => exact ⟨k + 1, by omega, by go_num, by rw [unhide HST]; rfl, hg.grow _ _⟩
          case measure => simp [intOf]; omega
        · rw [hx1] at HST
          cases hx2 : (X2 == h)
          · rw [hx2] at HST
            go_wp2
            refine wp_region_quiet_grown (by first | exact mx | assumption) (by kernel_rfl) ?_
            repeat (go_big_quiet_step (first | (go_at_call_of 11 (t); exact callsGr (unhide H2 _ _)) | (go_at_call_of 11 (f); exact callsGr (unhide H1 _ _))))
            refine wpQuiet_nil ?_
            intro _ hw'
            obtain ⟨⟨nq, osq⟩, hw''⟩ := hw'
            subst hw''
            go_wp2
            go_roundw
            case rel => exact ⟨k + 1, by omega, by go_num, by rw [unhide HST]; rfl, hg.grow _ _⟩
            case measure => simp [intOf]; omega
          · rw [hx2] at HST
            go_wp2
            refine wp_region_quiet_grown (by assumption) (by kernel_rfl) ?_
            repeat (go_big_quiet_step (first | (go_at_call_of 11 (f); exact callsGr (unhide H1 _ _))))
            go_big_quiet_step (exact callsGr (unhide H2 _ _))
            repeat (go_big_quiet_step (fail))
            go_big_quiet_step (exact callsGr (unhide H3 _ _))
            repeat (go_big_quiet_step (fail))
            go_big_quiet_step (exact callsGr (unhide H4 _ _))
            repeat (go_big_quiet_step (fail))
            refine wpQuiet_nil ?_
            intro _ hw'
            obtain ⟨⟨nq, osq⟩, hw''⟩ := hw'
            subst hw''
            go_wp2
            go_roundw
            case rel => exact ⟨k + 1, by omega, by go_num, by rw [unhide HST]; rfl, hg.grow _ _⟩
            case measure => simp [intOf]; omega
    · have hzl : ¬ (k : Int) < (a.length : Int) := by omega
      obtain ⟨k1, hk1⟩ : ∃ k1, k1 = k := ⟨_, rfl⟩
      rw [← hk1] at hlt hk hzl ⊢
      clear hk1
      go_wp2
      go_loopw [5, 7] (fun m i wr => ∃ k : Nat, k ≤ b.length ∧ i = .int .i64 k ∧ m = .bool (smTo a b a.length && smTo b a k) ∧ Gr w wr) (fun _ i _ => b.length - (intOf i).toNat)
      case atStart => exact ⟨0, Nat.zero_le _, rfl, by simp [smTo, show k1 = a.length by omega], hg⟩
      case round =>
        obtain ⟨k, hk, rfl, rfl, hg⟩ := hrel
        by_cases hlt : k < b.length
        · have hae := e2 (by omega)
          subst hae
          have hzl : (k : Int) < (b.length : Int) := by omega
          have hz0 : (0 : Int) ≤ (k : Int) := by omega
          obtain ⟨p1, p2, p3⟩ := unhide HC2 k hlt
          replace p1 := cell_gr (hg.cell p1)
          replace p2 := cell_gr (hg.cell p2)
          replace p3 := cell_gr (hg.cell p3)
          have hmm := okAt_may (okTo_at (unhide HTB) k hlt)
          have hst : (smTo a b a.length && smTo b a (k + 1)) = (smTo a b a.length && smTo b a k && (fndT a (b.getD k sp0).f == (b.getD k sp0).h) && (fndT a (b.getD k sp0).t == (b.getD k sp0).h) && (fndT a ((b.getD k sp0).t + 1) == fndT b ((b.getD k sp0).t + 1))) := by simp only [smTo]; simp only [Bool.and_assoc]
          generalize b.getD k sp0 = s at *
          obtain ⟨f, t, h⟩ := s
          dsimp only at p1 p2 p3 hmm hst
          have hw1 : IntKind.i32.wrap (t + 1) = t + 1 := by simp [IntKind.wrap, IntKind.bits, IntKind.signed]; omega
          have H1 := hide (fun n os => unhide HFA f _ (hg.grow n os))
          have H2 := hide (fun n os => unhide HFA t _ (hg.grow n os))
          have H3 := hide (fun n os => unhide HFA (t + 1) _ (hg.grow n os))
          have H4 := hide (fun n os => unhide HFB (t + 1) _ (hg.grow n os))
          generalize fndT a f = X1 at *
          generalize fndT a t = X2 at *
          generalize fndT a (t + 1) = X3 at *
          generalize fndT b (t + 1) = X4 at *
          have HST := hide hst
          clear hst
          obtain ⟨hm1, hm2, hm3⟩ := hmm
          have hm4 : -2147483648 ≤ t + 1 := by omega
          have hm5 : t + 1 ≤ 2147483647 := by omega
          cases hm0 : (smTo a b a.length && smTo b a k)
          · rw [hm0] at HST
            clear hm0
            go_wp2
            refine wp_region_quiet_grown (by first | exact mx | assumption) (by kernel_rfl) ?_
            repeat (go_big_quiet_step (fail))
            refine wpQuiet_nil ?_
            intro _ hw'
            obtain ⟨⟨nq, osq⟩, hw''⟩ := hw'
            subst hw''
            go_wp2
            go_roundw
            case rel => exact ⟨k + 1, by omega, by go_num, by rw [unhide HST]; rfl, hg.grow _ _⟩
            case measure => simp [intOf]; omega
          · rw [hm0] at HST
            clear hm0
            cases hx1 : (X1 == h)
            · rw [hx1] at HST
              go_wp2
              refine wp_region_quiet_grown (by first | exact mx | assumption) (by kernel_rfl) ?_
              repeat (go_big_quiet_step (first | (go_at_call_of 11 (t); exact callsGr (unhide H2 _ _)) | (go_at_call_of 11 (f); exact callsGr (unhide H1 _ _))))
              refine wpQuiet_nil ?_
              intro _ hw'
              obtain ⟨⟨nq, osq⟩, hw''⟩ := hw'
              subst hw''
              go_wp2
              go_roundw
              case rel => exact ⟨k + 1, by omega, by go_num, by rw [unhide HST]; rfl, hg.grow _ _⟩
              case measure => simp [intOf]; omega
            · rw [hx1] at HST
              cases hx2 : (X2 == h)
              · rw [hx2] at HST
                go_wp2
                refine wp_region_quiet_grown (by first | exact mx | assumption) (by kernel_rfl) ?_
                repeat (go_big_quiet_step (first | (go_at_call_of 11 (t); exact callsGr (unhide H2 _ _)) | (go_at_call_of 11 (f); exact callsGr (unhide H1 _ _))))
                refine wpQuiet_nil ?_
                intro _ hw'
                obtain ⟨⟨nq, osq⟩, hw''⟩ := hw'
                subst hw''
                go_wp2
                go_roundw
                case rel => exact ⟨k + 1, by omega, by go_num, by rw [unhide HST]; rfl, hg.grow _ _⟩
                case measure => simp [intOf]; omega
              · rw [hx2] at HST
                go_wp2
                refine wp_region_quiet_grown (by assumption) (by kernel_rfl) ?_
                repeat (go_big_quiet_step (first | (go_at_call_of 11 (f); exact callsGr (unhide H1 _ _))))
                go_big_quiet_step (exact callsGr (unhide H2 _ _))
                repeat (go_big_quiet_step (fail))
                go_big_quiet_step (exact callsGr (unhide H3 _ _))
                repeat (go_big_quiet_step (fail))
                go_big_quiet_step (exact callsGr (unhide H4 _ _))
                repeat (go_big_quiet_step (fail))
                refine wpQuiet_nil ?_
                intro _ hw'
                obtain ⟨⟨nq, osq⟩, hw''⟩ := hw'
                subst hw''
                go_wp2
                go_roundw
                case rel => exact ⟨k + 1, by omega, by go_num, by rw [unhide HST]; rfl, hg.grow _ _⟩
                case measure => simp [intOf]; omega
        · have hzl2 : ¬ (k : Int) < (b.length : Int) := by omega
          have hkb : k = b.length := by omega
          have hX : (smTo a b a.length && smTo b a k) = eqL a b := by rw [hkb]; exact unhide HIFF
          rw [hX]
          generalize eqL a b = X at *
          clear hX hkb
          go_wp2_with (first
            | (go_at_call 17; refine (unhide HSM _ hg).mono ?_; rintro e w3 ⟨rfl, g3⟩; replace g3 := hg.trans g3)
            | (go_at_call 8; refine (unhide HA _).mono ?_; rintro e w4 ⟨rfl, hb4⟩))
          go_ret
          exact ⟨rfl, g3.below.trans (hb4.mono g3.size)⟩

set_option maxRecDepth 100000 in
set_option maxHeartbeats 1600000 in
theorem same_no (a b : List Sp) (a1 a2 : Option Addr) (c1 c2 : Nat) (w : World) (hno : chk a ≠ 0 ∨ chk b ≠ 0) (hT1 : Tab w (.slice a1 a.length c1) a) (hT2 : Tab w (.slice a2 b.length c2) b) :
    Calls Try.prog 7 #[.slice a1 a.length c1, .slice a2 b.length c2] w fun e w' => e = .returned (.bool true) ∧ Below w.heap.size w w' := by
  have HKA := hide (fun W (hW : Gr w W) => check_any _ a W (hW.tab hT1))
  have HKB := hide (fun W (hW : Gr w W) => check_any _ b W (hW.tab hT2))
  have HA := hide awake_any
  clear hT1 hT2
  by_cases hl1 : a.length ≤ 500
  · have hz1 : ¬ (500 : Int) < (a.length : Int) := by omega
    by_cases hl2 : b.length ≤ 500
    · have hz2 : ¬ (500 : Int) < (b.length : Int) := by omega
      rcases chk_two a with h0 | h0
      · have h1 : chk b = 20 := by
          rcases chk_two b with h1 | h1
          · omega
          · exact h1
        rw [h0] at HKA
        rw [h1] at HKB
        clear h0 h1 hno
        go_enter Try.func7, Try.ntmps7
        go_wp2_with (first
          | (go_at_call_of 9 (c1); refine (unhide HKA _ (Gr.refl _)).mono ?_; rintro e w1 ⟨rfl, g1⟩)
          | (go_at_call_of 9 (c2); refine (unhide HKB _ g1).mono ?_; rintro e w2 ⟨rfl, g2⟩; replace g2 := g1.trans g2)
          | (go_at_call 8; refine (unhide HA _).mono ?_; rintro e w4 ⟨rfl, hb4⟩))
        go_ret
        exact ⟨rfl, g2.below.trans (hb4.mono g2.size)⟩
      · rw [h0] at HKA
        clear h0 hno
        go_enter Try.func7, Try.ntmps7
        go_wp2_with (first
          | (go_at_call_of 9 (c1); refine (unhide HKA _ (Gr.refl _)).mono ?_; rintro e w1 ⟨rfl, g1⟩)
          | (go_at_call 8; refine (unhide HA _).mono ?_; rintro e w4 ⟨rfl, hb4⟩))
        go_ret
        exact ⟨rfl, g1.below.trans (hb4.mono g1.size)⟩
    · have hz2 : (500 : Int) < (b.length : Int) := by omega
      go_enter Try.func7, Try.ntmps7
      go_wp2_with (go_at_call 8; refine (unhide HA _).mono ?_; rintro e w4 ⟨rfl, hb4⟩)
      go_ret
      exact ⟨rfl, hb4⟩
  · have hz1 : (500 : Int) < (a.length : Int) := by omega
    go_enter Try.func7, Try.ntmps7
    go_wp2_with (go_at_call 8; refine (unhide HA _).mono ?_; rintro e w4 ⟨rfl, hb4⟩)
    go_ret
    exact ⟨rfl, hb4⟩

/-- The law SpanSame. -/
theorem same_law (v1 v2 : Value) (a b : List Sp) (w : World) (h1 : Tab w v1 a) (h2 : Tab w v2 b) :
    Calls Try.prog 7 #[v1, v2] w fun e w' => e = .returned (.bool true) ∧ Below w.heap.size w w' := by
  obtain ⟨a1, c1, rfl, g1⟩ := h1
  obtain ⟨a2, c2, rfl, g2⟩ := h2
  by_cases hno : chk a ≠ 0 ∨ chk b ≠ 0
  · exact same_no a b a1 a2 c1 c2 w hno ⟨_, _, rfl, g1⟩ ⟨_, _, rfl, g2⟩
  · have ha : chk a = 0 := by
      rcases chk_two a with h | h
      · exact h
      · exact absurd (.inl (by omega)) hno
    have hb : chk b = 0 := by
      rcases chk_two b with h | h
      · exact h
      · exact absurd (.inr (by omega)) hno
    have ex : ∀ (x : Option Addr) (l : List Sp), (0 < l.length → ∃ b off, x = some ⟨b, off, none⟩ ∧ ∀ j, j < l.length → w.cell? ⟨b, off + j * 3, none⟩ = some (.int .i32 (l.getD j sp0).f) ∧ w.cell? ⟨b, off + j * 3 + 1, none⟩ = some (.int .i32 (l.getD j sp0).t) ∧ w.cell? ⟨b, off + j * 3 + 2, none⟩ = some (.int .i64 (l.getD j sp0).h)) → ∃ b off, (0 < l.length → x = some ⟨b, off, none⟩) ∧ ∀ j, j < l.length → w.cell? ⟨b, off + j * 3, none⟩ = some (.int .i32 (l.getD j sp0).f) ∧ w.cell? ⟨b, off + j * 3 + 1, none⟩ = some (.int .i32 (l.getD j sp0).t) ∧ w.cell? ⟨b, off + j * 3 + 2, none⟩ = some (.int .i64 (l.getD j sp0).h) := fun x l hx => by
      by_cases h0 : 0 < l.length
      · obtain ⟨p, q, r, s⟩ := hx h0
        exact ⟨p, q, fun _ => r, s⟩
      · exact ⟨0, 0, fun h => absurd h h0, fun j hj => by omega⟩
    obtain ⟨p1, q1, r1, s1⟩ := ex a1 a g1
    obtain ⟨p2, q2, r2, s2⟩ := ex a2 b g2
    exact same_tabs p1 q1 c1 p2 q2 c2 a b a1 a2 w ha hb ⟨_, _, rfl, g1⟩ ⟨_, _, rfl, g2⟩ r1 r2 s1 s2
end Go.Proofs.Ytnlkefdicpeemaa
