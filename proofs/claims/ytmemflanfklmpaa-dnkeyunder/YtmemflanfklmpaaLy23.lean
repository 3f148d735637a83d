/- The law DnkeyUnder of layer 23, out of the landed contracts. -/
import Derived.Test.YtmemflanfklmpaaLx23
import Derived.Deep.RegionHeld3
import Derived.Deep.Cut
import Derived.Deep.CutRange
namespace Go.Proofs.Ytmemflanfklmpaa
open Go.RowKit

theorem emp23 {s : ByteArray} (h : s.size = 0) : s = ⟨#[]⟩ := by
  rw [← ofb_bts s, List.eq_nil_of_length_eq_zero (l := bts s) (by rw [bts_len]; exact h)]
theorem nem23 {s : ByteArray} (h : s.size ≠ 0) : s.toList.isEmpty = false ∧ ¬ s.toList = [] := by
  rw [Lib.toList_data]
  have := bts_len s
  cases e : s.data.toList with
  | nil => exact absurd (by rw [← this]; show s.data.toList.length = 0; rw [e]; rfl) h
  | cons c t => exact ⟨rfl, by simp⟩
theorem tri23 (x y : List UInt8) : (Op.bytesLess x y = true ∧ Op.bytesLess y x = false ∧ ¬ x = y) ∨ x = y ∨ (Op.bytesLess x y = false ∧ Op.bytesLess y x = true ∧ ¬ x = y) := by
  by_cases e : x = y
  · exact .inr (.inl e)
  · cases h1 : Op.bytesLess x y
    · cases h2 : Op.bytesLess y x
      · exfalso
        apply e
        have p1 := List.isPrefixOf_iff_prefix.1 (between_pre x [] y h2 (by rw [List.append_nil]; exact h1))
        have p2 := List.isPrefixOf_iff_prefix.1 (between_pre y [] x h1 (by rw [List.append_nil]; exact h2))
        exact List.IsPrefix.eq_of_length p1 (Nat.le_antisymm p1.length_le p2.length_le)
      · exact .inr (.inr ⟨rfl, rfl, e⟩)
    · exact .inl ⟨rfl, bls_asymm _ _ h1, e⟩
theorem beh_size (s : ByteArray) : (behS s).size ≤ s.size + 1 := by
  unfold behS behK
  rw [ofb_size]
  split
  · rw [List.length_append, List.length_dropLast, bts_len]; simp
  · simp
/-- What the law's loop asks of each step upwards. -/
theorem up23 {p a : ByteArray} (hp : okK (bts p) = true) (ha : okK (bts a) = true) (hpre : ∃ r, bts a = bts p ++ r) (hz : 0 < depK (bts p)) :
    hasP p = true ∧ okK (bts (aboS p)) = true ∧ (∃ r, bts a = bts (aboS p) ++ r) ∧ nexS p (aboS p) = true ∧ undS a (aboS p) = true ∧ depK (bts (aboS p)) = depK (bts p) - 1 ∧ (aboS p).size ≤ p.size := by
  have h1 : hasP p = true := dep_pos.1 (by omega)
  have hne : bts p ≠ [] := fun e => by
    rw [e] at hz
    have : depK ([] : List UInt8) = 0 := rfl
    omega
  obtain ⟨h2, ⟨r, h3⟩, h4⟩ := above_key hne hp
  have e : bts (aboS p) = aboK (bts p) := by unfold aboS; rw [if_pos h1, bts_ofb]
  obtain ⟨r2, hr2⟩ := hpre
  have hpa : ∃ r, bts a = aboK (bts p) ++ r := ⟨r ++ r2, by rw [hr2, h3, List.append_assoc]; rw [← h3]⟩
  have hd : depK (aboK (bts p)) = depK (bts p) - 1 := by unfold depK; rw [h2, hp]; simp; omega
  refine ⟨h1, by rw [e]; exact h2, by rw [e]; exact hpa, ?_, ?_, by rw [e]; exact hd, ?_⟩
  · unfold nexS nexK
    rw [e, hd, undK_iff.2 ⟨hp, h2, r, h3⟩, Bool.true_and, decide_eq_true_eq]
    omega
  · unfold undS
    rw [e]
    exact undK_iff.2 ⟨ha, h2, hpa⟩
  · have := congrArg List.length h3
    rw [List.length_append, bts_len] at this
    rw [← bts_len (aboS p), e]
    omega
set_option maxHeartbeats 6400000 in
theorem under23 (C : C23) (a b : ByteArray) (w : World) : Calls Try.prog 5 #[.string a, .string b] w fun e w' => e = .returned (.bool true) ∧ Below w.heap.size w w' := by
  have CS := hide (short23 a b ⟨#[]⟩ w)
  have CA := hide (fun W => awake23 C W)
  cases hs : shB a b ⟨#[]⟩ <;> rw [hs] at CS
  · clear C hs
    go_enter Try.func5, Try.ntmps5
    go_wp2_with (first
      | (go_at_call 9; refine (unhide CA _).mono ?_; rintro e w2 ⟨rfl, t2⟩)
      | (go_at_call 8; refine (unhide CS).mono ?_; rintro e w' ⟨rfl, rfl⟩))
    go_ret
    exact ⟨rfl, t2⟩
  obtain ⟨h1, h2, _⟩ := sh_yes hs
  have K1 := hide (fun W => C.chk a W h1)
  have K2 := hide (fun W => C.chk b W h2)
  cases hka : okK (bts a)
  · rw [chk_no hka] at K1
    clear C hs h1 h2 hka K2
    go_enter Try.func5, Try.ntmps5
    go_wp2_with (first
      | (go_at_call 9; refine (unhide CA _).mono ?_; rintro e w3 ⟨rfl, b3⟩; have t3 := t2.trans (b3.mono t2.size))
      | (go_at_call 12; refine (unhide K1 _).mono ?_; rintro e w2 ⟨rfl, t2⟩)
      | (go_at_call 8; refine (unhide CS).mono ?_; rintro e w' ⟨rfl, rfl⟩))
    go_ret
    exact ⟨rfl, t3⟩
  rw [chk_yes hka] at K1
  cases hkb : okK (bts b)
  · rw [chk_no hkb] at K2
    clear C hs h1 h2 hka hkb
    go_enter Try.func5, Try.ntmps5
    go_wp2_with (first
      | (go_at_call 9; refine (unhide CA _).mono ?_; rintro e w4 ⟨rfl, b4⟩; have t4 := t3.trans (b4.mono t3.size))
      | (go_at_call 12; have M := F1; refine (unhide K2 _).mono ?_; rintro e w3 ⟨rfl, b3⟩; have t3 := t2.trans (b3.mono t2.size))
      | (go_at_call 12; refine (unhide K1 _).mono ?_; rintro e w2 ⟨rfl, t2⟩; have F1 := trivial)
      | (go_at_call 8; refine (unhide CS).mono ?_; rintro e w' ⟨rfl, rfl⟩))
    go_ret
    exact ⟨rfl, t4⟩
  rw [chk_yes hkb] at K2
  by_cases hb255 : b.size ≠ 0 ∧ (bts b).getD 0 0 = 255
  · obtain ⟨hb0, hbc⟩ := hb255
    have hi : 0 < b.size := by omega
    have zi : (0 : Int) < (b.size : Int) := by omega
    have hc : (b[0].toNat : Int) = 255 := by rw [← bts_at b 0 hi, hbc]; rfl
    obtain ⟨n1, n2⟩ := nem23 hb0
    clear C hs h1 h2 hka hkb hb0 hbc
    go_enter Try.func5, Try.ntmps5
    go_wp2_with (first
      | (go_at_call 9; refine (unhide CA _).mono ?_; rintro e w4 ⟨rfl, b4⟩; have t4 := t3.trans (b4.mono t3.size))
      | (go_at_call 12; have M := F1; refine (unhide K2 _).mono ?_; rintro e w3 ⟨rfl, b3⟩; have t3 := t2.trans (b3.mono t2.size))
      | (go_at_call 12; refine (unhide K1 _).mono ?_; rintro e w2 ⟨rfl, t2⟩; have F1 := trivial)
      | (go_at_call 8; refine (unhide CS).mono ?_; rintro e w' ⟨rfl, rfl⟩))
    go_ret
    exact ⟨rfl, t4⟩
  have HSB := hide hb255
  have HKA := hide hka
  have HKB := hide hkb
  have KU := hide (fun W => C.und a b W h1 h2)
  have KB := hide (fun W => C.beh b W h2)
  have KD := hide (fun W => C.dep a W h1)
  have HC := hide C
  have H1 := hide h1
  clear C hs h1 h2 hka hkb hb255
  go_enter Try.func5, Try.ntmps5
  go_upto_region 3 with (first
    | (go_at_call 12; have M := F1; refine (unhide K2 _).mono ?_; rintro e w3 ⟨rfl, b3⟩; have t3 := t2.trans (b3.mono t2.size))
    | (go_at_call 12; refine (unhide K1 _).mono ?_; rintro e w2 ⟨rfl, t2⟩; have F1 := trivial)
    | (go_at_call 8; refine (unhide CS).mono ?_; rintro e w' ⟨rfl, rfl⟩))
  go_cut [30] from 24 to 30 (fun v30 wx => v30 = .bool false ∧ wx = w3)
  case first =>
    by_cases hb0 : b.size = 0
    · have hb := emp23 hb0
      have HB := hide hb
      have n1 : b.toList.isEmpty = true := by rw [hb, Lib.toList_data]; rfl
      have n2 : b.toList = [] := by rw [hb, Lib.toList_data]
      clear hb0 hb
      go_wp2
      go_meet
      exact ⟨rfl, rfl⟩
    · have hi : 0 < b.size := by omega
      have zi : (0 : Int) < (b.size : Int) := by omega
      obtain ⟨c, hc⟩ : ∃ c : Int, (b[0].toNat : Int) = c := ⟨_, rfl⟩
      have hq : (c == 255) = false := by
        rw [beq_eq_false_iff_ne]
        intro e
        refine unhide HSB ⟨hb0, ?_⟩
        rw [bts_at b 0 hi]
        exact UInt8.toNat_inj.1 (by have : (255 : UInt8).toNat = 255 := rfl; omega)
      obtain ⟨n1, n2⟩ := nem23 hb0
      clear hb0
      go_wp2
      go_meet
      exact ⟨rfl, rfl⟩
  case rest =>
    obtain ⟨rfl, rfl⟩ := hcut
    clear K1 K2 CS b3
    go_upto_region 5 with fail
    go_cut [58] from 32 to 58 (fun v58 wx => v58 = .bool false ∧ Below wc.heap.size wc wx)
    case first =>
      by_cases hb0 : b.size = 0
      · obtain rfl := emp23 hb0
        have e1 : undS a ⟨#[]⟩ = true := und_nil (unhide HKA)
        have e2 : behS ⟨#[]⟩ = ⟨#[255]⟩ := by kernel_rfl
        rw [e1] at KU
        rw [e2] at KB
        clear hb0 e1 e2
        by_cases ha0 : a.size = 0
        · obtain rfl := emp23 ha0
          clear ha0
          go_wp2_with (first
            | (go_at_call 16; refine (unhide KB _).mono ?_; rintro e w5 ⟨rfl, b5⟩; have k5 := b4.trans (b5.mono b4.size))
            | (go_at_call 20; refine (unhide KU _).mono ?_; rintro e w4 ⟨rfl, b4⟩))
          go_meet
          exact ⟨rfl, k5⟩
        · obtain ⟨n1, n2⟩ := nem23 ha0
          have hi : 0 < a.size := by omega
          have zi : (0 : Int) < (a.size : Int) := by omega
          obtain ⟨c, hc⟩ : ∃ c : Int, (a[0].toNat : Int) = c := ⟨_, rfl⟩
          have hl : ∃ t, a.toList = a[0] :: t := by
            rw [Lib.toList_data]
            have h := bts_at a 0 hi
            cases e : a.data.toList with
            | nil => exact absurd (by rw [← bts_len]; show a.data.toList.length = 0; rw [e]; rfl) ha0
            | cons d t => rw [show bts a = a.data.toList from rfl, e] at h; exact ⟨t, by rw [← h]; rfl⟩
          obtain ⟨tl, hl⟩ := hl
          have f1 : Op.bytesLess a.toList [] = false := bls_nil _
          have f2 : Op.bytesLess [] a.toList = true := by rw [hl]; rfl
          have f3 : Op.bytesLess a.toList [255] = decide (c < 255) := by
            rw [hl, bls_cons, bls_nil, Bool.and_false, Bool.or_false]
            refine decide_eq_decide.2 ?_
            rw [UInt8.lt_iff_toNat_lt]
            have : (255 : UInt8).toNat = 255 := rfl
            omega
          have hc1 : c ≤ 255 := by have := UInt8.toNat_lt a[0]; omega
          clear hl ha0
          by_cases h255 : c = 255
          · subst h255
            rw [decide_eq_false (by omega)] at f3
            clear hc1
            go_wp2_with (first
              | (go_at_call 16; refine (unhide KB _).mono ?_; rintro e w5 ⟨rfl, b5⟩; have k5 := b4.trans (b5.mono b4.size))
              | (go_at_call 20; refine (unhide KU _).mono ?_; rintro e w4 ⟨rfl, b4⟩))
            go_meet
            exact ⟨rfl, k5⟩
          · rw [decide_eq_true (by omega)] at f3
            clear hc1 h255
            go_wp2_with (first
              | (go_at_call 16; refine (unhide KB _).mono ?_; rintro e w5 ⟨rfl, b5⟩; have k5 := b4.trans (b5.mono b4.size))
              | (go_at_call 20; refine (unhide KU _).mono ?_; rintro e w4 ⟨rfl, b4⟩))
            go_meet
            exact ⟨rfl, k5⟩
      · have hr := under_range (unhide HKA) (unhide HKB) (fun h => hb0 (by rw [← bts_len, h.1]; rfl))
        have hr2 : undS a b = (!Op.bytesLess a.toList b.toList && Op.bytesLess a.toList (behS b).toList) := by
          rw [Lib.toList_data, Lib.toList_data, Lib.toList_data]
          unfold behS
          exact hr
        rw [hr2] at KU
        clear hr hr2 hb0
        obtain ⟨y, hy⟩ : ∃ y, y = behS b := ⟨_, rfl⟩
        rw [← hy] at KU KB
        clear hy
        have ht := tri23 a.toList b.toList
        cases g : Op.bytesLess a.toList y.toList
        all_goals
          rw [g] at KU
          rcases ht with ⟨f1, f2, f3⟩ | f1 | ⟨f1, f2, f3⟩
          · rw [f1] at KU
            have f4 : ¬ b.toList = a.toList := fun h => f3 h.symm
            go_wp2_with (first
              | (go_at_call 16; refine (unhide KB _).mono ?_; rintro e w5 ⟨rfl, b5⟩)
              | (go_at_call 20; refine (unhide KU _).mono ?_; rintro e w4 ⟨rfl, b4⟩))
            go_meet
            exact ⟨rfl, b4⟩
          · have f2 : Op.bytesLess a.toList b.toList = false := by rw [f1]; exact bls_irr _
            rw [f2] at KU
            have f3 : Op.bytesLess a.toList a.toList = false := bls_irr _
            clear f2
            have f4 : b.toList = a.toList := f1.symm
            have HF := hide f1
            clear f1
            go_wp2_with (first
              | (go_at_call 16; refine (unhide KB _).mono ?_; rintro e w5 ⟨rfl, b5⟩; have k5 := b4.trans (b5.mono b4.size))
              | (go_at_call 20; refine (unhide KU _).mono ?_; rintro e w4 ⟨rfl, b4⟩))
            go_meet
            exact ⟨rfl, k5⟩
          · rw [f1] at KU
            have f4 : ¬ b.toList = a.toList := fun h => f3 h.symm
            go_wp2_with (first
              | (go_at_call 16; refine (unhide KB _).mono ?_; rintro e w5 ⟨rfl, b5⟩; have k5 := b4.trans (b5.mono b4.size))
              | (go_at_call 20; refine (unhide KU _).mono ?_; rintro e w4 ⟨rfl, b4⟩))
            go_meet
            exact ⟨rfl, k5⟩
    case rest =>
      obtain ⟨rfl, bx⟩ := hcut
      have t4 := t3.trans (bx.mono t3.size)
      have hpd := (dep_bound a)
      clear KU KB HSB t2 t3 bx
      go_wp2_with (go_at_call 14; refine (unhide KD _).mono ?_; rintro e w5 ⟨rfl, b5⟩; have t5 := t4.trans (b5.mono t4.size))
      go_loopw [5, 6] (fun k i wr => ∃ p : ByteArray, k = .string p ∧ i = .int .i64 (depK (bts p)) ∧ Hid (okK (bts p) = true) ∧ Hid (∃ r, bts a = bts p ++ r) ∧ p.size ≤ a.size ∧ Below w.heap.size w wr) (fun _ i _ => (intOf i).toNat)
      case atStart => exact ⟨a, rfl, rfl, unhide HKA, ⟨[], (List.append_nil _).symm⟩, Nat.le_refl _, t5⟩
      case round =>
        obtain ⟨p, rfl, rfl, HP, HPA, hps, hb⟩ := hrel
        have hp1 := unhide H1
        have hd := dep_bound p
        by_cases hz : 0 < depK (bts p)
        · obtain ⟨r1, r2, r3, r4, r5, r6, r7⟩ := up23 (unhide HP) (unhide HKA) (unhide HPA) hz
          have A1 := hide (fun W => (unhide HC).abo p W (by omega))
          have A2 := hide (fun W => (unhide HC).nex p (aboS p) W (by omega) (by omega))
          have A3 := hide (fun W => (unhide HC).und a (aboS p) W (by omega) (by omega))
          have A4 := hide (fun W => (unhide HC).dep (aboS p) W (by omega))
          rw [r1] at A1
          rw [r4] at A2
          rw [r5] at A3
          rw [r6] at A4
          have hz2 : depK (bts p) ≤ 20000 := by omega
          have HR2 := hide r2
          have HR3 := hide r3
          have hsz : (aboS p).size ≤ a.size := by omega
          have HR6 := hide r6
          clear r1 r2 r3 r4 r5 r6 r7 HP HPA hp1 hps hd
          generalize aboS p = u at *
          generalize depK (bts p) = z at *
          have hw : IntKind.i64.wrap (z - 1) = z - 1 := by rw [IntKind.wrap_i64]; omega
          have hw2 : wrap64 (z - 1) = z - 1 := by unfold wrap64; omega
          go_wp2_with (first
            | (go_at_call 14; refine (unhide A4 _).mono ?_; rintro e w9 ⟨rfl, b9⟩; have t9 := t8.trans (b9.mono t8.size))
            | (go_at_call 20; refine (unhide A3 _).mono ?_; rintro e w8 ⟨rfl, b8⟩; have t8 := t7.trans (b8.mono t7.size))
            | (go_at_call 22; refine (unhide A2 _).mono ?_; rintro e w7 ⟨rfl, b7⟩; have t7 := t6.trans (b7.mono t6.size))
            | (go_at_call 10; refine (unhide A1 _).mono ?_; rintro e w6 ⟨rfl, b6⟩; have t6 := hb.trans (b6.mono hb.size)))
          go_roundw
          case rel => exact ⟨u, rfl, by rw [unhide HR6], HR2, HR3, hsz, t9⟩
          case measure => simp [intOf]; omega
        · have hnil : p = ⟨#[]⟩ := by
            have h := unhide HP
            have h0 : depK (bts p) = (zer (bts p) : Int) := if_pos h
            refine emp23 ?_
            rw [← bts_len, zer_nil h (by omega)]
            rfl
          clear HP HPA hps hd hz
          subst hnil
          have hd : depK (bts ⟨#[]⟩) = 0 := by kernel_rfl
          rw [hd]
          clear hd
          go_wp2_with (go_at_call 9; refine (unhide CA _).mono ?_; rintro e w6 ⟨rfl, b6⟩; have t6 := hb.trans (b6.mono hb.size))
          go_ret
          exact ⟨rfl, t6⟩
end Go.Proofs.Ytmemflanfklmpaa
