/- The sort of runes: pdqsort, and slices.Sort, of any row. -/
import Derived.Test.YtnlkefdicpeemaaPdqP
import Derived.Test.YtnlkefdicpeemaaPart
import Derived.Test.YtnlkefdicpeemaaPar
import Derived.Test.YtnlkefdicpeemaaBrk
import Derived.Test.YtnlkefdicpeemaaRev
import Derived.Test.YtnlkefdicpeemaaSortS
namespace Go.Proofs.Ytnlkefdicpeemaa
open Go.RowKit
open Go.Sort (Holds ltInt swp PermIn SortedIn insertionSort heapSort partialInsertionSort)

set_option maxRecDepth 8000 in
set_option maxHeartbeats 8000000 in
theorem pdq_any : ∀ (N : Nat) (d : Array Int) (a b limit blk off cap : Nat) (w0 w : World), b - a < N → a ≤ b → b ≤ d.size → d.size ≤ 60000 → limit ≤ 16 → (a = 0 ∨ ∀ i, a ≤ i → i < b → d[a - 1]! ≤ d[i]!) → Rw w0 blk off d w →
    Calls Try.prog 35 #[.slice (some ⟨blk, off, none⟩) d.size cap, .int .i64 a, .int .i64 b, .int .i64 limit] w fun e w' => e = .returned (.tuple #[]) ∧ ∃ d', Rw w0 blk off d' w' ∧ PermIn a b d d' ∧ SortedIn ltInt a b d' := by
  intro N
  induction N with
  | zero => intro d a b limit blk off cap w0 w hN; omega
  | succ N ih =>
    intro d a b limit blk off cap w0 w hN hab hb hsz hlim hB hR
    have S0 := hide (St.start hab hb hB)
    have RR := hide hR
    have HI := hide (fun (dk : Array Int) (x y : Nat) (W : World) (hk : dk.size = d.size) (h : Rw w0 blk off dk W) (h1 : x ≤ y) (h2 : y ≤ d.size) => hk ▸ ins_any blk off cap x y dk w0 W h h1 (by omega) (by omega))
    have HH := hide (fun (dk : Array Int) (x y : Nat) (W : World) (hk : dk.size = d.size) (h : Rw w0 blk off dk W) (h1 : x < y) (h2 : y ≤ d.size) => hk ▸ heap_any blk off cap x y dk w0 W h h1 (by omega) (by omega))
    have HK := hide (fun (dk : Array Int) (x y : Nat) (W : World) (hk : dk.size = d.size) (h : Rw w0 blk off dk W) (h1 : x + 12 < y) (h2 : y ≤ d.size) => hk ▸ brk_any blk off cap x y dk w0 W h h1 (by omega) (by omega))
    have HV := hide (fun (dk : Array Int) (x y : Nat) (W : World) (hk : dk.size = d.size) (h : Rw w0 blk off dk W) (h1 : x + 12 < y) (h2 : y ≤ d.size) => hk ▸ pivot_any blk off cap x y dk w0 W h h1 (by omega) (by omega))
    have HR := hide (fun (dk : Array Int) (x y : Nat) (W : World) (hk : dk.size = d.size) (h : Rw w0 blk off dk W) (h1 : x < y) (h2 : y ≤ d.size) => hk ▸ rev_any blk off cap x y dk w0 W h h1 (by omega) (by omega))
    have HP := hide (fun (dk : Array Int) (x y : Nat) (W : World) (hk : dk.size = d.size) (h : Rw w0 blk off dk W) (h1 : x < y) (h2 : y ≤ d.size) => hk ▸ par_any blk off cap x y dk w0 W h h1 (by omega) (by omega))
    have HE := hide (fun (dk : Array Int) (x y p : Nat) (W : World) (hk : dk.size = d.size) (h : Rw w0 blk off dk W) (h1 : x ≤ p) (h3 : p < y) (h2 : y ≤ d.size) => hk ▸ parteq_any blk off cap x y p dk w0 W h h1 h3 (by omega) (by omega))
    have HT := hide (fun (dk : Array Int) (x y p : Nat) (W : World) (hk : dk.size = d.size) (h : Rw w0 blk off dk W) (h1 : x ≤ p) (h3 : p < y) (h2 : y ≤ d.size) => hk ▸ part_any blk off cap x y p dk w0 W h h1 h3 (by omega) (by omega))
    have HN := hide (fun (dk : Array Int) (x y l : Nat) (W : World) (hk : dk.size = d.size) (h : Rw w0 blk off dk W) (h0 : y - x < N) (h1 : x ≤ y) (h2 : y ≤ d.size) (h3 : l ≤ 16) (h4 : x = 0 ∨ ∀ i, x ≤ i → i < y → dk[x - 1]! ≤ dk[i]!) => hk ▸ ih dk x y l blk off cap w0 W h0 h1 (by omega) (by omega) h3 h4 h)
    clear hR hB ih
    obtain ⟨sz, hsn⟩ : ∃ sz, sz = d.size := ⟨_, rfl⟩
    rw [← hsn] at HI HH HK HV HR HP HE HT HN hb hsz ⊢
    have SN := hide hsn
    clear hsn
    go_enter Try.func35, Try.ntmps35
    go_wp2
    go_loopw [1, 2, 3, 8, 9] (fun s1 s2 s3 s8 s9 wr => ∃ (x y lim : Nat) (wb wp : Bool) (dk : Array Int), s1 = .int .i64 x ∧ s2 = .int .i64 y ∧ s3 = .int .i64 lim ∧ s8 = .bool wb ∧ s9 = .bool wp ∧ lim ≤ 16 ∧ x ≤ y ∧ y ≤ sz ∧ y - x ≤ N ∧ Hid (dk.size = sz) ∧ Hid (Rw w0 blk off dk wr) ∧ Hid (St a b d x y dk)) (fun s1 s2 _ _ _ _ => (intOf s2 - intOf s1).toNat)
    case atStart => exact ⟨a, b, limit, true, true, d, rfl, rfl, rfl, rfl, rfl, hlim, hab, hb, by omega, (unhide SN).symm, RR, S0⟩
    case round =>
      clear RR S0 hlim hab hb hN
      obtain ⟨x, y, lim, wb, wp, dk, rfl, rfl, rfl, rfl, rfl, hlm, hxy, hys, hyN, SK, RK, TK⟩ := hrel
      have k1 : IntKind.i64.wrap ((y : Int) - (x : Int)) = (y : Int) - (x : Int) := by rw [IntKind.wrap_i64]; omega
      by_cases h12 : y - x ≤ 12
      · have z1 : (y : Int) - (x : Int) ≤ 12 := by omega
        have hs := Go.Sort.insertionSort_holds (lt := ltInt) Go.Sort.swo_ltInt dk x y hxy (by rw [unhide SK]; exact hys)
        have HS := hide ((unhide TK).done hs.1 hs.2)
        have HC := hide (fun W h => unhide HI dk x y W (unhide SK) h hxy hys)
        clear hs
        go_wp2_with (go_at_call 37; refine (unhide HC _ (unhide RK)).mono ?_; rintro e w' ⟨rfl, hr⟩)
        try simp only [Exit.inBlock, Exit.then]
        refine bodyPost_ret (results_none rfl _ _ _) rfl ?_
        exact ⟨rfl, _, hr, unhide HS⟩
      · have z1 : ¬ (y : Int) - (x : Int) ≤ 12 := by omega
        have z2 : x + 12 < y := by omega
        by_cases hl0 : lim = 0
        · subst hl0
          have hs := Go.Sort.heapSort_holds (lt := ltInt) Go.Sort.swo_ltInt dk x y hxy (by rw [unhide SK]; exact hys)
          have HS := hide ((unhide TK).done hs.1 hs.2)
          have HC := hide (fun W h => unhide HH dk x y W (unhide SK) h (by omega) hys)
          clear hs
          go_wp2_with (go_at_call 38; refine (unhide HC _ (unhide RK)).mono ?_; rintro e w' ⟨rfl, hr⟩)
          try simp only [Exit.inBlock, Exit.then]
          refine bodyPost_ret (results_none rfl _ _ _) rfl ?_
          exact ⟨rfl, _, hr, unhide HS⟩
        · have z3 : ((lim : Int) == 0) = false := by simp; omega
          have z4 : ¬ (lim : Int) = 0 := by omega
          have k2 : IntKind.i64.wrap ((lim : Int) - 1) = (lim : Int) - 1 := by rw [IntKind.wrap_i64]; omega
          go_upto_if 35 with fail
          go_cut [3] from 19 to 133 (fun s3 wc => ∃ (l2 : Nat) (d1 : Array Int), s3 = .int .i64 l2 ∧ l2 ≤ 16 ∧ Hid (d1.size = sz) ∧ Hid (Rw w0 blk off d1 wc) ∧ Hid (St a b d x y d1))
          case first =>
            cases wb
            · have HC := hide (fun W h => unhide HK dk x y W (unhide SK) h z2 hys)
              go_wp2_with (go_at_call 39; refine (unhide HC _ (unhide RK)).mono ?_; rintro e w' ⟨rfl, d1, hr, hp⟩; have HRB := hide hr; have HPB := hide hp; clear hr hp)
              go_meet
              case rel => exact ⟨lim - 1, d1, by congr 1; omega, by omega, by show d1.size = sz; rw [(unhide HPB).1]; exact unhide SK, HRB, hide ((unhide TK).step (unhide HPB))⟩
            · go_wp2
              go_meet
              case rel => exact ⟨lim, dk, rfl, hlm, SK, RK, TK⟩
          case rest =>
            obtain ⟨l2, d1, rfl, hl2, S1, R1, T1⟩ := hcut
            clear SK RK TK k2 z3 z4 hl0
            have HC := hide (fun W h => unhide HV d1 x y W (unhide S1) h z2 hys)
            go_upto_if 50 with (go_at_call 40; refine (unhide HC _ (unhide R1)).mono ?_; rintro e w2 ⟨⟨p, hn, rfl, hp1, hp2⟩, hbel⟩; have R2 := hide ((unhide R1).far hbel (unhide R1).lt); clear hbel)
            clear HC R1
            have k2 : IntKind.i64.wrap ((y : Int) - 1) = (y : Int) - 1 := by rw [IntKind.wrap_i64]; omega
            have k3 : IntKind.i64.wrap ((p : Int) - (x : Int)) = (p : Int) - (x : Int) := by rw [IntKind.wrap_i64]; omega
            have k4 : IntKind.i64.wrap ((y : Int) - 1 - ((p : Int) - (x : Int))) = (y : Int) - 1 - ((p : Int) - (x : Int)) := by rw [IntKind.wrap_i64]; omega
            go_cut [11, 12] from 19 to 133 (fun s11 s12 wc => ∃ (p2 : Nat) (h2 : Int) (d2 : Array Int), s11 = .int .i64 p2 ∧ s12 = .int .i64 h2 ∧ x ≤ p2 ∧ p2 < y ∧ Hid (d2.size = sz) ∧ Hid (Rw w0 blk off d2 wc) ∧ Hid (St a b d x y d2))
            case first =>
              by_cases hh : hn = 2
              · subst hh
                have HC := hide (fun W h => unhide HR d1 x y W (unhide S1) h (by omega) hys)
                go_wp2_with (go_at_call 41; refine (unhide HC _ (unhide R2)).mono ?_; rintro e w' ⟨rfl, d2, hr, hp⟩; have HRB := hide hr; have HPB := hide hp; clear hr hp)
                go_meet
                case rel => exact ⟨(y - 1) - (p - x), 1, d2, by congr 1; omega, rfl, by omega, by omega, by show d2.size = sz; rw [(unhide HPB).1]; exact unhide S1, HRB, hide ((unhide T1).step (unhide HPB))⟩
              · have hhz : (hn == 2) = false := by simpa using hh
                go_wp2
                go_meet
                case rel => exact ⟨p, hn, d1, rfl, rfl, hp1, hp2, S1, R2, T1⟩
            case rest =>
              obtain ⟨p2, h2, d2, rfl, rfl, hp3, hp4, S2, R3, T2⟩ := hcut
              clear S1 R2 T1 k2 k3 k4 hp1 hp2
              go_upto_region 15 with fail
              go_cut [68] from 19 to 133 (fun s68 wx => ∃ (t : Bool), s68 = .bool t ∧ Hid (Rw w0 blk off d2 wx))
              case first =>
                cases wb
                · go_wp2
                  go_meet
                  case rel => exact ⟨_, rfl, R3⟩
                · cases wp
                  · go_wp2
                    go_meet
                    case rel => exact ⟨_, rfl, R3⟩
                  · go_wp2
                    go_meet
                    case rel => exact ⟨_, rfl, R3⟩
              case rest =>
                obtain ⟨t, rfl, R4⟩ := hcut
                clear R3
                go_upto_if 68 with fail
                go_cut [] from 19 to 133 (fun wx => ∃ (d3 : Array Int), Hid (d3.size = sz) ∧ Hid (Rw w0 blk off d3 wx) ∧ Hid (St a b d x y d3))
                case first =>
                  cases t
                  · go_wp2
                    go_meet
                    case rel => exact ⟨d2, S2, R4, T2⟩
                  · have hpi := Go.Sort.partialInsertionSort_holds (lt := ltInt) Go.Sort.swo_ltInt d2 x y (by omega) (by rw [unhide S2]; exact hys) (unhide T2).below
                    have HPI := hide hpi
                    have HC := hide (fun W h => unhide HP d2 x y W (unhide S2) h (by omega) hys)
                    clear hpi
                    obtain ⟨PR, hPR⟩ : ∃ PR, PR = partialInsertionSort ltInt d2 x y := ⟨_, rfl⟩
                    rw [← hPR] at HPI HC
                    clear hPR
                    obtain ⟨d3, r⟩ := PR
                    cases r
                    · go_wp2_with (go_at_call 42; refine (unhide HC _ (unhide R4)).mono ?_; rintro e w' ⟨rfl, hr⟩; have HRB := hide hr; clear hr)
                      go_meet
                      case rel => exact ⟨d3, by show d3.size = sz; rw [(unhide HPI).1.1]; exact unhide S2, HRB, hide ((unhide T2).step (unhide HPI).1)⟩
                    · go_wp2_with (go_at_call 42; refine (unhide HC _ (unhide R4)).mono ?_; rintro e w' ⟨rfl, hr⟩; have HRB := hide hr; clear hr)
                      try simp only [Exit.inBlock, Exit.then]
                      refine bodyPost_ret (results_none rfl _ _ _) rfl ?_
                      exact ⟨rfl, d3, unhide HRB, (unhide T2).done (unhide HPI).1 ((unhide HPI).2 (by simp))⟩
                case rest =>
                  obtain ⟨d3, S3, R5, T3⟩ := hcut
                  clear S2 R4 T2
                  go_upto_region 17 with fail
                  go_cut [87] from 19 to 133 (fun s87 wx => ∃ (t : Bool), s87 = .bool t ∧ Hid (Rw w0 blk off d3 wx) ∧ Hid (t = true → 0 < x ∧ ltInt d3[x - 1]! d3[p2]! = false))
                  case first =>
                    by_cases hx0 : 0 < x
                    · have d1' : decide ((0 : Int) < (x : Int)) = true := decide_eq_true (by omega)
                      have d2' : decide ((x : Int) > 0) = true := decide_eq_true (by omega)
                      have d3' : decide (0 < x) = true := decide_eq_true hx0
                      have e0 : (0 : Int) < (x : Int) := by omega
                      have e1 : (0 : Int) ≤ (x : Int) - 1 := by omega
                      have e2 : (x : Int) - 1 < (sz : Int) := by omega
                      have e3 : IntKind.i64.wrap ((x : Int) - 1) = (x : Int) - 1 := by rw [IntKind.wrap_i64]; omega
                      have e4 : ((x : Int) - 1).toNat = x - 1 := by omega
                      have e5 : (0 : Int) ≤ (p2 : Int) := by omega
                      have e6 : (p2 : Int) < (sz : Int) := by omega
                      have s3 := unhide S3
                      have c1 := (unhide R5).cell (i := x - 1) (by omega)
                      have c2 := (unhide R5).cell (i := p2) (by omega)
                      clear s3
                      have hls := fun w => less_any d3[x - 1]! d3[p2]! w
                      have HLV : Hid (ltInt d3[x - 1]! d3[p2]! = ltInt d3[x - 1]! d3[p2]!) := rfl
                      cases hl : ltInt d3[x - 1]! d3[p2]! <;> rw [hl] at hls
                      · have HL0 := hide hl
                        clear hl HLV
                        generalize d3[x - 1]! = u at c1 hls
                        generalize d3[p2]! = v at c2 hls
                        have HLS := hide hls
                        clear hls
                        have HX0 := hide hx0
                        generalize x - 1 = x1 at c1 e4
                        go_wp2
                        go_quiet ((go_at_call 43; exact (unhide HLS _).mono fun e w' h => ⟨h.1, _, h.2⟩))
                        go_wp2
                        go_meet
                        case rel => exact ⟨true, rfl, hide ((unhide R5).drewN _), hide fun _ => ⟨unhide HX0, unhide HL0⟩⟩
                      · clear hl HLV
                        generalize d3[x - 1]! = u at c1 hls
                        generalize d3[p2]! = v at c2 hls
                        have HLS := hide hls
                        clear hls
                        generalize x - 1 = x1 at c1 e4
                        go_wp2
                        go_quiet ((go_at_call 43; exact (unhide HLS _).mono fun e w' h => ⟨h.1, _, h.2⟩))
                        go_wp2
                        go_meet
                        case rel => exact ⟨false, rfl, hide ((unhide R5).drewN _), hide fun h => by cases h⟩
                    · have d1' : decide ((0 : Int) < (x : Int)) = false := decide_eq_false (by omega)
                      have d2' : decide ((x : Int) > 0) = false := decide_eq_false (by omega)
                      have d3' : decide (0 < x) = false := decide_eq_false hx0
                      go_wp2
                      go_quiet (fail)
                      go_wp2
                      go_meet
                      case rel => exact ⟨false, rfl, hide ((unhide R5).drewN _), hide fun h => by cases h⟩
                  case rest =>
                    obtain ⟨t, rfl, R6, HT6⟩ := hcut
                    clear R5
                    cases t
                    · clear HT6
                      have HC := hide (fun W h => unhide HT d3 x y p2 W (unhide S3) h hp3 hp4 hys)
                      go_upto_if 113 with (go_at_call 45; refine (unhide HC _ (unhide R6)).mono ?_; rintro e w4 ⟨mid, d4, fl, rfl, hr, dk5, hPe, hd4⟩; have HR4 := hide hr; have hct := ct_of hPe; rw [← hd4] at hct; have HCT := hide hct; have hm1 := hct.2.xm; have hm2 := hct.2.my; clear hr hPe hd4 hct; have k6 : IntKind.i64.wrap ((mid : Int) - (x : Int)) = (mid : Int) - (x : Int) := (by rw [IntKind.wrap_i64]; omega); have k7 : IntKind.i64.wrap ((y : Int) - (mid : Int)) = (y : Int) - (mid : Int) := (by rw [IntKind.wrap_i64]; omega); have k8 : IntKind.i64.wrap ((mid : Int) + 1) = (mid : Int) + 1 := (by rw [IntKind.wrap_i64]; omega))
                      have S4 : Hid (d4.size = sz) := by show d4.size = sz; rw [(unhide HCT).1.1]; exact unhide S3
                      have T4 := hide ((unhide T3).step (unhide HCT).1)
                      by_cases hlr : mid - x < y - mid
                      · have hlz : (mid : Int) - (x : Int) < (y : Int) - (mid : Int) := by omega
                        have HC2 := hide (fun W h => unhide HN d4 x mid l2 W (unhide S4) h (by omega) hm1 (by omega) hl2 ((unhide T4).bel.imp id fun hh i h1 h2 => hh i h1 (by omega)))
                        go_wp2_with (go_at_call 35; refine (unhide HC2 _ (unhide HR4)).mono ?_; rintro e w5 ⟨rfl, d5, hr, hp, hso⟩; have HR5 := hide hr; have HP5 := hide hp; have HS5 := hide hso; clear hr hp hso)
                        go_roundw
                        case rel => exact ⟨mid + 1, y, l2, _, fl, d5, by go_num, rfl, rfl, rfl, rfl, hl2, by omega, hys, by omega, by show d5.size = sz; rw [(unhide HP5).1]; exact unhide S4, HR5, hide ((unhide T4).left (unhide HCT).2 (unhide HP5) (unhide HS5))⟩
                        case measure => simp [intOf]; omega
                      · have hlz : ¬ (mid : Int) - (x : Int) < (y : Int) - (mid : Int) := by omega
                        have HC2 := hide (fun W h => unhide HN d4 (mid + 1) y l2 W (unhide S4) h (by omega) (by omega) hys hl2 (.inr fun i h1 h2 => by rw [Nat.add_sub_cancel]; exact (unhide HCT).2.hi i (by omega) h2))
                        rw [show ((mid + 1 : Nat) : Int) = (mid : Int) + 1 by omega] at HC2
                        go_wp2_with (go_at_call 35; refine (unhide HC2 _ (unhide HR4)).mono ?_; rintro e w5 ⟨rfl, d5, hr, hp, hso⟩; have HR5 := hide hr; have HP5 := hide hp; have HS5 := hide hso; clear hr hp hso)
                        go_roundw
                        case rel => exact ⟨x, mid, l2, _, fl, d5, rfl, rfl, rfl, rfl, rfl, hl2, hm1, by omega, by omega, by show d5.size = sz; rw [(unhide HP5).1]; exact unhide S4, HR5, hide ((unhide T4).right (unhide HCT).2 (unhide HP5) (unhide HS5))⟩
                        case measure => simp [intOf]; omega
                    · have h6 := unhide HT6 rfl
                      have HH6 := hide h6
                      clear h6 HT6
                      have HC := hide (fun W h => unhide HE d3 x y p2 W (unhide S3) h hp3 hp4 hys)
                      go_wp2_with (go_at_call 44; refine (unhide HC _ (unhide R6)).mono ?_; rintro e w4 ⟨mid, d4, rfl, hr, hm, hPe⟩; have HR4 := hide hr; have hai := hPe.ai; have HPE := hide hPe; clear hr hPe)
                      go_roundw
                      case rel => exact ⟨mid, y, l2, wb, wp, d4, rfl, rfl, rfl, rfl, rfl, hl2, hm, hys, by omega, by show d4.size = sz; rw [(unhide HPE).sz]; exact unhide S3, HR4, hide ((unhide T3).eq (unhide HPE) hm (unhide HH6).1 (unhide HH6).2)⟩
                      case measure => simp [intOf]; omega

/-- pdqsort, from the first rune on. -/
theorem pdq_does (d : Array Int) (hsz : d.size ≤ 60000) : PdqDoes d 0 d.size :=
  fun limit blk off cap w0 w hl hR => pdq_any (d.size + 1) d 0 d.size limit blk off cap w0 w (by omega) (Nat.zero_le _) (Nat.le_refl _) hsz hl (.inl rfl) hR
/-- slices.Sort, of any row of runes. -/
theorem sort_does (d : Array Int) (hsz : d.size ≤ 60000) : SortDoes d := sort_of_pdq d hsz (pdq_does d hsz)
end Go.Proofs.Ytnlkefdicpeemaa
