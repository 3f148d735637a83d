/- settle: a run's marks are put in order. -/
import Derived.Test.YtefobkgifigclaaGreatDoorM03
import Derived.BigQuiet
import Derived.BigRegion
namespace Go.Proofs.YtefobkgifigclaaGreatDoor
set_option maxRecDepth 100000
open Go.RowKit
open Go.Sort (grow)

theorem cls_230 (x : Int) : cls x ≤ 230 := by
  have := cls_in x
  unfold Kls at this
  simp at this
  omega
/-- How much is still to be done at the label. -/
def marksIn (w : World) : Value → List Mk
  | .slice (some ad) n _ => marksAt w ad.block n
  | _ => []
def mu (a : Act) (w : World) : Nat := (intOf (a.tmps.getD 3 undef)).toNat + (potMax - pot 0 (marksIn w (a.tmps.getD 2 undef))).toNat

/-- The frame at the label. -/
def Frm (g off n c2 g2 cap2 m : Nat) (a : Act) : Prop := ∃ u1 u4 u5 u6 u7 u8 u9 u10 u11 u12 u13 u14 u15 u16 u17 u18 u19 u20 u21 u22 u23 u24 u25 u26 u27 u28 u29 u30 u31 u32 u33 u34 u35 u36 u37 u38 u39 u40 u41 u42 u43 u44 u45 u46 u47 u48 u49 u50 u51 u52 u53 u54 u55 u56 u57 u58 u59 u60 u61 u62 u63 u64 u65 u66 u67 u68 u69 : Value, a = { tmps := #[.slice (some ⟨g, off, none⟩) n c2, u1, .slice (some ⟨g2, 0, none⟩) n cap2, .int .i64 (m : Int), u4, u5, u6, u7, u8, u9, u10, u11, u12, u13, u14, u15, u16, u17, u18, u19, u20, u21, u22, u23, u24, u25, u26, u27, u28, u29, u30, u31, u32, u33, u34, u35, u36, u37, u38, u39, u40, u41, u42, u43, u44, u45, u46, u47, u48, u49, u50, u51, u52, u53, u54, u55, u56, u57, u58, u59, u60, u61, u62, u63, u64, u65, u66, u67, u68, u69], defers := [] }
set_option maxHeartbeats 6400000 in
theorem settle_wrong (B g N cap c2 off n : Nat) (A r Z : List Int) (w : World) (hlen : N ≤ 1000) (hN : N = (A ++ (r ++ Z)).length) (hoff : off = A.length) (hn : n = r.length) (h0 : 0 < n) (hord : ordered cls r = false)
    (hR : Rn B (.slice (some ⟨g, 0, none⟩) N cap) (A ++ (r ++ Z)) w) :
    Calls Tryz.prog 195 #[.slice (some ⟨g, off, none⟩) n c2] w fun e w' => e = .returned (.tuple #[]) ∧ Rn B (.slice (some ⟨g, 0, none⟩) N cap) (A ++ (srt cls Kls r ++ Z)) w' ∧ w.grownBy w' (some g) := by
  have mx : Tryz.prog.follows .mixedOrders = true := by kernel_rfl
  have hnN : n ≤ N := by rw [hN, hn]; simp; omega
  have hcell : ∀ i, i < r.length → w.cell? ⟨g, off + i, none⟩ = some (.int .i32 (r.getD i 0)) := fun i hi => by
    have hl : (A ++ (r ++ Z)).length = N := hN.symm
    subst hN
    rw [World.ownsRow.cellAt hR (off + i) (by simp; omega), hoff]
    rw [List.map_append, List.map_append, List.getElem?_append_right (by simp), List.length_map, Nat.add_sub_cancel_left, List.getElem?_append_left (by simpa using hi)]
    simp [List.getD, hi]
  have hrow : Row w (.slice (some ⟨g, off, none⟩) n c2) r := ⟨_, c2, by rw [hn], fun _ => ⟨g, off, rfl, hcell⟩⟩
  have HO := hide (aordd_gr _ _ w (by omega) hrow)
  rw [hord] at HO
  have HM := hide (fun w1 (h : Gr w w1) => marks_any g off c2 r w1 (by omega) (by omega) (fun i hi => h.cell (hcell i hi)))
  rw [← hn] at HM
  have HGD : Hid (∀ m, m ∈ mks cls 0 r → m.good) := mks_good cls_nn cls_230 r (by omega)
  have HEND : Hid (∀ d : List Mk, d.Perm (mks cls 0 r) → (d.Pairwise fun a b => a.key ≤ b.key) → d.map Mk.r = srt cls Kls r) := fun d h1 h2 => comb_end Kls_rise cls_in cls_nn cls_230 r (by omega) d h1 h2
  have HSL : Hid ((srt cls Kls r).length = r.length) := srt_len Kls_rise r fun x _ => cls_in x
  have HML : Hid ((mks cls 0 r).length = n) := by show _ = _; rw [mks_len, hn]
  have HNA := hide hN
  have HOF := hide hoff
  have HNR := hide hn
  have HR := hide hR
  have hgw : g < w.heap.size := (World.ownsRow.lt hR g rfl).2
  clear hcell hrow hord hN hoff hn hR
  generalize mks cls 0 r = M0 at *
  generalize srt cls Kls r = S at *
  go_enter Tryz.func195, Tryz.ntmps195
  go_wp2
  refine scope_jumps 0 (fun a wr => ∃ (g2 cap2 m : Nat) (d : List Mk), Frm g off n c2 g2 cap2 m a ∧ 1 ≤ m ∧ m ≤ n ∧ Hid (d.Perm M0) ∧ Hid (St w B w.heap.size g g2 N cap n cap2 (A ++ (r ++ Z)) d wr)) mu rfl ?_ ?_
  · rintro a' wl ⟨g2, cap2, m, d, ⟨u1, u4, u5, u6, u7, u8, u9, u10, u11, u12, u13, u14, u15, u16, u17, u18, u19, u20, u21, u22, u23, u24, u25, u26, u27, u28, u29, u30, u31, u32, u33, u34, u35, u36, u37, u38, u39, u40, u41, u42, u43, u44, u45, u46, u47, u48, u49, u50, u51, u52, u53, u54, u55, u56, u57, u58, u59, u60, u61, u62, u63, u64, u65, u66, u67, u68, u69, rfl⟩, hm1, hmn, PP, SS⟩
    have HNX := hide (nearer_any m hm1 (by omega))
    go_wp2_with (go_at_call 224; refine (unhide HNX _).mono ?_; rintro e w3 ⟨⟨m2, rfl, hm2, hm2m, hm2o⟩, rfl⟩)
    go_loopw [4, 5] (fun ch i wk => ∃ (k : Nat) (dk : List Mk) (cb : Bool), ch = .bool cb ∧ i = .int .i64 (k : Int) ∧ m2 ≤ k ∧ k ≤ n ∧ Hid (dk.Perm M0) ∧ Hid (St w B w.heap.size g g2 N cap n cap2 (A ++ (r ++ Z)) dk wk) ∧ Hid (Pas d dk m2 k cb)) (fun _ i _ => n - (intOf i).toNat)
    case atStart => exact ⟨m2, d, false, rfl, rfl, Nat.le_refl _, Nat.le_trans hm2m hmn, PP, SS, Pas.start d m2⟩
    case round =>
      obtain ⟨k, dk, cb, rfl, rfl, hmk, hkn, PK, SK, RK⟩ := hrel
      by_cases hlt : k < n
      · have hzl : (k : Int) < (n : Int) := by omega
        have hz0 : (0 : Int) ≤ (k : Int) := by omega
        obtain ⟨j, hj⟩ : ∃ j, j = k - m2 := ⟨_, rfl⟩
        have e1 : IntKind.i64.wrap ((k : Int) - (m2 : Int)) = (j : Int) := by rw [IntKind.wrap_i64]; omega
        have hjn : j < n := by omega
        have hjl : (j : Int) < (n : Int) := by omega
        have hj0 : (0 : Int) ≤ (j : Int) := by omega
        have hdl := (unhide SK).dn
        have HGX : Hid ((dk.getD k mk0).good) := unhide HGD _ ((unhide PK).mem_iff.1 (by rw [List.getD_eq_getElem?_getD, List.getElem?_eq_getElem (by omega)]; exact List.getElem_mem _))
        have HGY : Hid ((dk.getD j mk0).good) := unhide HGD _ ((unhide PK).mem_iff.1 (by rw [List.getD_eq_getElem?_getD, List.getElem?_eq_getElem (by omega)]; exact List.getElem_mem _))
        have HSW := hide (unhide RK).swap
        have HSK := hide (unhide RK).skip
        rw [← hj] at HSW HSK
        have HPX := hide ((exch_perm dk k j (by omega) (by omega)).trans (unhide PK))
        have HKY := hide (Mk.ahead_key (unhide HGX) (unhide HGY))
        obtain ⟨a1, a2, a3⟩ := (unhide SK).cell k hlt
        obtain ⟨b1, b2, b3⟩ := (unhide SK).cell j hjn
        have HEX := hide (fun wq (hq : Gr wr wq) => ((unhide SK).gr hq).exch k j hlt hjn)
        have hjk : j < k := by omega
        have HDL := hide hdl
        clear hdl hj
        generalize dk.getD k mk0 = x at *
        generalize dk.getD j mk0 = y at *
        have HA := hide (ahead_any x y)
        generalize x.key = kx at *
        generalize y.key = ky at *
        cases hq : x.ahead y
        · rw [hq] at HA HKY
          obtain ⟨xr, xc, xp⟩ := x
          obtain ⟨yr, yc, yp⟩ := y
          unfold Mk.val at HA
          dsimp only at *
          have HLE : Hid (ky ≤ kx) := by
            have h := unhide HKY
            have := of_decide_eq_false h.symm
            show _ ≤ _
            omega
          clear HEX HKY HSW
          go_wp2
          replace a1 := cell_gr a1
          replace a2 := cell_gr a2
          replace a3 := cell_gr a3
          replace b1 := cell_gr b1
          replace b2 := cell_gr b2
          replace b3 := cell_gr b3
          refine wp_region_quiet_grown (by first | exact mx | assumption) (by kernel_rfl) ?_
          repeat (go_big_quiet_step ((go_at_call 225; exact callsGr (unhide HA _))))
          refine wpQuiet_nil ?_
          intro _ hw'
          obtain ⟨⟨nq, osq⟩, hw''⟩ := hw'
          subst hw''
          go_wp2
          go_roundw
          case rel => exact ⟨k + 1, dk, cb, rfl, by go_num, by omega, by omega, PK, (unhide SK).gr ((Gr.refl _).grow _ _), unhide HSK (unhide HLE)⟩
          case measure => simp [intOf]; omega
        · rw [hq] at HA HKY
          obtain ⟨xr, xc, xp⟩ := x
          obtain ⟨yr, yc, yp⟩ := y
          unfold Mk.val at HA
          dsimp only at *
          have HLT : Hid (kx < ky) := by show _ < _; exact of_decide_eq_true (unhide HKY).symm
          clear HKY HSK
          go_wp2
          replace a1 := cell_gr a1
          replace a2 := cell_gr a2
          replace a3 := cell_gr a3
          replace b1 := cell_gr b1
          replace b2 := cell_gr b2
          replace b3 := cell_gr b3
          refine wp_region_quiet_grown (by first | exact mx | assumption) (by kernel_rfl) ?_
          repeat (go_big_quiet_step ((go_at_call 225; exact callsGr (unhide HA _))))
          refine wpQuiet_nil ?_
          intro _ hw'
          obtain ⟨⟨nq, osq⟩, hw''⟩ := hw'
          subst hw''
          have HEX2 := hide (unhide HEX _ ((Gr.refl wr).grow nq osq) ⟨xr, xc, xp⟩ ⟨yr, yc, yp⟩ rfl rfl)
          dsimp only at HEX2
          have HSQ := hide ((unhide SK).gr ((Gr.refl wr).grow nq osq))
          replace a1 := a1 nq osq
          replace a2 := a2 nq osq
          replace a3 := a3 nq osq
          replace b1 := b1 nq osq
          replace b2 := b2 nq osq
          replace b3 := b3 nq osq
          clear HEX SK
          generalize grow (wr.drewN nq) osq = wq at *
          have fr := (unhide HSQ).free
          have f1 := fr (k * 3)
          have f2 := fr (k * 3 + 1)
          have f3 := fr (k * 3 + 2)
          have f4 := fr (j * 3)
          have f5 := fr (j * 3 + 1)
          have f6 := fr (j * 3 + 2)
          clear fr
          go_wp2
          go_region
          clear a1 a2 a3 b1 b2 b3 f1 f2 f3 f4 f5 f6
          generalize (((((wq.setCell ⟨g2, k * 3, none⟩ (.int .i32 yr)).setCell ⟨g2, k * 3 + 1, none⟩ (.int .i64 yc)).setCell ⟨g2, k * 3 + 2, none⟩ (.int .i64 yp)).setCell ⟨g2, j * 3, none⟩ (.int .i32 xr)).setCell ⟨g2, j * 3 + 1, none⟩ (.int .i64 xc)).setCell ⟨g2, j * 3 + 2, none⟩ (.int .i64 xp) = wz at *
          go_wp2
          go_roundw
          case rel => exact ⟨k + 1, exch dk k j, true, rfl, by go_num, by omega, by omega, HPX, (unhide HEX2).gr (Gr.refl _).drew, unhide HSW hm2 hmk (by have := unhide HDL; omega) (unhide HLT)⟩
          case measure => simp [intOf]; omega
      · have hzl : ¬ (k : Int) < (n : Int) := by omega
        obtain rfl : k = n := by omega
        have HB1 : Hid (pot 0 dk ≤ potMax) := pot_max dk (by have := (unhide SK).dn; omega) fun x hx => unhide HGD x ((unhide PK).mem_iff.1 hx)
        have HB2 : Hid (pot 0 d ≤ potMax) := pot_max d (by have := (unhide SS).dn; omega) fun x hx => unhide HGD x ((unhide PP).mem_iff.1 hx)
        cases cb
        · by_cases hm1' : 1 < m2
          · have hz1 : (1 : Int) < (m2 : Int) := by omega
            have HMU : Hid (m2 + (potMax - pot 0 (marksAt wr g2 k)).toNat < m + (potMax - pot 0 (marksAt w3 g2 k)).toNat) := by
              show _ < _
              rw [(unhide SK).read, (unhide SS).read, ((unhide RK).2 rfl).1]
              omega
            go_wp2
            go_step3
            refine ⟨rfl, ⟨g2, cap2, m2, dk, ⟨_, _, _, _, _, _, _, _, _, _, _, _, _, _, _, _, _, _, _, _, _, _, _, _, _, _, _, _, _, _, _, _, _, _, _, _, _, _, _, _, _, _, _, _, _, _, _, _, _, _, _, _, _, _, _, _, _, _, _, _, _, _, _, _, _, _, _, rfl⟩, hm2, by omega, PK, SK⟩, ?_⟩
            simpa [mu, marksIn, intOf] using unhide HMU
          · obtain rfl : m2 = 1 := by omega
            have HS : Hid (dk.map Mk.r = S) := unhide HEND dk (unhide PK) ((unhide RK).end_ (unhide SS).dn)
            have HS0 : Hid (St w B w.heap.size g g2 N cap k cap2 (wb A S r Z 0) dk wr) := by show St _ _ _ _ _ _ _ _ _ _ _ _; rw [wb_zero]; exact unhide SK
            have HSG : Hid (∀ q, q < k → S.getD q 0 = (dk.getD q mk0).r) := fun q hq => by
              have hd := (unhide SK).dn
              rw [← unhide HS]
              simp [List.getD, (by omega : q < dk.length)]
            have hNk : off + k ≤ N := by
              rw [unhide HNA, unhide HOF, unhide HNR]; simp
            clear HB1 HB2 SK SS RK PP PK HEND
            go_wp2
            go_loopw [59] (fun i wk => ∃ q : Nat, q ≤ k ∧ i = .int .i64 (q : Int) ∧ Hid (St w B w.heap.size g g2 N cap k cap2 (wb A S r Z q) dk wk)) (fun i _ => k - (intOf i).toNat)
            case atStart => exact ⟨0, Nat.zero_le _, rfl, HS0⟩
            case round =>
              clear HS0
              obtain ⟨q, hqk, rfl, SQ⟩ := hrel
              by_cases hlt : q < k
              · have hzq : (q : Int) < (k : Int) := by omega
                have hzq0 : (0 : Int) ≤ (q : Int) := by omega
                obtain ⟨a1, a2, a3⟩ := (unhide SQ).cell q hlt
                have l1 := (unhide SQ).cellL (off + q) (by omega)
                have l2 := (unhide SQ).freeL (off + q)
                have lg := (unhide SQ).lt
                have HZ := hide (unhide HSG q hlt)
                have HWB := hide (wb_set A S r Z q (by rw [← unhide HNR]; exact hlt) (unhide HSL))
                rw [unhide HZ, ← unhide HOF] at HWB
                clear HZ
                generalize (wb A S r Z q).getD (off + q) 0 = oldz at *
                generalize dk.getD q mk0 = x at *
                obtain ⟨xr, xc, xp⟩ := x
                dsimp only at a1 a2 a3 HWB
                go_wp2
                go_roundw
                case rel => exact ⟨q + 1, by omega, by go_num, by show St _ _ _ _ _ _ _ _ _ _ _ _; rw [← unhide HWB]; exact ((unhide SQ).write _ _).gr (Gr.one _ _)⟩
                case measure => simp [intOf]; omega
              · have hzq : ¬ (q : Int) < (k : Int) := by omega
                obtain rfl : q = k := by omega
                have HF : Hid (Rn B (.slice (some ⟨g, 0, none⟩) N cap) (A ++ (S ++ Z)) wr ∧ w.grownBy wr (some g)) := by
                  have h := unhide SQ
                  have e := wb_all A S r Z (unhide HSL)
                  rw [← unhide HNR] at e
                  rw [e] at h
                  exact ⟨h.rn, h.gb⟩
                go_wp2
                simp only [Exit.jump]
                go_end0
                exact ⟨rfl, unhide HF⟩
        · have HMU : Hid (m2 + (potMax - pot 0 (marksAt wr g2 k)).toNat < m + (potMax - pot 0 (marksAt w3 g2 k)).toNat) := by
            have h1 := (unhide RK).1 rfl
            have h2 := unhide HB1
            show _ < _
            rw [(unhide SK).read, (unhide SS).read]
            omega
          go_wp2
          go_step3
          refine ⟨rfl, ⟨g2, cap2, m2, dk, ⟨_, _, _, _, _, _, _, _, _, _, _, _, _, _, _, _, _, _, _, _, _, _, _, _, _, _, _, _, _, _, _, _, _, _, _, _, _, _, _, _, _, _, _, _, _, _, _, _, _, _, _, _, _, _, _, _, _, _, _, _, _, _, _, _, _, _, _, rfl⟩, hm2, by omega, PK, SK⟩, ?_⟩
          simpa [mu, marksIn, intOf] using unhide HMU
  · intro hfirst
    have HF := hide hfirst
    clear hfirst
    go_wp2_with (first
       | (go_at_call 222; refine (unhide HO).mono ?_; rintro e w1 ⟨rfl, hg1⟩)
       | (go_at_call 223; refine (unhide HM _ hg1).mono ?_; rintro e w2 ⟨g2, cap2, rfl, hm2, hb2⟩))
    go_step3
    rename_i HK
    refine HK _ _ ?_
    have hs1 := hg1.size
    refine unhide HF _ _ ⟨g2, cap2, n, M0, ⟨_, _, _, _, _, _, _, _, _, _, _, _, _, _, _, _, _, _, _, _, _, _, _, _, _, _, _, _, _, _, _, _, _, _, _, _, _, _, _, _, _, _, _, _, _, _, _, _, _, _, _, _, _, _, _, _, _, _, _, _, _, _, _, _, _, _, _, rfl⟩, ?_, ?_, ?_, ?_⟩
    · exact h0
    · exact Nat.le_refl _
    · exact List.Perm.refl _
    · refine ⟨(unhide HR).below (hg1.below.trans (hb2.mono hs1)), ?_, below_grown (hg1.below.trans (hb2.mono hs1)) _, unhide HNA, (unhide HML).symm, hgw, Nat.le_trans hs1 hm2.lt.1⟩
      exact hm2.base hs1
end Go.Proofs.YtefobkgifigclaaGreatDoor
/- A run that stands well stays; a row is copied; a row is cut into its runs. -/
namespace Go.Proofs.YtefobkgifigclaaGreatDoor
set_option maxRecDepth 100000
open Go.RowKit

theorem rn_cells {B g N cap : Nat} {A r Z : List Int} {w : World} (hN : N = (A ++ (r ++ Z)).length) (hR : Rn B (.slice (some ⟨g, 0, none⟩) N cap) (A ++ (r ++ Z)) w) : ∀ i, i < r.length → w.cell? ⟨g, A.length + i, none⟩ = some (.int .i32 (r.getD i 0)) := fun i hi => by
  subst hN
  rw [World.ownsRow.cellAt hR (A.length + i) (by simp; omega)]
  rw [List.map_append, List.map_append, List.getElem?_append_right (by simp), List.length_map, Nat.add_sub_cancel_left, List.getElem?_append_left (by simpa using hi)]
  simp [List.getD, hi]
set_option maxHeartbeats 800000 in
theorem settle_well (B g N cap c2 off n : Nat) (A r Z : List Int) (w : World) (hlen : N ≤ 1000) (hN : N = (A ++ (r ++ Z)).length) (hoff : off = A.length) (hn : n = r.length) (hord : ordered cls r = true)
    (hR : Rn B (.slice (some ⟨g, 0, none⟩) N cap) (A ++ (r ++ Z)) w) :
    Calls Tryz.prog 195 #[.slice (some ⟨g, off, none⟩) n c2] w fun e w' => e = .returned (.tuple #[]) ∧ Gr w w' := by
  have hl : r.length ≤ N := by rw [hN]; simp; omega
  have hrow : Row w (.slice (some ⟨g, off, none⟩) n c2) r := ⟨_, c2, by rw [hn], fun _ => ⟨g, off, rfl, by rw [hoff]; exact rn_cells hN hR⟩⟩
  have HO := hide (aordd_gr _ _ w (by omega) hrow)
  rw [hord] at HO
  clear hrow hord hN hoff hn hR hl
  go_enter Tryz.func195, Tryz.ntmps195
  go_wp2
  go_step3
  go_wp2_with (go_at_call 222; refine (unhide HO).mono ?_; rintro e w1 ⟨rfl, hg1⟩)
  rw [Exit.noGoto_ret]
  try simp only [Exit.inBlock, Exit.then]
  refine bodyPost_ret (results_none rfl _ _ _) rfl ?_
  exact ⟨rfl, hg1⟩
theorem settle_any (B g N cap c2 off n : Nat) (A r Z : List Int) (w : World) (hlen : N ≤ 1000) (hN : N = (A ++ (r ++ Z)).length) (hoff : off = A.length) (hn : n = r.length) (h0 : 0 < n) (ht : ∀ x, x ∈ r.tail → cls x ≠ 0)
    (hR : Rn B (.slice (some ⟨g, 0, none⟩) N cap) (A ++ (r ++ Z)) w) :
    Calls Tryz.prog 195 #[.slice (some ⟨g, off, none⟩) n c2] w fun e w' => e = .returned (.tuple #[]) ∧ Rn B (.slice (some ⟨g, 0, none⟩) N cap) (A ++ (srt cls Kls r ++ Z)) w' ∧ w.grownBy w' (some g) := by
  cases hord : ordered cls r
  · exact settle_wrong B g N cap c2 off n A r Z w hlen hN hoff hn h0 hord hR
  · refine (settle_well B g N cap c2 off n A r Z w hlen hN hoff hn hord hR).mono ?_
    rintro e w1 ⟨rfl, hg⟩
    rw [srt_self Kls Kls_rise r (run_sorted r ht hord fun x _ => cls_nn x) fun x _ => cls_in x]
    exact ⟨rfl, hR.below hg.below, hg.grown _⟩

theorem eqnil_some (ad : Addr) (n c : Nat) (w : World) : (binOp .eql 131 (.slice (some ad) n c) (.slice none 0 0)).run Tryz.prog w = .ok (.bool false) w := by kernel_rfl
theorem eqnil_none (n c : Nat) (w : World) : (binOp .eql 131 (.slice none n c) (.slice none 0 0)).run Tryz.prog w = .ok (.bool true) w := by kernel_rfl
set_option maxHeartbeats 800000 in
theorem clone_any (v : Value) (l : List Int) (w : World) (hlen : l.length ≤ 1000) (hR : Row w v l) :
    Calls Tryz.prog 193 #[v] w fun e w' => ∃ v', e = .returned v' ∧ Rn w.heap.size v' l w' ∧ Below w.heap.size w w' := by
  obtain ⟨i0, hi, hz0, hz1, hz2⟩ := info_parts elem_info
  obtain ⟨a, cap, rfl, hc⟩ := hR
  cases a with
  | none =>
    have hl : l = [] := by
      by_cases h0 : 0 < l.length
      · obtain ⟨b, off, h, _⟩ := hc h0
        cases h
      · exact List.length_eq_zero_iff.1 (by omega)
    subst hl
    have hE := eqnil_none 0 cap
    go_enter Tryz.func193, Tryz.ntmps193
    go_wp2
    go_ret
    exact ⟨_, rfl, Rn.nil _ _, Below.refl _ _⟩
  | some ad =>
    by_cases h0 : 0 < l.length
    · obtain ⟨b, off, h, hcc⟩ := hc h0
      cases h
      have HNW : Hid (∀ j u, (l.map (Value.int .i32))[j]? = some u → (w.alloc (.cells #[] 21)).cell? ((⟨b, off, none⟩ : Addr).add j) = some u) := fun j u hu => by
        have hj : j < l.length := by have := (List.getElem?_eq_some_iff.1 hu).1; simpa using this
        have e : (⟨b, off, none⟩ : Addr).add j = ⟨b, off + j, none⟩ := by unfold Addr.add; split <;> simp_all
        have hu' : u = .int .i32 (l.getD j 0) := by
          rw [List.getElem?_map, List.getElem?_eq_getElem hj] at hu
          simp at hu
          rw [← hu]
          simp [List.getD, hj]
        rw [e, hu']
        exact (Gr.one w _).cell (hcc j hj)
      have HLM : Hid ((l.map (Value.int .i32)).length = l.length) := by show _ = _; simp
      have HON := hide (ints_one l)
      have HRN : Hid (∀ (v' : Value) (w' : World), w'.ownsRow w.heap.size 21 1 v' l.length (l.map (Value.int .i32)) → Rn w.heap.size v' l w') := fun v' w' h => h
      clear hcc hc
      generalize l.map (Value.int .i32) = news at *
      generalize l.length = n at *
      have hm1 : 0 + n ≤ maxLen := by unfold maxLen; omega
      have hE := eqnil_some ⟨b, off, none⟩ n cap
      go_enter Tryz.func193, Tryz.ntmps193
      go_wp2_with (at_builtin; refine wpList_append_lies _ rfl _ _ 131 rfl w.heap.size 21 i0 _ 1 4 Tryz.underlying131 hi hz0 hz1 hz2 rfl (by omega) _ 0 [] rfl (own_nil w _ (Nat.le_refl _)) ⟨b, off, none⟩ n cap news rfl (by rw [unhide HLM, Nat.mul_one]) (unhide HNW) (unhide HON) h0 hm1 (by omega) (by simp) (w.heap.size + 1) (by simp) ?_; intro g9 cap9 w9 hown9 hgrow9 hat9 hlt9)
      go_ret
      rw [Nat.zero_add, List.nil_append] at hown9
      exact ⟨_, rfl, unhide HRN _ _ hown9, (Below.one w _).trans (below_own hgrow9 (by simp) (own_block (own_nil w _ (Nat.le_refl _))))⟩
    · obtain rfl : l = [] := List.length_eq_zero_iff.1 (by omega)
      have hE := eqnil_some ad 0 cap
      go_enter Tryz.func193, Tryz.ntmps193
      go_wp2
      go_ret
      exact ⟨_, rfl, own_nil w _ (Nat.le_refl _), Below.one w _⟩

/-- A slice of slices of one block: the runs rs, one behind the other. -/
def Ct (w : World) (B g : Nat) (v : Value) (rs : List (List Int)) : Prop :=
  ∃ vs : List Value, vs.length = rs.length ∧ w.ownsRow B 131 1 v rs.length vs ∧ ∀ i, i < rs.length → vs[i]? = some (.slice (some ⟨g, (rs.take i).flatten.length, none⟩) (rs.getD i []).length (rs.getD i []).length)
theorem Ct.nil (w : World) (B g : Nat) : Ct w B g (.slice none 0 0) [] := ⟨[], rfl, World.ownsRow_nil _ _ _ _, fun i hi => by simp at hi⟩
theorem Ct.below {w w2 : World} {B g : Nat} {v : Value} {rs : List (List Int)} (h : Ct w B g v rs) (hb : Below w.heap.size w w2) : Ct w2 B g v rs := by
  obtain ⟨vs, h1, h2, h3⟩ := h
  exact ⟨vs, h1, own_below h2 hb, h3⟩
theorem Ct.shape {w : World} {B g : Nat} {v : Value} {rs : List (List Int)} (h : Ct w B g v rs) : ∃ a c, v = .slice a rs.length c := by
  obtain ⟨vs, h1, h2, _⟩ := h
  rcases h2.2 with ⟨hv, h0⟩ | ⟨g, cap, cur, hv, _⟩
  · exact ⟨none, 0, by rw [hv, h0]⟩
  · exact ⟨_, cap, hv⟩
theorem Ct.push {w w9 : World} {B g g9 cap9 M : Nat} {v : Value} {rs : List (List Int)} {now : List Int} (h : Ct w B g v rs) (hM : M = rs.length) (vs : List Value) (hvs : w.ownsRow B 131 1 v M vs) (F n : Nat) (hF : F = rs.flatten.length) (hn : n = now.length)
    (hown9 : w9.ownsRow B 131 1 (.slice (some ⟨g9, 0, none⟩) (M + 1) cap9) (M + 1) (vs ++ [.slice (some ⟨g, F, none⟩) n n])) : Ct w9 B g (.slice (some ⟨g9, 0, none⟩) (M + 1) cap9) (rs ++ [now]) := by
  obtain ⟨us, h1, h2, h3⟩ := h
  subst hM hF hn
  obtain rfl := own_same h2 hvs
  refine ⟨us ++ [.slice (some ⟨g, rs.flatten.length, none⟩) now.length now.length], by simp [h1], by simpa using hown9, fun i hi => ?_⟩
  by_cases hl : i < rs.length
  · have e : (rs ++ [now]).getD i [] = rs.getD i [] := by simp [List.getD, List.getElem?_append_left hl]
    rw [e, List.getElem?_append_left (by omega), List.take_append_of_le_length (by omega)]
    exact h3 i hl
  · have hi' : i = rs.length := by simp at hi; omega
    subst hi'
    have e : (rs ++ [now]).getD rs.length [] = now := by simp [List.getD]
    rw [e, ← h1]
    simp [h1]
theorem rfold_two (c : Int → Int) (l : List Int) : (rfold c l).1.flatten.length + (rfold c l).2.length = l.length := by
  have := congrArg List.length (rfold_inv (c := c) l).1
  rw [List.length_append] at this
  exact this
set_option maxHeartbeats 800000 in
theorem cut_empty (a : Option Addr) (cap : Nat) (w : World) (g : Nat) :
    Calls Tryz.prog 194 #[.slice a 0 cap] w fun e w' => ∃ v, e = .returned v ∧ Ct w' w.heap.size g v [] ∧ Below w.heap.size w w' := by
  go_enter Tryz.func194, Tryz.ntmps194
  go_wp2
  refine wp_loop_rounds 1 ?_
  rw [rounds_succ]
  go_wp2
  go_ret
  exact ⟨_, rfl, Ct.nil _ _ _, Below.refl _ _⟩
set_option maxHeartbeats 6400000 in
theorem cut_some (g N cap : Nat) (l : List Int) (w : World) (hlen : N ≤ 1000) (hN : N = l.length) (h0 : 0 < N) (hcap : N ≤ cap)
    (hcell : ∀ i, i < N → w.cell? ⟨g, i, none⟩ = some (.int .i32 (l.getD i 0))) :
    Calls Tryz.prog 194 #[.slice (some ⟨g, 0, none⟩) N cap] w fun e w' => ∃ v, e = .returned v ∧ Ct w' w.heap.size g v (runsL cls l) ∧ Below w.heap.size w w' := by
  obtain ⟨i1, gi, gz0, gz1, gz2⟩ := info_parts elem_info2
  have HC := hide hcell
  have HCL := hide class_any
  have HNL := hide hN
  clear hcell hN
  go_enter Tryz.func194, Tryz.ntmps194
  go_wp2
  go_loopw [3, 4, 9] (fun v3 f i wr => ∃ k : Nat, k ≤ N ∧ i = .int .i64 (k : Int) ∧ f = .int .i64 ((rfold cls (l.take k)).1.flatten.length : Int) ∧ Hid (Ct wr w.heap.size g v3 (rfold cls (l.take k)).1) ∧ Below w.heap.size w wr) (fun _ _ i _ => N - (intOf i).toNat)
  case atStart => exact ⟨0, Nat.zero_le _, rfl, rfl, Ct.nil _ _ _, Below.refl _ _⟩
  case round =>
    obtain ⟨k, hk, rfl, rfl, CT, hb⟩ := hrel
    have hsz := hb.size
    have hfl := rfold_len cls (l.take k)
    have hft := rfold_two cls (l.take k)
    rw [List.length_take, ← unhide HNL, Nat.min_eq_left hk] at hfl hft
    by_cases hlt : k < N
    · have hzl : (k : Int) < (N : Int) := by omega
      have hz0' : (0 : Int) ≤ (k : Int) := by omega
      have k1 : wr.cell? ⟨g, k, none⟩ = some (.int .i32 (l.getD k 0)) := (hb.cell (by exact cell_lt (unhide HC k hlt))).trans (unhide HC k hlt)
      have HS := hide (rfold_take cls l k (by rw [← unhide HNL]; exact hlt))
      have HK := hide (unhide HCL (l.getD k 0))
      generalize l.getD k 0 = x at *
      generalize rfold cls (l.take k) = s at *
      obtain ⟨out, now⟩ := s
      dsimp only at CT hfl hft
      obtain ⟨q, hq⟩ : ∃ q, cls x = q := ⟨_, rfl⟩
      rw [hq] at HK
      have HQ := hide hq
      clear hq
      obtain ⟨a3, c3, hv3⟩ := (unhide CT).shape
      obtain ⟨M, hM⟩ : ∃ M, M = out.length := ⟨_, rfl⟩
      obtain ⟨F, hF⟩ : ∃ F, F = out.flatten.length := ⟨_, rfl⟩
      obtain ⟨n, hn⟩ : ∃ n, n = now.length := ⟨_, rfl⟩
      rw [← hM] at hv3 hfl
      rw [← hF, ← hn] at hft
      rw [← hn] at hfl
      dsimp only
      rw [← hF]
      have HM := hide hM
      have HF := hide hF
      have HN := hide hn
      clear hM hF hn
      subst hv3
      by_cases hF : F < k
      · have hzF : (F : Int) < (k : Int) := by omega
        by_cases hq0 : q = 0
        · subst hq0
          have HE : Hid (rfold cls (l.take (k + 1)) = (out ++ [now], [x])) := by
            show _ = _
            rw [unhide HS]
            unfold rstep
            rw [if_pos ⟨unhide HQ, fun h => by have h' : now = [] := h; have := unhide HN; rw [h'] at this; simp at this; omega⟩]
          have hm3 : M + 1 ≤ maxLen := by unfold maxLen; omega
          have hm4 : (M + 1) * 24 ≤ 140737488355328 := by omega
          have hF0 : (0 : Int) ≤ (F : Int) := by omega
          have hFk : (F : Int) ≤ (k : Int) := by omega
          have hkc : (k : Int) ≤ (cap : Int) := by omega
          obtain ⟨vs, hvs⟩ : ∃ vs, wr.ownsRow w.heap.size 131 1 (.slice a3 M c3) M vs := by
            obtain ⟨vs, _, h2, _⟩ := unhide CT
            rw [← unhide HM] at h2
            exact ⟨vs, h2⟩
          have HV := hide hvs
          clear hvs
          go_wp2_with (first
            | (go_at_call 196; refine (unhide HK _).mono ?_; rintro e w2 ⟨rfl, g2⟩; have VS2 := hide (own_below (unhide HV) g2.below); have hb2 := hb.trans (g2.below.mono hsz); have hs2 := hb2.size)
            | (at_builtin; refine wpList_append_lies _ rfl _ _ 237 rfl w.heap.size 131 i1 _ 1 24 Tryz.underlying237 gi gz0 gz1 gz2 rfl (by omega) _ M _ rfl (World.ownsRow.alloc (unhide VS2) _) ⟨w2.heap.size, 0, none⟩ 1 1 [.slice (some ⟨g, F, none⟩) (k - F) (k - F)] rfl rfl (World.news_of_block (cs := #[.slice (some ⟨g, F, none⟩) (k - F) (k - F)]) (t := 131) (fr := (0, 0)) (heap_new w2 _)) (by simp [Value.oneCell']) (by omega) hm3 hm4 (by simp; omega) (w2.heap.size + 1) (by simp) ?_; intro g9 cap9 w9 hown9 hgrow9 hat9 hlt9))
          go_roundw
          case rel =>
            refine ⟨k + 1, by omega, by go_num, ?_, ?_, (hb2.alloc (by omega) _).trans (below_own hgrow9 (by simp; omega) (own_block (unhide VS2)))⟩
            · rw [unhide HE]
              congr 1
              have := unhide HF
              have := unhide HN
              simp only [List.flatten_append, List.length_append, List.flatten_cons, List.flatten_nil, List.append_nil]
              omega
            · rw [unhide HE]
              exact Ct.push ((unhide CT).below g2.below) (unhide HM) vs (unhide VS2) F (k - F) (unhide HF) (by have := unhide HN; omega) hown9
          case measure => simp [intOf]; omega
        · have hqz : (q == 0) = false := by simpa using hq0
          have HE : Hid (rfold cls (l.take (k + 1)) = (out, now ++ [x])) := by
            show _ = _
            rw [unhide HS]
            unfold rstep
            rw [if_neg fun h => hq0 ((unhide HQ).symm.trans h.1)]
          go_wp2_with (go_at_call 196; refine (unhide HK _).mono ?_; rintro e w2 ⟨rfl, g2⟩)
          go_roundw
          case rel => exact ⟨k + 1, by omega, by go_num, by rw [unhide HE]; show Value.int .i64 (F : Int) = .int .i64 (out.flatten.length : Int); rw [← unhide HF], by rw [unhide HE]; exact (unhide CT).below g2.below, hb.trans (g2.below.mono hsz)⟩
          case measure => simp [intOf]; omega
      · have hzF : ¬ (F : Int) < (k : Int) := by omega
        have HE : Hid (rfold cls (l.take (k + 1)) = (out, now ++ [x])) := by
          show _ = _
          rw [unhide HS]
          unfold rstep
          rw [if_neg]
          rintro ⟨_, h2⟩
          refine h2 (List.length_eq_zero_iff.1 ?_)
          show now.length = 0
          rw [← unhide HN]
          omega
        go_wp2
        go_roundw
        case rel => exact ⟨k + 1, by omega, by go_num, by rw [unhide HE]; show Value.int .i64 (F : Int) = .int .i64 (out.flatten.length : Int); rw [← unhide HF], by rw [unhide HE]; exact unhide CT, hb⟩
        case measure => simp [intOf]; omega
    · have hzl : ¬ (k : Int) < (N : Int) := by omega
      obtain rfl : k = N := by omega
      have HRU : Hid (runsL cls l = (rfold cls (l.take k)).1 ++ [(rfold cls (l.take k)).2]) := by
        show _ = _
        rw [unhide HNL, List.take_length]
        unfold runsL rfin
        rw [if_pos]
        intro h
        have h1 := (rfold_inv (c := cls) l).2.2.2 h
        have h2 := unhide HNL
        rw [h1] at h2
        simp at h2
        omega
      have HN0 : Hid ((rfold cls (l.take k)).2 ≠ []) := by
        intro h
        have h1 := (rfold_inv (c := cls) (l.take k)).2.2.2 h
        have h2 := congrArg List.length h1
        rw [List.length_take, ← unhide HNL] at h2
        simp at h2
        omega
      generalize rfold cls (l.take k) = s at *
      obtain ⟨out, now⟩ := s
      dsimp only at CT hfl hft HRU HN0
      obtain ⟨a3, c3, hv3⟩ := (unhide CT).shape
      obtain ⟨M, hM⟩ : ∃ M, M = out.length := ⟨_, rfl⟩
      obtain ⟨F, hF⟩ : ∃ F, F = out.flatten.length := ⟨_, rfl⟩
      obtain ⟨n, hn⟩ : ∃ n, n = now.length := ⟨_, rfl⟩
      have hn0 : 0 < n := by rw [hn]; exact List.length_pos_iff.2 (unhide HN0)
      rw [← hM] at hv3 hfl
      rw [← hF, ← hn] at hft
      rw [← hn] at hfl
      dsimp only
      rw [← hF]
      have HM := hide hM
      have HF := hide hF
      have HN := hide hn
      clear hM hF hn
      subst hv3
      have hzF : (F : Int) < (k : Int) := by omega
      have hm3 : M + 1 ≤ maxLen := by unfold maxLen; omega
      have hm4 : (M + 1) * 24 ≤ 140737488355328 := by omega
      have hF0 : (0 : Int) ≤ (F : Int) := by omega
      have hFk : (F : Int) ≤ (k : Int) := by omega
      have hkc : (k : Int) ≤ (cap : Int) := by omega
      obtain ⟨vs, hvs⟩ : ∃ vs, wr.ownsRow w.heap.size 131 1 (.slice a3 M c3) M vs := by
        obtain ⟨vs, _, h2, _⟩ := unhide CT
        rw [← unhide HM] at h2
        exact ⟨vs, h2⟩
      have VS2 := hide hvs
      clear hvs
      go_wp2_with (at_builtin; refine wpList_append_lies _ rfl _ _ 237 rfl w.heap.size 131 i1 _ 1 24 Tryz.underlying237 gi gz0 gz1 gz2 rfl (by omega) _ M _ rfl (World.ownsRow.alloc (unhide VS2) _) ⟨wr.heap.size, 0, none⟩ 1 1 [.slice (some ⟨g, F, none⟩) (k - F) (k - F)] rfl rfl (World.news_of_block (cs := #[.slice (some ⟨g, F, none⟩) (k - F) (k - F)]) (t := 131) (fr := (0, 0)) (heap_new wr _)) (by simp [Value.oneCell']) (by omega) hm3 hm4 (by simp; omega) (wr.heap.size + 1) (by simp) ?_; intro g9 cap9 w9 hown9 hgrow9 hat9 hlt9)
      go_ret
      refine ⟨_, rfl, ?_, (hb.alloc (by omega) _).trans (below_own hgrow9 (by simp; omega) (own_block (unhide VS2)))⟩
      rw [unhide HRU]
      exact Ct.push (unhide CT) (unhide HM) vs (unhide VS2) F (k - F) (unhide HF) (by have := unhide HN; omega) hown9
end Go.Proofs.YtefobkgifigclaaGreatDoor
/- Contracts of the landed arrange: Order, Ordered, Runs, of any row of at most a thousand numbers. -/
namespace Go.Proofs.YtefobkgifigclaaGreatDoor
set_option maxRecDepth 100000
open Go.RowKit

def Ly6 (_ : World) : Prop := True
theorem Ly6.keep {w w2 : World} (_ : Ly6 w) (_ : Below w.heap.size w w2) : Ly6 w2 := trivial

theorem aordd_any (v : Value) (l : List Int) (w : World) (_ : Ly6 w) (hlen : l.length ≤ 1000) (hR : Row w v l) : Calls Tryz.prog 222 #[v] w fun e w' => e = .returned (.bool (ordered cls l)) ∧ Below w.heap.size w w' := by
  refine (aordd_gr v l w (by omega) hR).mono ?_
  rintro e w1 ⟨rfl, hg⟩
  exact ⟨rfl, hg.below⟩

theorem flat_at : ∀ (rs : List (List Int)) (i j : Nat), i < rs.length → j < (rs.getD i []).length → (rs.take i).flatten.length + j < rs.flatten.length ∧ rs.flatten.getD ((rs.take i).flatten.length + j) 0 = (rs.getD i []).getD j 0
  | [], _, _, h, _ => by simp at h
  | r :: rs, 0, j, _, hj => by
    have hj' : j < r.length := hj
    refine ⟨by simp; omega, ?_⟩
    have e : (r :: rs).getD 0 [] = r := rfl
    rw [e]
    simp [List.getD, List.getElem?_append_left hj']
  | r :: rs, i + 1, j, h, hj => by
    have e : (r :: rs).getD (i + 1) [] = rs.getD i [] := rfl
    rw [e] at hj ⊢
    obtain ⟨h1, h2⟩ := flat_at rs i j (by simpa using h) hj
    rw [List.take_succ_cons, List.flatten_cons, List.flatten_cons, List.length_append, List.length_append]
    refine ⟨by omega, ?_⟩
    rw [← h2]
    have e2 : r.length + (rs.take i).flatten.length + j = r.length + ((rs.take i).flatten.length + j) := by omega
    rw [e2]
    simp [List.getD, List.getElem?_append_right]
/-- Runs that lie in a row are read as runs. -/
theorem Ct.rr {w : World} {B C g N cap : Nat} {v : Value} {rs : List (List Int)} (h : Ct w B g v rs) (hN : N = rs.flatten.length) (hR : Rn C (.slice (some ⟨g, 0, none⟩) N cap) rs.flatten w) : RR w v rs := by
  obtain ⟨vs, h1, h2, h3⟩ := h
  subst hN
  rcases h2.2 with ⟨hv, h0⟩ | ⟨b, c, cur, hv, _⟩
  · exact ⟨none, 0, by rw [hv, h0], fun hi => by omega⟩
  · refine ⟨some ⟨b, 0, none⟩, c, hv, fun _ => ⟨b, 0, rfl, fun i hi => ?_⟩⟩
    have e1 := World.ownsRow.cells h2 (g := b) (by rw [hv]; rfl) i _ (h3 i hi)
    rw [add_zero3] at e1
    refine ⟨g, (rs.take i).flatten.length, _, by rw [Nat.zero_add]; exact e1, fun j hj => ?_⟩
    obtain ⟨k1, k2⟩ := flat_at rs i j hi hj
    rw [World.ownsRow.cellAt hR _ (by omega), ← k2]
    generalize rs.flatten = l at *
    generalize (rs.take i).flatten.length + j = m at *
    simp [List.getD, k1]
theorem Ct.at {w : World} {B g R c : Nat} {a : Option Addr} {rs : List (List Int)} (h : Ct w B g (.slice a R c) rs) (hR : R = rs.length) (n : Nat) (hn : n < R) :
    ∃ b, a = some ⟨b, 0, none⟩ ∧ w.cell? ⟨b, n, none⟩ = some (.slice (some ⟨g, (rs.take n).flatten.length, none⟩) (rs.getD n []).length (rs.getD n []).length) := by
  obtain ⟨vs, h1, h2, h3⟩ := h
  subst hR
  rcases h2.2 with ⟨hv, h0⟩ | ⟨b, c, cur, hv, _⟩
  · omega
  · cases hv
    refine ⟨b, rfl, ?_⟩
    have e1 := World.ownsRow.cells h2 (g := b) rfl n _ (h3 n hn)
    rwa [add_zero3] at e1
theorem Ct.kept {w w' : World} {B g : Nat} {v : Value} {rs : List (List Int)} (h : Ct w B g v rs) (hg : w.grownBy w' (some g)) (hB : g < B) : Ct w' B g v rs := by
  obtain ⟨vs, h1, h2, h3⟩ := h
  refine ⟨vs, h1, h2.kept hg ?_, h3⟩
  rcases h2.2 with ⟨hv, h0⟩ | ⟨b, c, cur, hv, hb, _⟩
  · left; rw [hv]; rfl
  · right; rw [hv]; simp [Value.ownBlock]; omega
theorem Rn.full {w : World} {B : Nat} {v : Value} {l : List Int} (h : Rn B v l w) (hl : 0 < l.length) : ∃ g c, v = .slice (some ⟨g, 0, none⟩) l.length c ∧ l.length ≤ c ∧ B ≤ g ∧ g < w.heap.size := by
  rcases h.2 with ⟨hv, h0⟩ | ⟨g, cap, cur, hv, hB, hg, hc, _⟩
  · omega
  · exact ⟨g, cap, hv, hc, hB, (Array.getElem?_eq_some_iff.1 hg).1⟩
theorem Rn.at {w : World} {B g N cap : Nat} {l : List Int} (h : Rn B (.slice (some ⟨g, 0, none⟩) N cap) l w) (hN : N = l.length) : ∀ i, i < N → w.cell? ⟨g, i, none⟩ = some (.int .i32 (l.getD i 0)) := fun i hi => by
  subst hN
  rw [World.ownsRow.cellAt h i (by omega)]
  simp [List.getD, hi]

theorem take_drop_run (rs : List (List Int)) (n : Nat) (h : n < rs.length) : (rs.drop n).flatten = rs.getD n [] ++ (rs.drop (n + 1)).flatten := by
  rw [List.drop_eq_getElem_cons h, List.flatten_cons]
  simp [List.getD, h]
theorem srt_flat_len (rs : List (List Int)) : (rs.flatMap (srt cls Kls)).length = rs.flatten.length := by
  induction rs with
  | nil => rfl
  | cons r rs ih => rw [List.flatMap_cons, List.flatten_cons, List.length_append, List.length_append, ih, srt_len Kls_rise r fun x _ => cls_in x]
theorem srt_take (rs : List (List Int)) (n : Nat) (h : n < rs.length) : (rs.take (n + 1)).flatMap (srt cls Kls) = (rs.take n).flatMap (srt cls Kls) ++ srt cls Kls (rs.getD n []) := by
  have e : rs.take (n + 1) = rs.take n ++ [rs.getD n []] := by
    rw [List.take_succ_eq_append_getElem h]; simp [List.getD, h]
  rw [e, List.flatMap_append]
  simp
/-- The row while n of its runs are settled. -/
def rowAt (rs : List (List Int)) (n : Nat) : List Int := (rs.take n).flatMap (srt cls Kls) ++ (rs.drop n).flatten
theorem rowAt_len (rs : List (List Int)) (n : Nat) : (rowAt rs n).length = rs.flatten.length := by
  unfold rowAt
  rw [List.length_append, srt_flat_len, ← List.length_append, ← List.flatten_append, List.take_append_drop]
set_option maxHeartbeats 3200000 in
theorem aord_any (v : Value) (l : List Int) (w : World) (_ : Ly6 w) (hlen : l.length ≤ 1000) (hR : Row w v l) : Calls Tryz.prog 159 #[v] w fun e w' => ∃ v, e = .returned v ∧ Row w' v (ordL cls Kls l) ∧ Below w.heap.size w w' := by
  have HC := hide (clone_any v l w hlen hR)
  clear hR
  by_cases h0 : 0 < l.length
  · have HCU := hide cut_some
    have HFL := hide (runs_flat (c := cls) l)
    have HRY := hide (runs_runny (c := cls) l).1
    have HST := hide settle_any
    have hrl := runs_len l
    have HEND : Hid (ordL cls Kls l = rowAt (runsL cls l) (runsL cls l).length) := by show _ = _; unfold rowAt ordL; simp
    obtain ⟨N, hN⟩ : ∃ N, N = l.length := ⟨_, rfl⟩
    rw [← hN] at h0 hlen hrl
    have HNL := hide hN
    clear hN
    go_enter Tryz.func159, Tryz.ntmps159
    go_wp2_with (first
      | (go_at_call 193; refine (unhide HC).mono ?_; rintro e w1 ⟨v1, rfl, r1, b1⟩; obtain ⟨g1, c1, hv1, hc1, hB1, hg1⟩ := r1.full (by rw [← unhide HNL]; exact h0); rw [← unhide HNL] at hv1 hc1; subst hv1; have R1 := hide r1; clear r1)
      | (go_at_call 194; refine (unhide HCU g1 _ c1 l w1 hlen (unhide HNL) h0 hc1 (Rn.at (unhide R1) (unhide HNL))).mono ?_; rintro e w2 ⟨v2, rfl, ct2, b2⟩; generalize runsL cls l = rs at *; obtain ⟨a2, c2, hv2⟩ := ct2.shape; obtain ⟨R, hRn⟩ : ∃ R, R = rs.length := ⟨_, rfl⟩; rw [← hRn] at hv2 hrl; have HRN := hide hRn; clear hRn; subst hv2; have CT := hide ct2; clear ct2; have R2 := hide ((unhide R1).below b2); have hb2 := b1.trans (b2.mono b1.size)))
    have HR0 : Hid (Rn w.heap.size (.slice (some ⟨g1, 0, none⟩) N c1) (rowAt rs 0) w2) := by
      have h := unhide R2
      show Rn _ _ _ _
      unfold rowAt
      rw [List.take_zero, List.drop_zero, unhide HFL]
      exact h
    have HNR : Hid (∀ n, N = (rowAt rs n).length) := fun n => by rw [rowAt_len, unhide HFL]; exact unhide HNL
    go_loopw [11] (fun i wr => ∃ n : Nat, n ≤ R ∧ i = .int .i64 (n : Int) ∧ Hid (Rn w.heap.size (.slice (some ⟨g1, 0, none⟩) N c1) (rowAt rs n) wr) ∧ Hid (Ct wr w1.heap.size g1 (.slice a2 R c2) rs) ∧ Below w.heap.size w wr) (fun i _ => R - (intOf i).toNat)
    case atStart => exact ⟨0, Nat.zero_le _, rfl, HR0, CT, hb2⟩
    case round =>
      clear HR0 R1 R2 CT
      obtain ⟨n, hn, rfl, RK, CK, hb⟩ := hrel
      by_cases hlt : n < R
      · have hzl : (n : Int) < (R : Int) := by omega
        have hz0 : (0 : Int) ≤ (n : Int) := by omega
        obtain ⟨b, rfl, hcell⟩ := (unhide CK).at (unhide HRN) n hlt
        have hlr : n < rs.length := by rw [← unhide HRN]; exact hlt
        have HAL := hide (srt_flat_len (rs.take n))
        have HRA : Hid (rowAt rs n = (rs.take n).flatMap (srt cls Kls) ++ (rs.getD n [] ++ (rs.drop (n + 1)).flatten)) := by show _ = _; unfold rowAt; rw [take_drop_run rs n hlr]
        have HRB : Hid (rowAt rs (n + 1) = (rs.take n).flatMap (srt cls Kls) ++ (srt cls Kls (rs.getD n []) ++ (rs.drop (n + 1)).flatten)) := by show _ = _; unfold rowAt; rw [srt_take rs n hlr, List.append_assoc]
        have HRY2 := hide (unhide HRY (rs.getD n []) (by simp [List.getD, hlr]))
        have HN2 := hide (unhide HNR n)
        rw [unhide HRA] at RK HN2
        clear HRA hlr
        generalize (rs.take n).flatMap (srt cls Kls) = A at *
        generalize rs.getD n [] = r at *
        generalize (rs.drop (n + 1)).flatten = Z at *
        have HSE := hide (unhide HST w.heap.size g1 N c1 r.length (rs.take n).flatten.length r.length A r Z wr hlen (unhide HN2) (unhide HAL).symm rfl (List.length_pos_iff.2 (unhide HRY2).1) (unhide HRY2).2 (unhide RK))
        generalize (rs.take n).flatten.length = off at *
        generalize r.length = rl at *
        go_wp2_with (go_at_call 195; refine (unhide HSE).mono ?_; rintro e w3 ⟨rfl, rn3, gb3⟩)
        go_roundw
        case rel => exact ⟨n + 1, by omega, by go_num, by show Rn _ _ _ _; rw [unhide HRB]; exact rn3, (unhide CK).kept gb3 hg1, hb.trans (below_own gb3 hb.size (fun g h => by cases h; exact hB1))⟩
        case measure => simp [intOf]; omega
      · have hzl : ¬ (n : Int) < (R : Int) := by omega
        obtain rfl : n = R := by omega
        rw [← unhide HRN] at HEND
        rw [← unhide HEND] at RK
        have HRW := hide (unhide RK).row
        go_wp2
        go_ret
        exact ⟨_, rfl, unhide HRW, hb⟩
  · obtain rfl : l = [] := List.length_eq_zero_iff.1 (by omega)
    have HCU := hide cut_empty
    have HE : Hid (ordL cls Kls [] = []) := by show _ = _; rfl
    go_enter Tryz.func159, Tryz.ntmps159
    go_wp2_with (first
      | (go_at_call 193; refine (unhide HC).mono ?_; rintro e w1 ⟨v1, rfl, r1, b1⟩; obtain ⟨a1, c1, hv1⟩ := r1.shape; subst hv1; clear r1)
      | (go_at_call 194; refine (unhide HCU a1 c1 w1 0).mono ?_; rintro e w2 ⟨v2, rfl, ct2, b2⟩; obtain ⟨a2, c2, hv2⟩ := ct2.shape; subst hv2; clear ct2))
    refine wp_loop_rounds 1 ?_
    rw [rounds_succ]
    go_wp2
    go_ret
    refine ⟨_, rfl, ?_, b1.trans (b2.mono b1.size)⟩
    rw [unhide HE]
    exact Row.nil _ _ _
end Go.Proofs.YtefobkgifigclaaGreatDoor
