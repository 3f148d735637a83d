/- settle: a run's marks are put in order. -/
import Derived.Test.YtlbigebaepecpaaArd6
import Derived.BigQuiet
import Derived.BigRegion
namespace Go.Proofs.Ytlbigebaepecpaa
open Go.RowKit
open Go.Sort (grow)

theorem cls_230 (x : Int) : cls x ≤ 230 := by
  have := cls_in x
  unfold Kls at this
  simp at this
  omega
/-- How much is still to be done at the label. -/
def marksIn (w : World) : Value → List Mk
  | .slice (some ad) n _ => marksAt w ad.block n
  | _ => []
def mu (a : Act) (w : World) : Nat := (intOf (a.tmps.getD 3 undef)).toNat + (potMax - pot 0 (marksIn w (a.tmps.getD 2 undef))).toNat

/-- The frame at the label. -/
def Frm (g off n c2 g2 cap2 m : Nat) (a : Act) : Prop := ∃ u1 u4 u5 u6 u7 u8 u9 u10 u11 u12 u13 u14 u15 u16 u17 u18 u19 u20 u21 u22 u23 u24 u25 u26 u27 u28 u29 u30 u31 u32 u33 u34 u35 u36 u37 u38 u39 u40 u41 u42 u43 u44 u45 u46 u47 u48 u49 u50 u51 u52 u53 u54 u55 u56 u57 u58 u59 u60 u61 u62 u63 u64 u65 u66 u67 u68 u69 : Value, a = { tmps := #[.slice (some ⟨g, off, none⟩) n c2, u1, .slice (some ⟨g2, 0, none⟩) n cap2, .int .i64 (m : Int), u4, u5, u6, u7, u8, u9, u10, u11, u12, u13, u14, u15, u16, u17, u18, u19, u20, u21, u22, u23, u24, u25, u26, u27, u28, u29, u30, u31, u32, u33, u34, u35, u36, u37, u38, u39, u40, u41, u42, u43, u44, u45, u46, u47, u48, u49, u50, u51, u52, u53, u54, u55, u56, u57, u58, u59, u60, u61, u62, u63, u64, u65, u66, u67, u68, u69], defers := [] }
set_option maxHeartbeats 6400000 in
theorem settle_wrong (B g N cap c2 off n : Nat) (A r Z : List Int) (w : World) (hlen : N ≤ 1000) (hN : N = (A ++ (r ++ Z)).length) (hoff : off = A.length) (hn : n = r.length) (h0 : 0 < n) (hord : ordered cls r = false)
    (hR : Rn B (.slice (some ⟨g, 0, none⟩) N cap) (A ++ (r ++ Z)) w) :
    Calls Try.prog 19 #[.slice (some ⟨g, off, none⟩) n c2] w fun e w' => e = .returned (.tuple #[]) ∧ Rn B (.slice (some ⟨g, 0, none⟩) N cap) (A ++ (srt cls Kls r ++ Z)) w' ∧ w.grownBy w' (some g) := by
  have mx : Try.prog.follows .mixedOrders = true := by kernel_rfl
  have hnN : n ≤ N := by rw [hN, hn]; simp; omega
  have hcell : ∀ i, i < r.length → w.cell? ⟨g, off + i, none⟩ = some (.int .i32 (r.getD i 0)) := fun i hi => by
    have hl : (A ++ (r ++ Z)).length = N := hN.symm
    subst hN
    rw [World.ownsRow.cellAt hR (off + i) (by simp; omega), hoff]
    rw [List.map_append, List.map_append, List.getElem?_append_right (by simp), List.length_map, Nat.add_sub_cancel_left, List.getElem?_append_left (by simpa using hi)]
    simp [List.getD, hi]
  have hrow : Row w (.slice (some ⟨g, off, none⟩) n c2) r := ⟨_, c2, by rw [hn], fun _ => ⟨g, off, rfl, hcell⟩⟩
  have HO := hide (aordd_gr _ _ w (by omega) hrow)
  rw [hord] at HO
  have HM := hide (fun w1 (h : Gr w w1) => marks_any g off c2 r w1 (by omega) (by omega) (fun i hi => h.cell (hcell i hi)))
  rw [← hn] at HM
  have HGD : Hid (∀ m, m ∈ mks cls 0 r → m.good) := mks_good cls_nn cls_230 r (by omega)
  have HEND : Hid (∀ d : List Mk, d.Perm (mks cls 0 r) → (d.Pairwise fun a b => a.key ≤ b.key) → d.map Mk.r = srt cls Kls r) := fun d h1 h2 => comb_end Kls_rise cls_in cls_nn cls_230 r (by omega) d h1 h2
  have HSL : Hid ((srt cls Kls r).length = r.length) := srt_len Kls_rise r fun x _ => cls_in x
  have HML : Hid ((mks cls 0 r).length = n) := by show _ = _; rw [mks_len, hn]
  have HNA := hide hN
  have HOF := hide hoff
  have HNR := hide hn
  have HR := hide hR
  have hgw : g < w.heap.size := (World.ownsRow.lt hR g rfl).2
  clear hcell hrow hord hN hoff hn hR
  generalize mks cls 0 r = M0 at *
  generalize srt cls Kls r = S at *
  go_enter Try.func19, Try.ntmps19
  go_wp2
  refine scope_jumps 0 (fun a wr => ∃ (g2 cap2 m : Nat) (d : List Mk), Frm g off n c2 g2 cap2 m a ∧ 1 ≤ m ∧ m ≤ n ∧ Hid (d.Perm M0) ∧ Hid (St w B w.heap.size g g2 N cap n cap2 (A ++ (r ++ Z)) d wr)) mu rfl ?_ ?_
  · rintro a' wl ⟨g2, cap2, m, d, ⟨u1, u4, u5, u6, u7, u8, u9, u10, u11, u12, u13, u14, u15, u16, u17, u18, u19, u20, u21, u22, u23, u24, u25, u26, u27, u28, u29, u30, u31, u32, u33, u34, u35, u36, u37, u38, u39, u40, u41, u42, u43, u44, u45, u46, u47, u48, u49, u50, u51, u52, u53, u54, u55, u56, u57, u58, u59, u60, u61, u62, u63, u64, u65, u66, u67, u68, u69, rfl⟩, hm1, hmn, PP, SS⟩
    have HNX := hide (nearer_any m hm1 (by omega))
    go_wp2_with (go_at_call 24; refine (unhide HNX _).mono ?_; rintro e w3 ⟨⟨m2, rfl, hm2, hm2m, hm2o⟩, rfl⟩)
    go_loopw [4, 5] (fun ch i wk => ∃ (k : Nat) (dk : List Mk) (cb : Bool), ch = .bool cb ∧ i = .int .i64 (k : Int) ∧ m2 ≤ k ∧ k ≤ n ∧ Hid (dk.Perm M0) ∧ Hid (St w B w.heap.size g g2 N cap n cap2 (A ++ (r ++ Z)) dk wk) ∧ Hid (Pas d dk m2 k cb)) (fun _ i _ => n - (intOf i).toNat)
    case atStart => exact ⟨m2, d, false, rfl, rfl, Nat.le_refl _, Nat.le_trans hm2m hmn, PP, SS, Pas.start d m2⟩
    case round =>
      obtain ⟨k, dk, cb, rfl, rfl, hmk, hkn, PK, SK, RK⟩ := hrel
      by_cases hlt : k < n
      · have hzl : (k : Int) < (n : Int) := by omega
        have hz0 : (0 : Int) ≤ (k : Int) := by omega
        obtain ⟨j, hj⟩ : ∃ j, j = k - m2 := ⟨_, rfl⟩
        have e1 : IntKind.i64.wrap ((k : Int) - (m2 : Int)) = (j : Int) := by rw [IntKind.wrap_i64]; omega
        have hjn : j < n := by omega
        have hjl : (j : Int) < (n : Int) := by omega
        have hj0 : (0 : Int) ≤ (j : Int) := by omega
        have hdl := (unhide SK).dn
        have HGX : Hid ((dk.getD k mk0).good) := unhide HGD _ ((unhide PK).mem_iff.1 (by rw [List.getD_eq_getElem?_getD, List.getElem?_eq_getElem (by omega)]; exact List.getElem_mem _))
        have HGY : Hid ((dk.getD j mk0).good) := unhide HGD _ ((unhide PK).mem_iff.1 (by rw [List.getD_eq_getElem?_getD, List.getElem?_eq_getElem (by omega)]; exact List.getElem_mem _))
        have HSW := hide (unhide RK).swap
        have HSK := hide (unhide RK).skip
        rw [← hj] at HSW HSK
        have HPX := hide ((exch_perm dk k j (by omega) (by omega)).trans (unhide PK))
        have HKY := hide (Mk.ahead_key (unhide HGX) (unhide HGY))
        obtain ⟨a1, a2, a3⟩ := (unhide SK).cell k hlt
        obtain ⟨b1, b2, b3⟩ := (unhide SK).cell j hjn
        have HEX := hide (fun wq (hq : Gr wr wq) => ((unhide SK).gr hq).exch k j hlt hjn)
        have hjk : j < k := by omega
        have HDL := hide hdl
        clear hdl hj
        generalize dk.getD k mk0 = x at *
        generalize dk.getD j mk0 = y at *
        have HA := hide (ahead_any x y)
        generalize x.key = kx at *
        generalize y.key = ky at *
        cases hq : x.ahead y
        · rw [hq] at HA HKY
          obtain ⟨xr, xc, xp⟩ := x
          obtain ⟨yr, yc, yp⟩ := y
          unfold Mk.val at HA
          dsimp only at *
          have HLE : Hid (ky ≤ kx) := by
            have h := unhide HKY
            have := of_decide_eq_false h.symm
            show _ ≤ _
            omega
          clear HEX HKY HSW
          go_wp2
          replace a1 := cell_gr a1
          replace a2 := cell_gr a2
          replace a3 := cell_gr a3
          replace b1 := cell_gr b1
          replace b2 := cell_gr b2
          replace b3 := cell_gr b3
          refine wp_region_quiet_grown (by first | exact mx | assumption) (by kernel_rfl) ?_
          repeat (go_big_quiet_step ((go_at_call 25; exact callsGr (unhide HA _))))
          refine wpQuiet_nil ?_
          intro _ hw'
          obtain ⟨⟨nq, osq⟩, hw''⟩ := hw'
          subst hw''
          go_wp2
          go_roundw
          case rel => exact ⟨k + 1, dk, cb, rfl, by go_num, by omega, by omega, PK, (unhide SK).gr ((Gr.refl _).grow _ _), unhide HSK (unhide HLE)⟩
          case measure => simp [intOf]; omega
        · rw [hq] at HA HKY
          obtain ⟨xr, xc, xp⟩ := x
          obtain ⟨yr, yc, yp⟩ := y
          unfold Mk.val at HA
          dsimp only at *
          have HLT : Hid (kx < ky) := by show _ < _; exact of_decide_eq_true (unhide HKY).symm
          clear HKY HSK
          go_wp2
          replace a1 := cell_gr a1
          replace a2 := cell_gr a2
          replace a3 := cell_gr a3
          replace b1 := cell_gr b1
          replace b2 := cell_gr b2
          replace b3 := cell_gr b3
          refine wp_region_quiet_grown (by first | exact mx | assumption) (by kernel_rfl) ?_
          repeat (go_big_quiet_step ((go_at_call 25; exact callsGr (unhide HA _))))
          refine wpQuiet_nil ?_
          intro _ hw'
          obtain ⟨⟨nq, osq⟩, hw''⟩ := hw'
          subst hw''
          have HEX2 := hide (unhide HEX _ ((Gr.refl wr).grow nq osq) ⟨xr, xc, xp⟩ ⟨yr, yc, yp⟩ rfl rfl)
          dsimp only at HEX2
          have HSQ := hide ((unhide SK).gr ((Gr.refl wr).grow nq osq))
          replace a1 := a1 nq osq
          replace a2 := a2 nq osq
          replace a3 := a3 nq osq
          replace b1 := b1 nq osq
          replace b2 := b2 nq osq
          replace b3 := b3 nq osq
          clear HEX SK
          generalize grow (wr.drewN nq) osq = wq at *
          have fr := (unhide HSQ).free
          have f1 := fr (k * 3)
          have f2 := fr (k * 3 + 1)
          have f3 := fr (k * 3 + 2)
          have f4 := fr (j * 3)
          have f5 := fr (j * 3 + 1)
          have f6 := fr (j * 3 + 2)
          clear fr
          go_wp2
          go_region
          clear a1 a2 a3 b1 b2 b3 f1 f2 f3 f4 f5 f6
          generalize (((((wq.setCell ⟨g2, k * 3, none⟩ (.int .i32 yr)).setCell ⟨g2, k * 3 + 1, none⟩ (.int .i64 yc)).setCell ⟨g2, k * 3 + 2, none⟩ (.int .i64 yp)).setCell ⟨g2, j * 3, none⟩ (.int .i32 xr)).setCell ⟨g2, j * 3 + 1, none⟩ (.int .i64 xc)).setCell ⟨g2, j * 3 + 2, none⟩ (.int .i64 xp) = wz at *
          go_wp2
          go_roundw
          case rel => exact ⟨k + 1, exch dk k j, true, rfl, by go_num, by omega, by omega, HPX, (unhide HEX2).gr (Gr.refl _).drew, unhide HSW hm2 hmk (by have := unhide HDL; omega) (unhide HLT)⟩
          case measure => simp [intOf]; omega
      · have hzl : ¬ (k : Int) < (n : Int) := by omega
        obtain rfl : k = n := by omega
        have HB1 : Hid (pot 0 dk ≤ potMax) := pot_max dk (by have := (unhide SK).dn; omega) fun x hx => unhide HGD x ((unhide PK).mem_iff.1 hx)
        have HB2 : Hid (pot 0 d ≤ potMax) := pot_max d (by have := (unhide SS).dn; omega) fun x hx => unhide HGD x ((unhide PP).mem_iff.1 hx)
        cases cb
        · by_cases hm1' : 1 < m2
          · have hz1 : (1 : Int) < (m2 : Int) := by omega
            have HMU : Hid (m2 + (potMax - pot 0 (marksAt wr g2 k)).toNat < m + (potMax - pot 0 (marksAt w3 g2 k)).toNat) := by
              show _ < _
              rw [(unhide SK).read, (unhide SS).read, ((unhide RK).2 rfl).1]
              omega
            go_wp2
            go_step3
            refine ⟨rfl, ⟨g2, cap2, m2, dk, ⟨_, _, _, _, _, _, _, _, _, _, _, _, _, _, _, _, _, _, _, _, _, _, _, _, _, _, _, _, _, _, _, _, _, _, _, _, _, _, _, _, _, _, _, _, _, _, _, _, _, _, _, _, _, _, _, _, _, _, _, _, _, _, _, _, _, _, _, rfl⟩, hm2, by omega, PK, SK⟩, ?_⟩
            simpa [mu, marksIn, intOf] using unhide HMU
          · obtain rfl : m2 = 1 := by omega
            have HS : Hid (dk.map Mk.r = S) := unhide HEND dk (unhide PK) ((unhide RK).end_ (unhide SS).dn)
            have HS0 : Hid (St w B w.heap.size g g2 N cap k cap2 (wb A S r Z 0) dk wr) := by show St _ _ _ _ _ _ _ _ _ _ _ _; rw [wb_zero]; exact unhide SK
            have HSG : Hid (∀ q, q < k → S.getD q 0 = (dk.getD q mk0).r) := fun q hq => by
              have hd := (unhide SK).dn
              rw [← unhide HS]
              simp [List.getD, (by omega : q < dk.length)]
            have hNk : off + k ≤ N := by
              rw [unhide HNA, unhide HOF, unhide HNR]; simp
            clear HB1 HB2 SK SS RK PP PK HEND
            go_wp2
            go_loopw [59] (fun i wk => ∃ q : Nat, q ≤ k ∧ i = .int .i64 (q : Int) ∧ Hid (St w B w.heap.size g g2 N cap k cap2 (wb A S r Z q) dk wk)) (fun i _ => k - (intOf i).toNat)
            case atStart => exact ⟨0, Nat.zero_le _, rfl, HS0⟩
            case round =>
              clear HS0
              obtain ⟨q, hqk, rfl, SQ⟩ := hrel
              by_cases hlt : q < k
              · have hzq : (q : Int) < (k : Int) := by omega
                have hzq0 : (0 : Int) ≤ (q : Int) := by omega
                obtain ⟨a1, a2, a3⟩ := (unhide SQ).cell q hlt
                have l1 := (unhide SQ).cellL (off + q) (by omega)
                have l2 := (unhide SQ).freeL (off + q)
                have lg := (unhide SQ).lt
                have HZ := hide (unhide HSG q hlt)
                have HWB := hide (wb_set A S r Z q (by rw [← unhide HNR]; exact hlt) (unhide HSL))
                rw [unhide HZ, ← unhide HOF] at HWB
                clear HZ
                generalize (wb A S r Z q).getD (off + q) 0 = oldz at *
                generalize dk.getD q mk0 = x at *
                obtain ⟨xr, xc, xp⟩ := x
                dsimp only at a1 a2 a3 HWB
                go_wp2
                go_roundw
                case rel => exact ⟨q + 1, by omega, by go_num, by show St _ _ _ _ _ _ _ _ _ _ _ _; rw [← unhide HWB]; exact ((unhide SQ).write _ _).gr (Gr.one _ _)⟩
                case measure => simp [intOf]; omega
              · have hzq : ¬ (q : Int) < (k : Int) := by omega
                obtain rfl : q = k := by omega
                have HF : Hid (Rn B (.slice (some ⟨g, 0, none⟩) N cap) (A ++ (S ++ Z)) wr ∧ w.grownBy wr (some g)) := by
                  have h := unhide SQ
                  have e := wb_all A S r Z (unhide HSL)
                  rw [← unhide HNR] at e
                  rw [e] at h
                  exact ⟨h.rn, h.gb⟩
                go_wp2
                simp only [Exit.jump]
                go_end0
                exact ⟨rfl, unhide HF⟩
        · have HMU : Hid (m2 + (potMax - pot 0 (marksAt wr g2 k)).toNat < m + (potMax - pot 0 (marksAt w3 g2 k)).toNat) := by
            have h1 := (unhide RK).1 rfl
            have h2 := unhide HB1
            show _ < _
            rw [(unhide SK).read, (unhide SS).read]
            omega
          go_wp2
          go_step3
          refine ⟨rfl, ⟨g2, cap2, m2, dk, ⟨_, _, _, _, _, _, _, _, _, _, _, _, _, _, _, _, _, _, _, _, _, _, _, _, _, _, _, _, _, _, _, _, _, _, _, _, _, _, _, _, _, _, _, _, _, _, _, _, _, _, _, _, _, _, _, _, _, _, _, _, _, _, _, _, _, _, _, rfl⟩, hm2, by omega, PK, SK⟩, ?_⟩
          simpa [mu, marksIn, intOf] using unhide HMU
  · intro hfirst
    have HF := hide hfirst
    clear hfirst
    go_wp2_with (first
       | (go_at_call 11; refine (unhide HO).mono ?_; rintro e w1 ⟨rfl, hg1⟩)
       | (go_at_call 23; refine (unhide HM _ hg1).mono ?_; rintro e w2 ⟨g2, cap2, rfl, hm2, hb2⟩))
    go_step3
    rename_i HK
    refine HK _ _ ?_
    have hs1 := hg1.size
    refine unhide HF _ _ ⟨g2, cap2, n, M0, ⟨_, _, _, _, _, _, _, _, _, _, _, _, _, _, _, _, _, _, _, _, _, _, _, _, _, _, _, _, _, _, _, _, _, _, _, _, _, _, _, _, _, _, _, _, _, _, _, _, _, _, _, _, _, _, _, _, _, _, _, _, _, _, _, _, _, _, _, rfl⟩, ?_, ?_, ?_, ?_⟩
    · exact h0
    · exact Nat.le_refl _
    · exact List.Perm.refl _
    · refine ⟨(unhide HR).below (hg1.below.trans (hb2.mono hs1)), ?_, below_grown (hg1.below.trans (hb2.mono hs1)) _, unhide HNA, (unhide HML).symm, hgw, Nat.le_trans hs1 hm2.lt.1⟩
      exact hm2.base hs1
end Go.Proofs.Ytlbigebaepecpaa
