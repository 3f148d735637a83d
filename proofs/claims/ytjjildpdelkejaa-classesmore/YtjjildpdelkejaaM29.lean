/- The probe of layer 21's laws. -/
import Derived.Test.YtjjildpdelkejaaM28
namespace Go.Proofs.Ytjjildpdelkejaa
open Go.RowKit

theorem aw1 : nedE scL scC [tper] = 0 ∧ nedE scL scC [ttop] = 200 := ⟨by kernel_rfl, by kernel_rfl⟩
theorem aw2 : decide (nedM scL scC [tper] = [tcls, tnm]) = true ∧ decide (nedY scL scC [tper] = [tpho]) = true := ⟨by kernel_rfl, by kernel_rfl⟩
theorem aw3 : fitC scL scC [tper] [tcls, tcn] = 0 ∧ fitC scL scC [tper] [tcls] = 200 := ⟨by kernel_rfl, by kernel_rfl⟩
theorem aw4 : (lineC scL scC tper).length = 2 := by kernel_rfl
theorem aw5 : fewC scL scC = true := by kernel_rfl
set_option maxHeartbeats 6400000 in
theorem awake21 (w : World) (hL : Ly w) : Calls Try.prog 9 #[] w fun e w' => e = .returned (.bool true) ∧ Below w.heap.size w w' := by
  have C0 := hide schema_any
  have C1 := hide (fun va vc vn W (h : Ly W) hT hC hN => cneed_any va vc vn scL scC [tper] W h aw5 hT hC hN (by decide))
  have C2 := hide (fun va vc vn W (h : Ly W) hT hC hN => cneed_any va vc vn scL scC [ttop] W h aw5 hT hC hN (by decide))
  have C3 := hide (fun u v W h1 h2 => rsm_any u v (nedM scL scC [tper]) [tcls, tnm] W h1 h2)
  have C4 := hide (fun u v W h1 h2 => rsm_any u v (nedY scL scC [tper]) [tpho] W h1 h2)
  have C5 := hide (fun va vc vn vh W (h : Ly W) hT hC hN hH => cfit_any va vc vn vh scL scC [tper] [tcls, tcn] W h aw5 hT hC hN hH (by decide) (by decide))
  have C6 := hide (fun va vc vn vh W (h : Ly W) hT hC hN hH => cfit_any va vc vn vh scL scC [tper] [tcls] W h aw5 hT hC hN hH (by decide) (by decide))
  have C7 := hide (fun va vc W (h : Ly W) hT hC => cline_any va vc scL scC tper W h aw5 hT hC)
  rw [aw1.1] at C1
  rw [aw1.2] at C2
  rw [aw2.1] at C3
  rw [aw2.2] at C4
  rw [aw3.1] at C5
  rw [aw3.2] at C6
  have hll := aw4
  generalize nedM scL scC [tper] = M at *
  generalize nedY scL scC [tper] = Y at *
  generalize nedM scL scC [ttop] = M2 at *
  generalize nedY scL scC [ttop] = Y2 at *
  generalize lineC scL scC tper = LN at *
  have zll : (LN.length : Int) = 2 := by omega
  have HPER : Hid (∀ W : World, TsV (W.alloc (.cells #[.string ⟨#[112, 101, 114, 115, 111, 110]⟩] 9)) (.slice (some ⟨W.heap.size, 0, none⟩) 1 1) [tper]) := fun W => ts_of (by rfl) (by decide) (by rfl)
  have HTOP : Hid (∀ W : World, TsV (W.alloc (.cells #[.string ⟨#[116, 111, 112]⟩] 9)) (.slice (some ⟨W.heap.size, 0, none⟩) 1 1) [ttop]) := fun W => ts_of (by rfl) (by decide) (by rfl)
  have HCN : Hid (∀ W : World, TsV (W.alloc (.cells #[.string ⟨#[99, 108, 115]⟩, .string ⟨#[110, 97, 109, 101]⟩] 9)) (.slice (some ⟨W.heap.size, 0, none⟩) 2 2) [tcls, tnm]) := fun W => ts_of (by rfl) (by decide) (by rfl)
  have HPHO : Hid (∀ W : World, TsV (W.alloc (.cells #[.string ⟨#[112, 104, 111, 110, 101]⟩] 9)) (.slice (some ⟨W.heap.size, 0, none⟩) 1 1) [tpho]) := fun W => ts_of (by rfl) (by decide) (by rfl)
  have HCC : Hid (∀ W : World, TsV (W.alloc (.cells #[.string ⟨#[99, 108, 115]⟩, .string ⟨#[99, 110]⟩] 9)) (.slice (some ⟨W.heap.size, 0, none⟩) 2 2) [tcls, tcn]) := fun W => ts_of (by rfl) (by decide) (by rfl)
  have HCLS : Hid (∀ W : World, TsV (W.alloc (.cells #[.string ⟨#[99, 108, 115]⟩] 9)) (.slice (some ⟨W.heap.size, 0, none⟩) 1 1) [tcls]) := fun W => ts_of (by rfl) (by decide) (by rfl)
  have eper : tper = ⟨#[112, 101, 114, 115, 111, 110]⟩ := rfl
  rw [eper] at C7
  clear eper
  generalize hx1 : [tper] = X1 at *
  generalize hx2 : [ttop] = X2 at *
  generalize hx3 : [tcls, tnm] = X3 at *
  generalize hx4 : [tpho] = X4 at *
  generalize hx5 : [tcls, tcn] = X5 at *
  generalize hx6 : [tcls] = X6 at *
  generalize scL = SL at *
  generalize scC = SC at *
  clear hx1 hx2 hx3 hx4 hx5 hx6 hll
  have HL := hide hL
  clear hL
  go_enter Try.func9, Try.ntmps9
  go_wp2_with (first
    | (go_at_call 13; refine (unhide C7 _ _ _ ((unhide HL).keep t10) (unhide VT10) (unhide VC10)).mono ?_; rintro e w11 ⟨u11, rfl, hu11, b11⟩; obtain ⟨la, lc, rfl, _⟩ := hu11; have t11 := t10.trans (b11.mono t10.size))
    | (go_at_call 24; refine (unhide C0 _).mono ?_; rintro e w10 ⟨va10, vc10, rfl, hT10, hC10, b10⟩; obtain ⟨p10, q10, hp10⟩ := hT10.shape; subst hp10; obtain ⟨r10, s10, hr10⟩ := hC10.shape; subst hr10; have VT10 := hide hT10; have VC10 := hide hC10; clear hT10 hC10; have t10 : Below w.heap.size w w10 := t9.trans (b10.mono t9.size))
    | (go_at_call 17; refine (unhide C6 _ _ _ _ _ ((unhide HL).keep ((t8.alloc t8.size (.cells #[.string ⟨#[112, 101, 114, 115, 111, 110]⟩] 9)).alloc (t8.alloc t8.size (.cells #[.string ⟨#[112, 101, 114, 115, 111, 110]⟩] 9)).size (.cells #[.string ⟨#[99, 108, 115]⟩] 9))) (((unhide VT8).below (Below.one w8 (.cells #[.string ⟨#[112, 101, 114, 115, 111, 110]⟩] 9))).below (Below.one _ (.cells #[.string ⟨#[99, 108, 115]⟩] 9))) (((unhide VC8).below (Below.one w8 (.cells #[.string ⟨#[112, 101, 114, 115, 111, 110]⟩] 9))).below (Below.one _ (.cells #[.string ⟨#[99, 108, 115]⟩] 9))) ((unhide HPER w8).below (Below.one _ (.cells #[.string ⟨#[99, 108, 115]⟩] 9))) (by have h9 := unhide HCLS (w8.alloc (.cells #[.string ⟨#[112, 101, 114, 115, 111, 110]⟩] 9)); rw [World.size_alloc] at h9; exact h9)).mono ?_; rintro e w9 ⟨rfl, b9⟩; have t9 := ((t8.alloc t8.size (.cells #[.string ⟨#[112, 101, 114, 115, 111, 110]⟩] 9)).alloc (t8.alloc t8.size (.cells #[.string ⟨#[112, 101, 114, 115, 111, 110]⟩] 9)).size (.cells #[.string ⟨#[99, 108, 115]⟩] 9)).trans (b9.mono ((t8.alloc t8.size (.cells #[.string ⟨#[112, 101, 114, 115, 111, 110]⟩] 9)).alloc (t8.alloc t8.size (.cells #[.string ⟨#[112, 101, 114, 115, 111, 110]⟩] 9)).size (.cells #[.string ⟨#[99, 108, 115]⟩] 9)).size))
    | (go_at_call 24; refine (unhide C0 _).mono ?_; rintro e w8 ⟨va8, vc8, rfl, hT8, hC8, b8⟩; obtain ⟨p8, q8, hp8⟩ := hT8.shape; subst hp8; obtain ⟨r8, s8, hr8⟩ := hC8.shape; subst hr8; have VT8 := hide hT8; have VC8 := hide hC8; clear hT8 hC8; have t8 : Below w.heap.size w w8 := t7.trans (b8.mono t7.size))
    | (go_at_call 17; refine (unhide C5 _ _ _ _ _ ((unhide HL).keep ((t6.alloc t6.size (.cells #[.string ⟨#[112, 101, 114, 115, 111, 110]⟩] 9)).alloc (t6.alloc t6.size (.cells #[.string ⟨#[112, 101, 114, 115, 111, 110]⟩] 9)).size (.cells #[.string ⟨#[99, 108, 115]⟩, .string ⟨#[99, 110]⟩] 9))) (((unhide VT6).below (Below.one w6 (.cells #[.string ⟨#[112, 101, 114, 115, 111, 110]⟩] 9))).below (Below.one _ (.cells #[.string ⟨#[99, 108, 115]⟩, .string ⟨#[99, 110]⟩] 9))) (((unhide VC6).below (Below.one w6 (.cells #[.string ⟨#[112, 101, 114, 115, 111, 110]⟩] 9))).below (Below.one _ (.cells #[.string ⟨#[99, 108, 115]⟩, .string ⟨#[99, 110]⟩] 9))) ((unhide HPER w6).below (Below.one _ (.cells #[.string ⟨#[99, 108, 115]⟩, .string ⟨#[99, 110]⟩] 9))) (by have h9 := unhide HCC (w6.alloc (.cells #[.string ⟨#[112, 101, 114, 115, 111, 110]⟩] 9)); rw [World.size_alloc] at h9; exact h9)).mono ?_; rintro e w7 ⟨rfl, b7⟩; have t7 := ((t6.alloc t6.size (.cells #[.string ⟨#[112, 101, 114, 115, 111, 110]⟩] 9)).alloc (t6.alloc t6.size (.cells #[.string ⟨#[112, 101, 114, 115, 111, 110]⟩] 9)).size (.cells #[.string ⟨#[99, 108, 115]⟩, .string ⟨#[99, 110]⟩] 9)).trans (b7.mono ((t6.alloc t6.size (.cells #[.string ⟨#[112, 101, 114, 115, 111, 110]⟩] 9)).alloc (t6.alloc t6.size (.cells #[.string ⟨#[112, 101, 114, 115, 111, 110]⟩] 9)).size (.cells #[.string ⟨#[99, 108, 115]⟩, .string ⟨#[99, 110]⟩] 9)).size))
    | (go_at_call 24; refine (unhide C0 _).mono ?_; rintro e w6 ⟨va6, vc6, rfl, hT6, hC6, b6⟩; obtain ⟨p6, q6, hp6⟩ := hT6.shape; subst hp6; obtain ⟨r6, s6, hr6⟩ := hC6.shape; subst hr6; have VT6 := hide hT6; have VC6 := hide hC6; clear hT6 hC6; have t6 : Below w.heap.size w w6 := t5.trans (b6.mono t5.size))
    | (go_at_call 12; refine (unhide C4 _ _ _ ((unhide HZ4).below (Below.one w4 (.cells #[.string ⟨#[112, 104, 111, 110, 101]⟩] 9))) (unhide HPHO w4)).mono ?_; rintro e w5 ⟨rfl, b5⟩; have t5 := (t4.alloc t4.size (.cells #[.string ⟨#[112, 104, 111, 110, 101]⟩] 9)).trans (b5.mono (t4.alloc t4.size (.cells #[.string ⟨#[112, 104, 111, 110, 101]⟩] 9)).size))
    | (go_at_call 12; refine (unhide C3 _ _ _ ((((unhide HY1).below b2).below ((Below.one w2 (.cells #[.string ⟨#[116, 111, 112]⟩] 9)).trans (b3.mono (by simp)))).below (Below.one w3 (.cells #[.string ⟨#[99, 108, 115]⟩, .string ⟨#[110, 97, 109, 101]⟩] 9))) (unhide HCN w3)).mono ?_; rintro e w4 ⟨rfl, b4⟩; have t4 := (t3.alloc t3.size (.cells #[.string ⟨#[99, 108, 115]⟩, .string ⟨#[110, 97, 109, 101]⟩] 9)).trans (b4.mono (t3.alloc t3.size (.cells #[.string ⟨#[99, 108, 115]⟩, .string ⟨#[110, 97, 109, 101]⟩] 9)).size); have HZ4 := hide (((((unhide HZ1).below b2).below ((Below.one w2 (.cells #[.string ⟨#[116, 111, 112]⟩] 9)).trans (b3.mono (by simp)))).below (Below.one w3 (.cells #[.string ⟨#[99, 108, 115]⟩, .string ⟨#[110, 97, 109, 101]⟩] 9))).below b4))
    | (go_at_call 15; refine (unhide C2 _ _ _ _ ((unhide HL).keep (t2.alloc t2.size (.cells #[.string ⟨#[116, 111, 112]⟩] 9))) ((unhide VT2).below (Below.one w2 (.cells #[.string ⟨#[116, 111, 112]⟩] 9))) ((unhide VC2).below (Below.one w2 (.cells #[.string ⟨#[116, 111, 112]⟩] 9))) (unhide HTOP w2)).mono ?_; rintro e w3 ⟨y3, z3, rfl, hy3, hz3, b3⟩; have t3 := (t2.alloc t2.size (.cells #[.string ⟨#[116, 111, 112]⟩] 9)).trans (b3.mono (t2.alloc t2.size (.cells #[.string ⟨#[116, 111, 112]⟩] 9)).size); have HY3 := hide hy3; have HZ3 := hide hz3; obtain ⟨ya3, yc3, rfl, _⟩ := hy3; obtain ⟨za3, zc3, rfl, _⟩ := hz3)
    | (go_at_call 24; refine (unhide C0 _).mono ?_; rintro e w2 ⟨va2, vc2, rfl, hT2, hC2, b2⟩; obtain ⟨p2, q2, hp2⟩ := hT2.shape; subst hp2; obtain ⟨r2, s2, hr2⟩ := hC2.shape; subst hr2; have VT2 := hide hT2; have VC2 := hide hC2; clear hT2 hC2; have t2 : Below w.heap.size w w2 := t1.trans (b2.mono t1.size))
    | (go_at_call 15; refine (unhide C1 _ _ _ _ ((unhide HL).keep (t0.alloc t0.size (.cells #[.string ⟨#[112, 101, 114, 115, 111, 110]⟩] 9))) ((unhide VT0).below (Below.one w0 (.cells #[.string ⟨#[112, 101, 114, 115, 111, 110]⟩] 9))) ((unhide VC0).below (Below.one w0 (.cells #[.string ⟨#[112, 101, 114, 115, 111, 110]⟩] 9))) (unhide HPER w0)).mono ?_; rintro e w1 ⟨y1, z1, rfl, hy1, hz1, b1⟩; have t1 := (t0.alloc t0.size (.cells #[.string ⟨#[112, 101, 114, 115, 111, 110]⟩] 9)).trans (b1.mono (t0.alloc t0.size (.cells #[.string ⟨#[112, 101, 114, 115, 111, 110]⟩] 9)).size); have HY1 := hide hy1; have HZ1 := hide hz1; obtain ⟨ya1, yc1, rfl, _⟩ := hy1; obtain ⟨za1, zc1, rfl, _⟩ := hz1)
    | (go_at_call 24; refine (unhide C0 _).mono ?_; rintro e w0 ⟨va0, vc0, rfl, hT0, hC0, b0⟩; obtain ⟨p0, q0, hp0⟩ := hT0.shape; subst hp0; obtain ⟨r0, s0, hr0⟩ := hC0.shape; subst hr0; have VT0 := hide hT0; have VC0 := hide hC0; clear hT0 hC0; have t0 : Below w.heap.size w w0 := b0))
  go_ret
  exact ⟨rfl, t11⟩
end Go.Proofs.Ytjjildpdelkejaa
