/- The law ClassesLess of layer 21. -/
import Derived.Test.YtjjildpdelkejaaM35
namespace Go.Proofs.Ytjjildpdelkejaa
open Go.RowKit

set_option maxRecDepth 100000 in
set_option maxHeartbeats 25600000 in
theorem less21_law (va vc vn vh : Value) (l : List Ty) (cs : List Cl) (ns hs : List ByteArray) (w : World) (hL : Ly w) (hT : TysV w va l) (hC : ClsV w vc cs) (hN : TsV w vn ns) (hH : TsV w vh hs) : Calls Try.prog 7 #[.agg #[va, vc], vn, vh] w fun e w' => e = .returned (.bool true) ∧ Below w.heap.size w w' := by
  have mx : Try.prog.follows .mixedOrders = true := by kernel_rfl
  obtain ⟨i0, hi, iz0, iz1, iz2⟩ := info_parts str_info
  have b0 := Below.one w (.cells #[va, vc] 25)
  have CF := hide (few21_any va vc l cs _ (hT.below b0) (hC.below b0))
  have CA := hide (fun W (h : Below w.heap.size w W) => awake21 W (hL.keep h))
  have HC1 := hide (fun (hf : fewC l cs = true) (v u : Value) (ms ks : List ByteArray) (hl : ms.length ≤ 100) (hl2 : ks.length ≤ 100) W (h : Below w.heap.size w W) (hm : TsV W v ms) (hk : TsV W u ks) => cfit_any va vc v u l cs ms ks W (hL.keep h) hf (hT.below h) (hC.below h) hm hk hl hl2)
  have HNE := hide (fun (hf : fewC l cs = true) (hl : ns.length ≤ 100) W (h : Below w.heap.size w W) => cneed_any va vc vn l cs ns W (hL.keep h) hf (hT.below h) (hC.below h) (hN.below h) hl)
  have HIS := hide (fun (hf : fewT l = true) n a W (h : Below w.heap.size w W) => ais_any va l n a W (hL.keep h) hf (hT.below h))
  have HNV := hide (fun W (h : Below w.heap.size w W) => hN.below h)
  have HHV := hide (fun W (h : Below w.heap.size w W) => hH.below h)
  have CT1 := hide (fun (hl : ns.length ≤ 100) W (h : Below w.heap.size w W) => turned_any vn ns W (hN.below h) hl)
  have CT2 := hide (fun (hl : hs.length ≤ 100) W (h : Below w.heap.size w W) => turned_any vh hs W (hH.below h) hl)
  obtain ⟨aa, ca, rfl⟩ := hT.shape
  obtain ⟨ac, cc, rfl⟩ := hC.shape
  obtain ⟨an, cn, rfl, hn9, _⟩ := hN
  obtain ⟨ah, ch, rfl, hh9, hhc⟩ := hH
  have HHC := hide hhc
  have hn2 : (ns.length : Int) ≤ 9223372036854775807 := by omega
  have hh2 : (hs.length : Int) ≤ 9223372036854775807 := by omega
  clear hT hC hL hhc
  have S0 : Hid (Bs w.heap.size (.slice aa l.length ca) (.slice ac cs.length cc) (w.alloc (.cells #[.slice aa l.length ca, .slice ac cs.length cc] 25))) := heap_new w _
  obtain ⟨s0, s1⟩ := (unhide S0).cells
  cases hf : fewC l cs
  · rw [hf] at CF
    clear hf HC1 HNE HIS CT1 CT2
    go_enter Try.func7, Try.ntmps7
    go_wp2_with (first
      | (go_at_call 9; refine (unhide CA _ t1).mono ?_; rintro e w2 ⟨rfl, b2⟩; have t2 := t1.trans (b2.mono t1.size))
      | (go_at_call 8; refine (unhide CF).mono ?_; rintro e w1 ⟨rfl, b1⟩; have t1 := b0.trans (b1.mono b0.size)))
    go_ret
    exact ⟨rfl, t2⟩
  rw [hf] at CF
  by_cases h20 : 20 < ns.length
  · have z : (20 : Int) < (ns.length : Int) := by omega
    clear hf HC1 HNE HIS CT1 CT2
    go_enter Try.func7, Try.ntmps7
    go_wp2_with (first
      | (go_at_call 9; refine (unhide CA _ t1).mono ?_; rintro e w2 ⟨rfl, b2⟩; have t2 := t1.trans (b2.mono t1.size))
      | (go_at_call 8; refine (unhide CF).mono ?_; rintro e w1 ⟨rfl, b1⟩; have t1 := b0.trans (b1.mono b0.size)))
    go_ret
    exact ⟨rfl, t2⟩
  have z : ¬ (20 : Int) < (ns.length : Int) := by omega
  by_cases h21 : 20 < hs.length
  · have z2 : (20 : Int) < (hs.length : Int) := by omega
    clear hf HC1 HNE HIS CT1 CT2
    go_enter Try.func7, Try.ntmps7
    go_wp2_with (first
      | (go_at_call 9; refine (unhide CA _ t1).mono ?_; rintro e w2 ⟨rfl, b2⟩; have t2 := t1.trans (b2.mono t1.size))
      | (go_at_call 8; refine (unhide CF).mono ?_; rintro e w1 ⟨rfl, b1⟩; have t1 := b0.trans (b1.mono b0.size)))
    go_ret
    exact ⟨rfl, t2⟩
  have z2 : ¬ (20 : Int) < (hs.length : Int) := by omega
  have hft : fewT l = true := by
    unfold fewC at hf
    exact (Bool.and_eq_true _ _ ▸ hf).1
  have C1 := hide (unhide HC1 hf)
  have CN := hide (unhide HNE hf (by omega))
  have CI := hide (unhide HIS hft)
  have CU1 := hide (unhide CT1 (by omega))
  have CU2 := hide (unhide CT2 (by omega))
  have C2 := hide (fun W h => unhide C1 (.slice an ns.length cn) (.slice ah hs.length ch) ns hs (by omega) (by omega) W h (unhide HNV W h) (unhide HHV W h))
  clear hf hft HC1 HNE HIS CT1 CT2
  by_cases h0 : fitC l cs ns hs = 0
  · rw [h0] at C2
    have H0 := hide h0
    have C3 := hide (fun v u W h hm hk => unhide C1 v u ns.reverse hs.reverse (by simp; omega) (by simp; omega) W h hm hk)
    rw [fit_order h0 (ms := ns.reverse) (ks := hs.reverse) (fun x => by simp) (fun x => by simp)] at C3
    have hml := ned_lens (l := l) (cs := cs) (ns := ns) (by omega)
    clear h0
    go_enter Try.func7, Try.ntmps7
    go_upto_region 4 with (first
      | (go_at_call 17; refine (unhide C2 _ t1).mono ?_; rintro e w2 ⟨rfl, b2⟩; have t2 := t1.trans (b2.mono t1.size); have S2 := hide ((unhide S1).keep b2))
      | (go_at_call 8; refine (unhide CF).mono ?_; rintro e w1 ⟨rfl, b1⟩; have t1 := b0.trans (b1.mono b0.size); have S1 := hide ((unhide S0).keep b1); obtain ⟨y0, y1⟩ := (unhide S1).cells))
    clear s0 s1 y0 y1 CF C2 S0 S1 b1 b0 t1
    have t2d := t2.drew
    have HSW : Hid (∀ W, Below w2.heap.size w2 W → W.cell? ⟨w.heap.size, 0, none⟩ = some (.slice aa l.length ca) ∧ W.cell? ⟨w.heap.size, 1, none⟩ = some (.slice ac cs.length cc)) := fun W h => ((unhide S2).keep h).cells
    have k2d : Below w2.heap.size w2 w2.drew := (Below.refl _ w2).drew
    have hrl1 : ns.reverse.length ≤ 9223372036854775807 := by simp; omega
    have hrl2 : hs.reverse.length ≤ 9223372036854775807 := by simp; omega
    go_region_held3 (fun W => W.cell? ⟨w.heap.size, 0, none⟩ = some (.slice aa l.length ca) ∧ W.cell? ⟨w.heap.size, 1, none⟩ = some (.slice ac cs.length cc)) (first | with_reducible exact unhide HSW _ k2d | with_reducible exact unhide HSW _ k5 | with_reducible exact unhide HSW _ k4 | with_reducible exact unhide HSW _ k3 | assumption | go_keep)
      (first
        | (go_at_call 17; refine (unhide C3 _ _ _ t4 ((unhide U3).below b4) (unhide U4)).mono ?_; rintro e w5 ⟨rfl, b5⟩; have t5 := t4.trans (b5.mono t4.size); have k5 := k4.trans (b5.mono k4.size))
        | (go_at_call 19; refine (unhide CU2 _ t3).mono ?_; rintro e w4 ⟨v4, rfl, hv4, b4⟩; have k4 := k3.trans (b4.mono k3.size); have t4 := t3.trans (b4.mono t3.size); have U4 := hide (hv4.ts hrl2); clear hv4)
        | (go_at_call 19; refine (unhide CU1 _ t2d).mono ?_; rintro e w3 ⟨v3, rfl, hv3, b3⟩; have k3 := k2d.trans (b3.mono k2d.size); have t3 := t2.trans (k3.mono t2.size); have U3 := hide (hv3.ts hrl1); clear hv3))
    try simp only [Exit.then]
    obtain ⟨x0, x1⟩ := unhide HSW _ k5
    have HFL : Hid (∀ ks : List ByteArray, (∀ x ∈ ks, x ∈ hs) → (fitC l cs ns ks == 0) = (nedM l cs ns).all fun m => mtA l ks m) := fun ks hk => fit_less (unhide H0) hk
    clear U3 U4 b3 b4 b5 k3 k4 t3 t4 C3 CU1 CU2 t2d k2d H0 hrl1 hrl2
    generalize hM : nedM l cs ns = M at *
    generalize hY : nedY l cs ns = Y at *
    have hml1 := hml.1
    clear hM hY hml
    generalize nedE l cs ns = E0 at *
    go_wp2_with (go_at_call 15; refine (unhide CN _ t5).mono ?_; rintro e w6 ⟨u6, p6, rfl, hu6, hp6, b6⟩; have t6 := t5.trans (b6.mono t5.size); have k6 := k5.trans (b6.mono k5.size); have U6 := hide hu6; obtain ⟨ua6, ub6, rfl, hu9, huc⟩ := hu6; obtain ⟨pa6, pb6, rfl, _⟩ := hp6; have HUC := hide huc; clear huc)
    clear x0 x1 b6 k5 t5 t2 S2 b2 CN
    go_loopw [10] (fun vi wr => ∃ k : Nat, k ≤ hs.length ∧ vi = .int .i64 (k : Int) ∧ Below w6.heap.size w6 wr) (fun i _ => hs.length - (intOf i).toNat)
    case atStart => exact ⟨0, Nat.zero_le _, rfl, Below.refl _ _⟩
    case round =>
      obtain ⟨k, hk, rfl, hd⟩ := hrel
      have hds := hd.size
      have td := t6.trans (hd.mono t6.size)
      have kd := k6.trans (hd.mono k6.size)
      by_cases hlt : k < hs.length
      · have hzl : (k : Int) < (hs.length : Int) := by omega
        have hzk0 : (0 : Int) ≤ (k : Int) := by omega
        obtain ⟨bh, oh, rfl, _⟩ := unhide HHC (by omega)
        obtain ⟨k1, hk1⟩ : ∃ k1, k1 = k + 1 := ⟨_, rfl⟩
        have HT1 : Hid (∀ W, Below wr.heap.size wr W → TsV W (.slice (some ⟨bh, oh, none⟩) k ch) (hs.take k)) := fun W h => ts_take (unhide HHV W (td.trans (h.mono td.size))) (by omega) (by omega)
        have HT2 : Hid (∀ W, Below wr.heap.size wr W → TsV W (.slice (some ⟨bh, oh + k1, none⟩) (hs.length - k1) (ch - k1)) (hs.drop k1)) := fun W h => ts_drop (unhide HHV W (td.trans (h.mono td.size))) (by omega) (by omega)
        have l1 : (hs.take k).length = k := by rw [List.length_take]; omega
        have l2 : (hs.drop k1).length = hs.length - k1 := List.length_drop ..
        have zk2 : (k : Int) ≤ (ch : Int) := by omega
        have zk3 : (0 : Int) ≤ (k1 : Int) := by omega
        have zk4 : (k1 : Int) ≤ (hs.length : Int) := by omega
        have zk5 : (hs.length : Int) ≤ (ch : Int) := by omega
        have hwr : IntKind.i64.wrap ((k : Int) + 1) = (k1 : Int) := by simp [IntKind.wrap, IntKind.bits, IntKind.signed]; omega
        have mm1 : 0 + (hs.take k).length ≤ maxLen := by unfold maxLen; omega
        have mm2 : (0 + (hs.take k).length) * 16 ≤ 140737488355328 := by omega
        have mm3 : 0 + (hs.take k).length + (hs.drop k1).length ≤ maxLen := by unfold maxLen; omega
        have mm4 : (0 + (hs.take k).length + (hs.drop k1).length) * 16 ≤ 140737488355328 := by omega
        have oa : Below wr.heap.size wr (wr.alloc (.cells #[] 9)).drew := (Below.one wr _).drew
        have O0 : Hid ((wr.alloc (.cells #[] 9)).drew.ownsRow wr.heap.size 9 1 (.slice (some ⟨wr.heap.size, 0, none⟩) 0 0) 0 []) := own_below (own_nilT wr _ (Nat.le_refl _)) (Below.refl _ _).drew
        have HK1 := hide hk1
        have hsub : ∀ x ∈ hs.take k ++ hs.drop k1, x ∈ hs := fun x hx => by
          rcases List.mem_append.1 hx with h | h
          · exact List.mem_of_mem_take h
          · exact List.mem_of_mem_drop h
        have HX := hide (unhide HFL _ hsub)
        clear hk1 hsub
        go_upto_region 10 with fail
        go_cut [11] from 57 to 66 (fun v11 wx => TsV wx v11 (hs.take k ++ hs.drop k1) ∧ Below wr.heap.size wr wx)
        case first =>
          by_cases hce : ch = k1
          · subst hce
            have l3 : (hs.drop ch).length = 0 := by rw [l2]; omega
            clear HT2 l2
            have hze : hs.length = ch := by omega
            have HL100 : Hid (hs.length ≤ 20) := by show _ ≤ _; omega
            generalize hs.length = n at *
            subst hze
            go_region_held3 (fun _ => True) (first | exact trivial)
              (first
                | (refine step_append_ts _ (by rfl) _ _ _ (by rfl) wr.heap.size 9 i0 _ 16 Try.underlying32 hi iz0 iz1 iz2 rfl _ (0 + (hs.take k).length) _ (by rfl) (unhide O7) _ (hs.drop n) (by rfl) (ts_none l3) mm3 mm4 b7.size ?_; intro v8 w8 hown8 b8; have O8 := hide hown8; clear hown8; have r8 := b7.trans b8; try dsimp only)
                | (refine step_append_ts _ (by rfl) _ _ _ (by rfl) wr.heap.size 9 i0 _ 16 Try.underlying32 hi iz0 iz1 iz2 rfl _ 0 _ (by rfl) (unhide O0) _ (hs.take k) (by rfl) (unhide HT1 _ oa) mm1 mm2 oa.size ?_; intro v7 w7 hown7 b7'; have O7 := hide hown7; clear hown7; have b7 := oa.trans b7'; try dsimp only)
                | (trace_state; fail))
            all_goals
              try simp only [Exit.then]
              go_wp2
              go_meet
              exact ⟨own_ts (unhide O8) (by simp) (by simp) (by rw [List.length_append]; omega), r8⟩
          · go_region_held3 (fun _ => True) (first | exact trivial)
              (first
                | (refine step_append_ts _ (by rfl) _ _ _ (by rfl) wr.heap.size 9 i0 _ 16 Try.underlying32 hi iz0 iz1 iz2 rfl _ (0 + (hs.take k).length) _ (by rfl) (unhide O7) _ (hs.drop k1) (by rfl) (unhide HT2 _ b7) mm3 mm4 b7.size ?_; intro v8 w8 hown8 b8; have O8 := hide hown8; clear hown8; have r8 := b7.trans b8; try dsimp only)
                | (refine step_append_ts _ (by rfl) _ _ _ (by rfl) wr.heap.size 9 i0 _ 16 Try.underlying32 hi iz0 iz1 iz2 rfl _ 0 _ (by rfl) (unhide O0) _ (hs.take k) (by rfl) (unhide HT1 _ oa) mm1 mm2 oa.size ?_; intro v7 w7 hown7 b7'; have O7 := hide hown7; clear hown7; have b7 := oa.trans b7'; try dsimp only)
                | (trace_state; fail))
            all_goals
              try simp only [Exit.then]
              go_wp2
              go_meet
              exact ⟨own_ts (unhide O8) (by simp) (by simp) (by rw [List.length_append]; omega), r8⟩
        case rest =>
          obtain ⟨hcv, hkx⟩ := hcut
          have hbx := hd.trans (hkx.mono hds)
          have tx := td.trans (hkx.mono td.size)
          have kx := kd.trans (hkx.mono kd.size)
          have hkl : (hs.take k ++ hs.drop k1).length ≤ 100 := by rw [List.length_append]; omega
          have C5 := hide (fun u W h hm => unhide C1 (.slice an ns.length cn) u ns (hs.take k ++ hs.drop k1) (by omega) hkl W h (unhide HNV W h) hm)
          clear HT1 HT2 l1 l2 zk2 zk3 zk4 zk5 hwr mm1 mm2 mm3 mm4 oa O0
          generalize hs.take k ++ hs.drop k1 = KS at *
          rw [← Bool.not_not (M.all fun m => mtA l KS m), ← ndk_all] at HX
          generalize fitC l cs ns KS = x at *
          have HCV := hide hcv
          obtain ⟨ka, kc, rfl, hk9, hkc⟩ := hcv
          have HKC := hide hkc
          clear hkc
          go_wp2
          go_loopw [12, 13] (fun vn vk ws => ∃ (j : Nat) (nd : Bool), j ≤ M.length ∧ vk = .int .i64 (j : Int) ∧ vn = .bool nd ∧ Hid (nd = ndk l M KS j) ∧ Below wc.heap.size wc ws) (fun _ j _ => M.length - (intOf j).toNat)
          case atStart => exact ⟨0, false, Nat.zero_le _, rfl, rfl, rfl, Below.refl _ _⟩
          case round =>
            obtain ⟨j, nd, hjl, rfl, rfl, HND, hg⟩ := hrel
            have hgs := hg.size
            have tg := tx.trans (hg.mono tx.size)
            have kg := kx.trans (hg.mono kx.size)
            by_cases hjt : j < M.length
            · have jz1 : (j : Int) < (M.length : Int) := by omega
              have jz0 : (0 : Int) ≤ (j : Int) := by omega
              obtain ⟨bm, om, rfl, hmc⟩ := unhide HUC (by omega)
              have qm := ((hbx.trans (hg.mono hbx.size)).cell (cell_lt (hmc j hjt))).trans (hmc j hjt)
              have HNN := hide (ndk_next (l := l) (ks := KS) hjt)
              have HMK := hide (mtk_all l KS (M.getD j te))
              rw [← unhide HND] at HNN
              clear hmc HND
              generalize M.getD j te = mi at *
              go_wp2
              go_loopw [14, 15] (fun vm vk wt => ∃ (q : Nat) (m : Bool), q ≤ KS.length ∧ vk = .int .i64 (q : Int) ∧ vm = .bool m ∧ Hid (m = mtk l KS mi q) ∧ Below wr.heap.size wr wt) (fun _ q _ => KS.length - (intOf q).toNat)
              case atStart => exact ⟨0, false, Nat.zero_le _, rfl, rfl, rfl, Below.refl _ _⟩
              case round =>
                obtain ⟨q, m, hql, rfl, rfl, HMM, hv⟩ := hrel
                have hvs := hv.size
                have tv := tg.trans (hv.mono tg.size)
                have kv := kg.trans (hv.mono kg.size)
                have gv := hg.trans (hv.mono hgs)
                by_cases hqt : q < KS.length
                · have qz1 : (q : Int) < (KS.length : Int) := by omega
                  have qz0 : (0 : Int) ≤ (q : Int) := by omega
                  obtain ⟨bk, ok, rfl, hkk⟩ := unhide HKC (by omega)
                  have q0 := cell_bb ((gv.cell (cell_lt (hkk q hqt))).trans (hkk q hqt))
                  have q1 := cell_bb ((hv.cell (cell_lt qm)).trans qm)
                  have c0 := cell_bb (unhide HSW _ kv).1
                  have HNX := hide (mtk_next (l := l) (m := mi) hqt)
                  have C7 := hide (fun p : BB wr => unhide CI (KS.getD q te) mi p.W (tv.trans (p.b.mono tv.size)))
                  clear hkk
                  rw [← unhide HMM] at HNX
                  generalize KS.getD q te = hk at *
                  generalize isT l hk mi = z at *
                  cases m
                  · rw [Bool.false_or] at HNX
                    go_wp2
                    refine wp_region_below (by first | exact mx | assumption) (by kernel_rfl) ?_
                    intro nebb
                    repeat (go_big_quiet_step ((go_at_call 22; exact callsBB (unhide C7 _))))
                    refine wpQuiet_nil ?_
                    intro _ hw'
                    obtain ⟨pq, hw''⟩ := hw'
                    subst hw''
                    have bq := pq.b
                    generalize pq.W = wq at *
                    go_wp2
                    go_roundw
                    case rel => exact ⟨q + 1, z, by omega, by go_num, rfl, (unhide HNX).symm, hv.trans (bq.mono hvs)⟩
                    case measure => simp [intOf]; omega
                  · rw [Bool.true_or] at HNX
                    go_wp2
                    refine wp_region_below (by first | exact mx | assumption) (by kernel_rfl) ?_
                    intro nebb
                    repeat (go_big_quiet_step (fail))
                    refine wpQuiet_nil ?_
                    intro _ hw'
                    obtain ⟨pq, hw''⟩ := hw'
                    subst hw''
                    have bq := pq.b
                    generalize pq.W = wq at *
                    go_wp2
                    go_roundw
                    case rel => exact ⟨q + 1, true, by omega, by go_num, rfl, (unhide HNX).symm, hv.trans (bq.mono hvs)⟩
                    case measure => simp [intOf]; omega
                · have qz1 : ¬ (q : Int) < (KS.length : Int) := by omega
                  obtain rfl : q = KS.length := by omega
                  rw [unhide HMK] at HMM
                  rw [← unhide HMM] at HNN
                  clear HMM HMK
                  cases nd <;> cases m <;>
                    (simp only [Bool.not_true, Bool.not_false, Bool.or_true, Bool.or_false] at HNN
                     go_wp2
                     go_roundw
                     case rel => exact ⟨j + 1, _, by omega, by go_num, rfl, (unhide HNN).symm, gv⟩
                     case measure => simp [intOf]; omega)
            · have jz1 : ¬ (j : Int) < (M.length : Int) := by omega
              obtain rfl : j = M.length := by omega
              rw [← unhide HND] at HX
              have C8 := hide (unhide C5 _ _ tg ((unhide HCV).below hg))
              obtain ⟨x0, x1⟩ := unhide HSW _ kg
              have hx0 := unhide HX
              clear HND HX C5
              cases nd
              · rw [Bool.not_false] at hx0
                go_wp2_with (go_at_call 17; refine (unhide C8).mono ?_; rintro e w9 ⟨rfl, b9⟩)
                go_roundw
                case rel => exact ⟨k + 1, by omega, by go_num, (hbx.trans (hg.mono hbx.size)).trans (b9.mono (hbx.trans (hg.mono hbx.size)).size)⟩
                case measure => simp [intOf]; omega
              · rw [Bool.not_true] at hx0
                go_wp2_with (go_at_call 17; refine (unhide C8).mono ?_; rintro e w9 ⟨rfl, b9⟩)
                go_roundw
                case rel => exact ⟨k + 1, by omega, by go_num, (hbx.trans (hg.mono hbx.size)).trans (b9.mono (hbx.trans (hg.mono hbx.size)).size)⟩
                case measure => simp [intOf]; omega
      · have hzl : ¬ (k : Int) < (hs.length : Int) := by omega
        go_wp2_with (go_at_call 9; refine (unhide CA _ td).mono ?_; rintro e w20 ⟨rfl, b20⟩; have t20 := td.trans (b20.mono td.size))
        go_ret
        exact ⟨rfl, t20⟩
  · have hne : (fitC l cs ns hs != 0) = true := by simpa using h0
    clear h0 CN CI CU1 CU2 C1
    generalize fitC l cs ns hs = x at *
    go_enter Try.func7, Try.ntmps7
    go_wp2_with (first
      | (go_at_call 9; refine (unhide CA _ t2).mono ?_; rintro e w3 ⟨rfl, b3⟩; have t3 := t2.trans (b3.mono t2.size))
      | (go_at_call 17; refine (unhide C2 _ t1).mono ?_; rintro e w2 ⟨rfl, b2⟩; have t2 := t1.trans (b2.mono t1.size))
      | (go_at_call 8; refine (unhide CF).mono ?_; rintro e w1 ⟨rfl, b1⟩; have t1 := b0.trans (b1.mono b0.size); have S1 := hide ((unhide S0).keep b1); obtain ⟨y0, y1⟩ := (unhide S1).cells))
    go_ret
    exact ⟨rfl, t3⟩
end Go.Proofs.Ytjjildpdelkejaa
