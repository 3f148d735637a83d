/- The document's Needs of layer 21. -/
import Derived.Test.YtjjildpdelkejaaM12
import Derived.Deep.CutRange
namespace Go.Proofs.Ytjjildpdelkejaa
open Go.RowKit

theorem ned_bad {l : List Ty} {cs : List Cl} (h : ¬ chkC l cs = 0) (ns : List ByteArray) : nedE l cs ns = chkC l cs ∧ nedM l cs ns = [] ∧ nedY l cs ns = [] := by
  have e : nedE l cs ns = chkC l cs := by unfold nedE; rw [if_neg h]
  refine ⟨e, ?_, ?_⟩
  · unfold nedM; rw [e, if_neg h]
  · unfold nedY; rw [e, if_neg h]
theorem ned_no {l : List Ty} {cs : List Cl} (h : chkC l cs = 0) {ns : List ByteArray} (hn : (thrC cs ns && whoC cs ns) = false) : nedE l cs ns = 200 ∧ nedM l cs ns = [] ∧ nedY l cs ns = [] := by
  have e : nedE l cs ns = 200 := by unfold nedE; rw [if_pos h, hn]; rfl
  refine ⟨e, ?_, ?_⟩
  · unfold nedM; rw [e]; rfl
  · unfold nedY; rw [e]; rfl
theorem ned_yes {l : List Ty} {cs : List Cl} (h : chkC l cs = 0) {ns : List ByteArray} (hn : (thrC cs ns && whoC cs ns) = true) : nedE l cs ns = 0 ∧ nedM l cs ns = musL cs ns ∧ nedY l cs ns = mayL cs ns := by
  have e : nedE l cs ns = 0 := by unfold nedE; rw [if_pos h, if_pos hn]
  refine ⟨e, ?_, ?_⟩
  · unfold nedM; rw [if_pos e]
  · unfold nedY; rw [if_pos e]
theorem nil_ts (w : World) : TsV w (.slice none 0 0) [] := ⟨none, 0, rfl, ⟨by simp, by simp⟩, fun h => absurd h (by simp)⟩
theorem ret_ned {u1 u2 : Value} {a b : Int} (h : a = b) : Ending.returned (.tuple #[u1, u2, .int .i64 a]) = .returned (.tuple #[u1, u2, .int .i64 b]) := by rw [h]
theorem map_ts {w : World} {v : Value} {X : List Cl} (h : TsV w v (X.map (·.nam))) : ∃ a c, v = .slice a X.length c ∧ (0 < X.length → ∃ b off, a = some ⟨b, off, none⟩ ∧ ∀ j, j < X.length → w.cell? ⟨b, off + j, none⟩ = some (.string (X.getD j cl0).nam)) := by
  obtain ⟨a, c, e, _, hc⟩ := h
  rw [List.length_map] at e hc
  refine ⟨a, c, e, fun h0 => ?_⟩
  obtain ⟨b, off, e2, hce⟩ := hc h0
  refine ⟨b, off, e2, fun j hj => ?_⟩
  rw [hce j hj]
  simp [List.getD, hj]
theorem fndC_ix {l : List Ty} {cs : List Cl} (h : okC l cs = true) {c : Cl} (hc : c ∈ cs) : ∃ i : Nat, i < cs.length ∧ ixC cs c.nam = (i : Int) ∧ cs.getD i cl0 = c := by
  rcases ixC_fnd cs c.nam with ⟨hf, _⟩ | ⟨i, hi, hx, hf⟩
  · rw [fndC_of h hc] at hf; cases hf
  · rw [fndC_of h hc] at hf
    exact ⟨i, hi, hx, (Option.some.inj hf).symm⟩
theorem txd_cells {B : Nat} {v : Value} {L : List ByteArray} {w : World} (h : Tx B v L w) : ∃ a c, v = .slice a L.length c := by
  rcases h.2 with ⟨rfl, h0⟩ | ⟨g, cap, _, rfl, _⟩
  · exact ⟨none, 0, by rw [h0]⟩
  · exact ⟨_, _, rfl⟩
set_option maxRecDepth 100000 in
set_option maxHeartbeats 25600000 in
theorem rned_any (va vc vn : Value) (l : List Ty) (cs : List Cl) (ns : List ByteArray) (w : World) (hT : TysV w va l) (hC : ClsV w vc cs) (hN : TsV w vn ns) (hl : ns.length ≤ 100) :
    Calls Try.prog 16 #[.agg #[va, vc], vn] w fun e w' => ∃ u1 u2, e = .returned (.tuple #[u1, u2, .int .i64 (nedE l cs ns)]) ∧ TsV w' u1 (nedM l cs ns) ∧ TsV w' u2 (nedY l cs ns) ∧ Below w.heap.size w w' := by
  have mx : Try.prog.follows .mixedOrders = true := by kernel_rfl
  obtain ⟨i0, hi, iz0, iz1, iz2⟩ := info_parts str_info
  have CK := hide (fun W (h : Below w.heap.size w W) => rchk21_any va vc l cs W (hT.below h) (hC.below h))
  have CA := hide (fun m W (h : Below w.heap.size w W) => rcat_any va vc cs m W (hC.below h))
  have CL := hide (fun m W (h : Below w.heap.size w W) => rlin21_any va vc l cs m W (hT.below h) (hC.below h))
  have HC := hide hC
  obtain ⟨aa, ca, rfl⟩ := hT.shape
  obtain ⟨ac, cc, rfl⟩ := hC.shape
  obtain ⟨an, cn, rfl, hn9, hcn⟩ := hN
  have HN : Hid (∀ W, Below w.heap.size w W → 0 < ns.length → ∃ b off, an = some ⟨b, off, none⟩ ∧ ∀ j, j < ns.length → W.cell? ⟨b, off + j, none⟩ = some (.string (ns.getD j te))) := fun W h h0 => by
    obtain ⟨b, off, e, hce⟩ := hcn h0
    exact ⟨b, off, e, fun j hj => (h.cell (cell_lt (hce j hj))).trans (hce j hj)⟩
  clear hT hC hcn
  have b0 := Below.one w (.cells #[.slice aa l.length ca, .slice ac cs.length cc] 25)
  have S0 : Hid (Bs w.heap.size (.slice aa l.length ca) (.slice ac cs.length cc) (w.alloc (.cells #[.slice aa l.length ca, .slice ac cs.length cc] 25))) := heap_new w _
  obtain ⟨s0, s1⟩ := (unhide S0).cells
  by_cases h0 : chkC l cs = 0
  · rw [h0] at CK
    obtain ⟨_, hk⟩ := chkC_ok h0
    have h12 := okC_12 hk
    have HK := hide hk
    have H0 := hide h0
    clear h0 hk
    go_enter Try.func16, Try.ntmps16
    go_wp2_with (go_at_call 11; refine (unhide CK _ b0).mono ?_; rintro e w1 ⟨rfl, k1⟩; have t1 := b0.trans (k1.mono b0.size); have S1 := hide ((unhide S0).keep k1); obtain ⟨u0, u1⟩ := (unhide S1).cells)
    clear u0 u1 s0 s1 CK S1 t1
    obtain ⟨w0, hw0⟩ : ∃ w0, w.alloc (.cells #[.slice aa l.length ca, .slice ac cs.length cc] 25) = w0 := ⟨_, rfl⟩
    rw [hw0] at b0 S0 k1
    have hs0 : w0.heap.size = w.heap.size + 1 := by rw [← hw0]; simp
    clear hw0
    go_loopw [8, 9, 10, 12] (fun vw vm va vi wr => ∃ k : Nat, k ≤ ns.length ∧ vi = .int .i64 (k : Int) ∧ vw = .bool (whoC cs (ns.take k)) ∧ Hid (thrC cs (ns.take k) = true) ∧ Hid (Tx w0.heap.size vm (mF (allC cs (ns.take k)) []) wr ∧ (mF (allC cs (ns.take k)) []).length ≤ 112 * k) ∧ Hid (Tx w0.heap.size va (yF (allC cs (ns.take k)) []) wr ∧ (yF (allC cs (ns.take k)) []).length ≤ 112 * k) ∧ Below w0.heap.size w0 wr) (fun _ _ _ i _ => ns.length - (intOf i).toNat)
    case atStart => exact ⟨0, Nat.zero_le _, rfl, rfl, rfl, ⟨Tx.nil _ _, by simp [mF, allC]⟩, ⟨Tx.nil _ _, by simp [yF, allC]⟩, k1⟩
    case round =>
      obtain ⟨k, hkl, rfl, rfl, HTH, HM, HA, hb⟩ := hrel
      have hsz := hb.size
      have hbw := b0.trans (hb.mono b0.size)
      by_cases hlt : k < ns.length
      · have hzl : (k : Int) < (ns.length : Int) := by omega
        have hz0 : (0 : Int) ≤ (k : Int) := by omega
        obtain ⟨bn, on, rfl, hnn⟩ := unhide HN _ hbw (by omega)
        have q0 := hnn k hlt
        have HQN : Hid (∀ W, Below wr.heap.size wr W → W.cell? ⟨bn, on + k, none⟩ = some (.string (ns.getD k te))) := fun W h => (h.cell (cell_lt q0)).trans q0
        obtain ⟨s0, s1⟩ := ((unhide S0).keep hb).cells
        have C1 := hide (fun p : BB wr => unhide CA (ns.getD k te) p.W (hbw.trans (p.b.mono hbw.size)))
        clear hnn
        replace q0 := cell_bb q0
        replace s0 := cell_bb s0
        replace s1 := cell_bb s1
        rcases ixC_fnd cs (ns.getD k te) with ⟨hf, hx⟩ | ⟨i, hil, hx, hf⟩
        · rw [hx] at C1
          have HE := hide (ned_no (unhide H0) (ns := ns) (by rw [thrC_no hlt hf]; rfl))
          clear hx hf HM HA HTH
          generalize ns.getD k te = n at *
          generalize whoC cs (ns.take k) = wh at *
          go_wp2
          refine wp_region_below (by first | exact mx | assumption) (by kernel_rfl) ?_
          intro nebb
          repeat (go_big_quiet_step ((go_at_call 30; exact callsBB (unhide C1 _))))
          refine wpQuiet_nil ?_
          intro _ hw'
          obtain ⟨pq, hw''⟩ := hw'
          subst hw''
          have bq := pq.b
          generalize pq.W = wq at *
          go_wp2
          refine bodyPost_ret (results_tmp3 rfl _ _ _) rfl ?_
          obtain ⟨e1, e2, e3⟩ := unhide HE
          exact ⟨_, _, ret_ned e1.symm, by rw [e2]; exact nil_ts _, by rw [e3]; exact nil_ts _, hbw.trans (bq.mono hbw.size)⟩
        · rw [hx] at C1
          have HTH2 := hide (thrC_next hlt (unhide HTH) hf)
          have HWN := hide (whoC_next hlt hf)
          have HAN := hide (allC_next (cs := cs) hlt)
          have HLN : Hid (lineC l cs (ns.getD k te) = (linC cs (ns.getD k te)).map (·.nam)) := by show _ = _; unfold lineC; rw [if_pos (unhide H0)]
          have hll := linC_len cs (ns.getD k te)
          have HLI : Hid (∀ c ∈ linC cs (ns.getD k te), c ∈ cs) := fun c hc => linC_in c hc
          have hi0 : ¬ (i : Int) < 0 := by omega
          have hi1 : (i : Int) < (cs.length : Int) := by omega
          have hi2 : (0 : Int) ≤ (i : Int) := by omega
          clear hx hf HTH
          have CL1 := hide (unhide CL (ns.getD k te))
          rw [unhide HLN] at CL1
          clear HLN
          obtain ⟨ac', cc', hvv, _, hcl⟩ := (unhide HC).below hbw
          cases hvv
          obtain ⟨bc, oc, rfl, hce⟩ := hcl (by omega)
          have HCE : Hid (∀ W, Below wr.heap.size wr W → ∀ j, j < cs.length → CellsC W bc (oc + j * 5) (cs.getD j cl0)) := fun W h j hj => (hce j hj).below h
          clear hcl
          have HBI : Hid (∀ W, Below wr.heap.size wr W → W.cell? ⟨bc, oc + i * 5 + 2, none⟩ = some (.bool (cs.getD i cl0).bar)) := fun W h => (unhide HCE W h i hil).2.2.1
          clear hce
          generalize hlin : linC cs (ns.getD k te) = lin at *
          clear hlin
          generalize ns.getD k te = n at *
          generalize (cs.getD i cl0).bar = br at *
          generalize whoC cs (ns.take k) = wh at *
          generalize hM0 : mF (allC cs (ns.take k)) [] = M0 at *
          generalize hA0 : yF (allC cs (ns.take k)) [] = A0 at *
          have HMN : Hid (mF (allC cs (ns.take (k + 1))) [] = mF lin M0) := by show _ = _; rw [unhide HAN, mF_app, hM0]
          have HYN : Hid (yF (allC cs (ns.take (k + 1))) [] = yF lin A0) := by show _ = _; rw [unhide HAN, yF_app, hA0]
          clear hM0 hA0 HAN
          go_wp2
          refine wp_region_below (by first | exact mx | assumption) (by kernel_rfl) ?_
          intro nebb
          repeat (go_big_quiet_step ((go_at_call 30; exact callsBB (unhide C1 _))))
          refine wpQuiet_nil ?_
          intro _ hw'
          obtain ⟨pq, hw''⟩ := hw'
          subst hw''
          have bq := pq.b
          generalize pq.W = wq at *
          have r0 := s0 ⟨wq, bq⟩
          have r1 := s1 ⟨wq, bq⟩
          have rn := unhide HQN _ bq
          have rb := unhide HBI _ bq
          have hbq := hb.trans (bq.mono hb.size)
          have hwq := b0.trans (hbq.mono b0.size)
          have HW2 : Hid (whoC cs (ns.take (k + 1)) = (wh || !br)) := unhide HWN
          clear HWN s0 s1 q0 C1
          cases wh
          all_goals
            try simp only [Bool.true_or, Bool.false_or] at HW2
            go_wp2
            go_region_held3 (fun W => W.cell? ⟨w.heap.size, 0, none⟩ = some (.slice aa l.length ca) ∧ W.cell? ⟨w.heap.size, 1, none⟩ = some (.slice (some ⟨bc, oc, none⟩) cs.length cc) ∧ W.cell? ⟨bn, on + k, none⟩ = some (.string n)) (first | with_reducible exact ⟨r0, r1, rn⟩ | with_reducible exact ⟨y0, y1, y2⟩ | assumption | go_keep)
              (first | (go_at_call 14; refine (unhide CL1 _ hwq.drew).mono ?_; rintro e w4 ⟨u, rfl, hu, b4⟩; have k4 : Below wq.heap.size wq w4 := ((Below.refl _ wq).drew).trans b4; have HU := hide hu; clear hu b4; have t4 := hbq.trans (k4.mono hbq.size); obtain ⟨y0, y1⟩ := ((unhide S0).keep t4).cells; have y2 := unhide HQN _ (bq.trans (k4.mono bq.size)); obtain ⟨ul, uc, rfl, huc⟩ := map_ts ((unhide HU).ts (by simp; omega)); have HUC := hide huc; clear huc HU))
            try simp only [Exit.then]
            go_wp2
            clear r0 r1 rn rb y0 y1 y2 HBI HQN
            have hq4 := bq.trans (k4.mono bq.size)
            have hw4 := b0.trans (t4.mono b0.size)
            go_loopw [9, 10, 15] (fun vm va vj ws => ∃ j : Nat, j ≤ lin.length ∧ vj = .int .i64 (j : Int) ∧ Hid (Tx w0.heap.size vm (mF (lin.take j) M0) ws ∧ (mF (lin.take j) M0).length ≤ 112 * k + 8 * j) ∧ Hid (Tx w0.heap.size va (yF (lin.take j) A0) ws ∧ (yF (lin.take j) A0).length ≤ 112 * k + 8 * j) ∧ Below w4.heap.size w4 ws) (fun _ _ j _ => lin.length - (intOf j).toNat)
            case atStart => exact ⟨0, Nat.zero_le _, rfl, ⟨(unhide HM).1.below hq4, (unhide HM).2⟩, ⟨(unhide HA).1.below hq4, (unhide HA).2⟩, Below.refl _ _⟩
            case round =>
              clear HM HA
              obtain ⟨j, hjl, rfl, HM, HA, hs⟩ := hrel
              have hss := hs.size
              have hts := t4.trans (hs.mono t4.size)
              by_cases hjt : j < lin.length
              · have jz1 : (j : Int) < (lin.length : Int) := by omega
                have jz0 : (0 : Int) ≤ (j : Int) := by omega
                obtain ⟨bl, ol, rfl, hlc⟩ := unhide HUC (by omega)
                have HLC : Hid (∀ W, Below w4.heap.size w4 W → W.cell? ⟨bl, ol + j, none⟩ = some (.string (lin.getD j cl0).nam)) := fun W h => (h.cell (cell_lt (hlc j hjt))).trans (hlc j hjt)
                clear hlc
                have hcm : lin.getD j cl0 ∈ cs := unhide HLI _ (by simp [List.getD, hjt])
                obtain ⟨ii, iil, iix, iie⟩ := fndC_ix (unhide HK) hcm
                have hm8 := okC_mus (unhide HK) hcm
                have HCC : Hid (∀ W, Below w4.heap.size w4 W → CellsC W bc (oc + ii * 5) (lin.getD j cl0)) := fun W h => by
                  have := unhide HCE W (hq4.trans (h.mono hq4.size)) ii iil
                  rwa [iie] at this
                have C5 := hide (unhide CA (lin.getD j cl0).nam)
                rw [iix] at C5
                have HMX := hide (mF_next hjt M0)
                have HYX := hide (yF_next hjt A0)
                have iz0' : (0 : Int) ≤ (ii : Int) := by omega
                have iz1' : (ii : Int) < (cs.length : Int) := by omega
                clear iix iie hcm
                generalize lin.getD j cl0 = c at *
                obtain ⟨_, _, _, ⟨vm9, g3, hm9⟩, ⟨vy9, g4, hy9⟩⟩ := unhide HCC _ (Below.refl _ _)
                have HMT := hide hm9
                have HYT := hide hy9
                obtain ⟨am, cm, rfl, hm10⟩ := hm9
                obtain ⟨ay, cy, rfl, hy10⟩ := hy9
                have HSS : Hid (∀ W, Below w4.heap.size w4 W → W.cell? ⟨w.heap.size, 0, none⟩ = some (.slice aa l.length ca) ∧ W.cell? ⟨w.heap.size, 1, none⟩ = some (.slice (some ⟨bc, oc, none⟩) cs.length cc) ∧ W.cell? ⟨bl, ol + j, none⟩ = some (.string c.nam) ∧ W.cell? ⟨bc, oc + ii * 5, none⟩ = some (.string c.nam) ∧ W.cell? ⟨bc, oc + ii * 5 + 1, none⟩ = some (.string c.abv) ∧ W.cell? ⟨bc, oc + ii * 5 + 2, none⟩ = some (.bool c.bar) ∧ W.cell? ⟨bc, oc + ii * 5 + 3, none⟩ = some (.slice am c.mus.length cm) ∧ W.cell? ⟨bc, oc + ii * 5 + 4, none⟩ = some (.slice ay c.may.length cy)) := fun W h => by
                  obtain ⟨z0, z1, z2, _, _⟩ := unhide HCC W h
                  obtain ⟨p0, p1⟩ := ((unhide S0).keep (t4.trans (h.mono t4.size))).cells
                  exact ⟨p0, p1, unhide HLC W h, z0, z1, z2, (h.cell (cell_lt g3)).trans g3, (h.cell (cell_lt g4)).trans g4⟩
                clear hm10 hy10 g3 g4 HLC HCC
                have oa : Below wr.heap.size wr (wr.alloc (.cells #[.string ⟨#[]⟩, .string ⟨#[]⟩, .bool false, .slice none 0 0, .slice none 0 0] 49)) := Below.one wr _
                have hbd : Below w4.heap.size w4 wr.drew := hs.drew
                have hba : Below w4.heap.size w4 (wr.alloc (.cells #[.string ⟨#[]⟩, .string ⟨#[]⟩, .bool false, .slice none 0 0, .slice none 0 0] 49)).drew := (hs.trans (oa.mono hss)).drew
                have XA : Hid (Bc wr.heap.size cl0 (.slice none 0 0) (.slice none 0 0) (wr.alloc (.cells #[.string ⟨#[]⟩, .string ⟨#[]⟩, .bool false, .slice none 0 0, .slice none 0 0] 49)).drew) := heap_new wr _
                have kd : Below wr.heap.size wr wr.drew := (Below.refl _ wr).drew
                have ka : Below wr.heap.size wr (wr.alloc (.cells #[.string ⟨#[]⟩, .string ⟨#[]⟩, .bool false, .slice none 0 0, .slice none 0 0] 49)).drew := oa.drew
                go_upto_region 17 with fail
                go_cut [16] from 61 to 70 (fun v16 wx => ∃ bz : Nat, v16 = .pointer (some ⟨bz, 0, none⟩) ∧ Bc bz c (.slice am c.mus.length cm) (.slice ay c.may.length cy) wx ∧ Below wr.heap.size wr wx)
                case first =>
                  go_region_held3 (fun W => W.cell? ⟨w.heap.size, 0, none⟩ = some (.slice aa l.length ca) ∧ W.cell? ⟨w.heap.size, 1, none⟩ = some (.slice (some ⟨bc, oc, none⟩) cs.length cc) ∧ W.cell? ⟨bl, ol + j, none⟩ = some (.string c.nam) ∧ W.cell? ⟨bc, oc + ii * 5, none⟩ = some (.string c.nam) ∧ W.cell? ⟨bc, oc + ii * 5 + 1, none⟩ = some (.string c.abv) ∧ W.cell? ⟨bc, oc + ii * 5 + 2, none⟩ = some (.bool c.bar) ∧ W.cell? ⟨bc, oc + ii * 5 + 3, none⟩ = some (.slice am c.mus.length cm) ∧ W.cell? ⟨bc, oc + ii * 5 + 4, none⟩ = some (.slice ay c.may.length cy)) (first | with_reducible exact unhide HSS _ hbd | with_reducible exact unhide HSS _ hba | with_reducible exact unhide HSS _ t5 | with_reducible exact unhide HSS _ t5a | with_reducible exact unhide HSS _ t5p | assumption | go_keep)
                    (first
                      | (go_at_call 30; refine (unhide C5 _ (by with_reducible exact (hw4.trans (hbd.mono hw4.size)))).mono ?_; rintro e w5 ⟨rfl, b5⟩; have t5 := hbd.trans (b5.mono hbd.size); have k5 := kd.trans (b5.mono kd.size); have o5 := Below.one w5 (.cells #[.string ⟨#[]⟩, .string ⟨#[]⟩, .bool false, .slice none 0 0, .slice none 0 0] 49); have t5a := t5.trans (o5.mono t5.size); have X5 : Hid (Bc w5.heap.size cl0 (.slice none 0 0) (.slice none 0 0) (w5.alloc (.cells #[.string ⟨#[]⟩, .string ⟨#[]⟩, .bool false, .slice none 0 0, .slice none 0 0] 49))) := heap_new w5 _; have t5p := t5.trans ((Below.one w5 (.cells #[.string c.nam, .string c.abv, .bool c.bar, .slice am c.mus.length cm, .slice ay c.may.length cy] 49)).mono t5.size); obtain ⟨x0, x1, x2, x3, x4⟩ := (unhide X5).cells; have f0 := (unhide X5).free 0; have f1 := (unhide X5).free 1; have f2 := (unhide X5).free 2; have f3 := (unhide X5).free 3; have f4 := (unhide X5).free 4)
                      | (go_at_call 30; refine (unhide C5 _ (by with_reducible exact (hw4.trans (hba.mono hw4.size)))).mono ?_; rintro e w5 ⟨rfl, b5⟩; have t5 := hba.trans (b5.mono hba.size); have k5 := ka.trans (b5.mono ka.size); have X5 := hide ((unhide XA).keep b5); have t5p := putC_below t5 (b := wr.heap.size) hss c (.slice am c.mus.length cm) (.slice ay c.may.length cy); unfold putC at t5p; obtain ⟨x0, x1, x2, x3, x4⟩ := (unhide X5).cells; have f0 := (unhide X5).free 0; have f1 := (unhide X5).free 1; have f2 := (unhide X5).free 2; have f3 := (unhide X5).free 3; have f4 := (unhide X5).free 4))
                  · go_wp2
                    go_meet
                    exact ⟨_, rfl, heap_new w5 _, k5.trans ((Below.one w5 (.cells #[.string c.nam, .string c.abv, .bool c.bar, .slice am c.mus.length cm, .slice ay c.may.length cy] 49)).mono k5.size)⟩
                  · go_wp2
                    go_meet
                    exact ⟨_, rfl, (unhide X5).put c _ _, putC_below k5 (Nat.le_refl _) c _ _⟩
                case rest =>
                  obtain ⟨bz, rfl, hB, hkc⟩ := hcut
                  have HB := hide hB
                  have hs5 := hs.trans (hkc.mono hss)
                  have HM5 : Hid (Tx w0.heap.size u9 (mF (lin.take j) M0) wc ∧ (mF (lin.take j) M0).length ≤ 112 * k + 8 * j) := ⟨(unhide HM).1.below hkc, (unhide HM).2⟩
                  have HA5 : Hid (Tx w0.heap.size u10 (yF (lin.take j) A0) wc ∧ (yF (lin.take j) A0).length ≤ 112 * k + 8 * j) := ⟨(unhide HA).1.below hkc, (unhide HA).2⟩
                  clear hB HM HA XA HSS oa hbd hba kd ka C5
                  generalize mF (lin.take j) M0 = M1 at *
                  generalize yF (lin.take j) A0 = A1 at *
                  go_wp2
                  go_loopw [9, 17] (fun vm vi wt => ∃ m : Nat, m ≤ c.mus.length ∧ vi = .int .i64 (m : Int) ∧ Hid (Tx w0.heap.size vm ((c.mus.take m).foldl putS M1) wt ∧ ((c.mus.take m).foldl putS M1).length ≤ 112 * k + 8 * j + m) ∧ Below wc.heap.size wc wt) (fun _ i _ => c.mus.length - (intOf i).toNat)
                  case atStart => exact ⟨0, Nat.zero_le _, rfl, unhide HM5, Below.refl _ _⟩
                  case round =>
                    clear HM5
                    obtain ⟨m, hml, rfl, HM, hd⟩ := hrel
                    have hds := hd.size
                    have hs6 := hs5.trans (hd.mono hs5.size)
                    have x3 := ((unhide HB).keep hd).cells.2.2.2.1
                    by_cases hmt : m < c.mus.length
                    · have mz1 : (m : Int) < (c.mus.length : Int) := by omega
                      have mz0 : (0 : Int) ≤ (m : Int) := by omega
                      obtain ⟨am', cm', hvv, _, hcc⟩ := (unhide HMT).below hs6
                      cases hvv
                      obtain ⟨bm, om, rfl, hcm⟩ := hcc (by omega)
                      have qm := hcm m hmt
                      have HPN := hide (pF_next hmt M1)
                      have hle := (unhide HM).2
                      have hsw := (t4.trans (hs6.mono t4.size)).size
                      have CP := hide (rput_any w0.heap.size u9 ((c.mus.take m).foldl putS M1) (c.mus.getD m te) wr (unhide HM).1 hsw (by omega))
                      have hpl := putS_len (c.mus.getD m te) ((c.mus.take m).foldl putS M1)
                      clear hcc hcm HM
                      rw [← unhide HPN] at CP hpl
                      clear HPN
                      generalize c.mus.getD m te = sm at *
                      go_wp2_with (go_at_call 36; refine (unhide CP).mono ?_; rintro e w7 ⟨u7, rfl, hu7, b7⟩; have HU7 := hide hu7; clear hu7)
                      go_roundw
                      case rel => exact ⟨m + 1, by omega, by go_num, ⟨unhide HU7, by omega⟩, hd.trans (b7.mono hds)⟩
                      case measure => simp [intOf]; omega
                    · have mz1 : ¬ (m : Int) < (c.mus.length : Int) := by omega
                      obtain rfl : m = c.mus.length := by omega
                      rw [List.take_length, ← unhide HMX] at HM
                      have HA6 : Hid (Tx w0.heap.size u10 A1 wr ∧ A1.length ≤ 112 * k + 8 * j) := ⟨(unhide HA5).1.below hd, (unhide HA5).2⟩
                      have HB6 := hide ((unhide HB).keep hd)
                      have HYT6 := hide ((unhide HYT).below hs6)
                      clear HA5 HMX HMT HYT HB
                      go_wp2
                      go_loopw [10, 18] (fun va vi wt => ∃ m : Nat, m ≤ c.may.length ∧ vi = .int .i64 (m : Int) ∧ Hid (Tx w0.heap.size va ((c.may.take m).foldl putS A1) wt ∧ ((c.may.take m).foldl putS A1).length ≤ 112 * k + 8 * j + m) ∧ Below wr.heap.size wr wt) (fun _ i _ => c.may.length - (intOf i).toNat)
                      case atStart => exact ⟨0, Nat.zero_le _, rfl, unhide HA6, Below.refl _ _⟩
                      case round =>
                        clear HA6
                        obtain ⟨m, hml2, rfl, HA, he⟩ := hrel
                        have hes := he.size
                        have hs7 := hs6.trans (he.mono hs6.size)
                        have x4 := ((unhide HB6).keep he).cells.2.2.2.2
                        by_cases hmt2 : m < c.may.length
                        · have mz3 : (m : Int) < (c.may.length : Int) := by omega
                          have mz4 : (0 : Int) ≤ (m : Int) := by omega
                          obtain ⟨ay', cy', hvv, _, hcc⟩ := (unhide HYT6).below he
                          cases hvv
                          obtain ⟨by', oy, rfl, hcm⟩ := hcc (by omega)
                          have qm := hcm m hmt2
                          have HPN := hide (pF_next hmt2 A1)
                          have hle := (unhide HA).2
                          have hsw := (t4.trans (hs7.mono t4.size)).size
                          have CP := hide (rput_any w0.heap.size u10 ((c.may.take m).foldl putS A1) (c.may.getD m te) wr (unhide HA).1 hsw (by omega))
                          have hpl := putS_len (c.may.getD m te) ((c.may.take m).foldl putS A1)
                          clear hcc hcm HA
                          rw [← unhide HPN] at CP hpl
                          clear HPN
                          generalize c.may.getD m te = sm at *
                          go_wp2_with (go_at_call 36; refine (unhide CP).mono ?_; rintro e w7 ⟨u7, rfl, hu7, b7⟩; have HU7 := hide hu7; clear hu7)
                          go_roundw
                          case rel => exact ⟨m + 1, by omega, by go_num, ⟨unhide HU7, by omega⟩, he.trans (b7.mono hes)⟩
                          case measure => simp [intOf]; omega
                        · have mz3 : ¬ (m : Int) < (c.may.length : Int) := by omega
                          obtain rfl : m = c.may.length := by omega
                          rw [List.take_length, ← unhide HYX] at HA
                          have HM7 : Hid (Tx w0.heap.size u9 (mF (lin.take (j + 1)) M0) wr ∧ (mF (lin.take (j + 1)) M0).length ≤ 112 * k + 8 * j + c.mus.length) := ⟨(unhide HM).1.below he, (unhide HM).2⟩
                          clear HM HYX
                          go_wp2
                          go_roundw
                          case rel => exact ⟨j + 1, by omega, by go_num, ⟨(unhide HM7).1, by have := (unhide HM7).2; have := hm8.1; omega⟩, ⟨(unhide HA).1, by have := (unhide HA).2; have := hm8.2; omega⟩, hs7⟩
                          case measure => simp [intOf]; omega
              · have jz1 : ¬ (j : Int) < (lin.length : Int) := by omega
                obtain rfl : j = lin.length := by omega
                rw [List.take_length, ← unhide HMN] at HM
                rw [List.take_length, ← unhide HYN] at HA
                clear HMN HYN
                go_wp2
                go_roundw
                case rel => exact ⟨k + 1, by omega, by go_num, by rw [unhide HW2], unhide HTH2, ⟨(unhide HM).1, by have := (unhide HM).2; omega⟩, ⟨(unhide HA).1, by have := (unhide HA).2; omega⟩, hts⟩
                case measure => simp [intOf]; omega
      · have hzl : ¬ (k : Int) < (ns.length : Int) := by omega
        obtain rfl : k = ns.length := by omega
        rw [List.take_length] at HTH
        rw [List.take_length, ← musL_eq] at HM
        rw [List.take_length, ← malL_eq] at HA
        simp only [List.take_length]
        cases hwh : whoC cs ns
        · have HE := hide (ned_no (unhide H0) (ns := ns) (by rw [hwh, Bool.and_false]))
          clear hwh HM HA HTH
          go_wp2
          refine bodyPost_ret (results_tmp3 rfl _ _ _) rfl ?_
          obtain ⟨e1, e2, e3⟩ := unhide HE
          exact ⟨_, _, ret_ned e1.symm, by rw [e2]; exact nil_ts _, by rw [e3]; exact nil_ts _, hbw⟩
        · have HE := hide (ned_yes (unhide H0) (ns := ns) (by rw [hwh, unhide HTH]; rfl))
          have HMA := hide (mayTo_all cs ns)
          clear hwh HTH
          have hmlen := (unhide HM).2
          have halen := (unhide HA).2
          have HMT := hide ((unhide HM).1.ts (by omega))
          obtain ⟨aA, cA, rfl, hA9, hcA⟩ := (unhide HA).1.ts (by omega)
          have HCA := hide hcA
          have HM1 := hide (unhide HM).1
          clear hcA HM HA
          generalize musL cs ns = M at *
          generalize malL cs ns = A at *
          generalize mayL cs ns = Y at *
          obtain ⟨wL, rfl⟩ : ∃ wL, wL = wr := ⟨_, rfl⟩
          go_wp2
          go_loopw [11, 19] (fun vy vi wt => ∃ i : Nat, i ≤ A.length ∧ vi = .int .i64 (i : Int) ∧ Hid (Tx wL.heap.size vy (mayTo A M i) wt) ∧ Below wL.heap.size wL wt) (fun _ i _ => A.length - (intOf i).toNat)
          case atStart => exact ⟨0, Nat.zero_le _, rfl, Tx.nil _ _, Below.refl _ _⟩
          case round =>
            obtain ⟨i, hil, rfl, HY, hd⟩ := hrel
            have hds := hd.size
            by_cases hit : i < A.length
            · have iz1' : (i : Int) < (A.length : Int) := by omega
              have iz0' : (0 : Int) ≤ (i : Int) := by omega
              obtain ⟨bA, oA, rfl, hcc⟩ := unhide HCA (by omega)
              have qa := (hd.cell (cell_lt (hcc i hit))).trans (hcc i hit)
              have CH := hide (rhas_any u9 M (A.getD i te) wr ((unhide HMT).below hd))
              have HNX := hide (mayTo_next (M := M) hit)
              have hyl := mayTo_len A M i
              clear hcc
              generalize hX : mayTo A M i = X at *
              clear hX
              generalize A.getD i te = x at *
              obtain ⟨N, hN⟩ : ∃ N, N = X.length := ⟨_, rfl⟩
              have HNN := hide hN
              rw [← hN] at hyl
              have hm1 : N + 1 ≤ maxLen := by unfold maxLen; omega
              have hm2 : (N + 1) * 16 ≤ 140737488355328 := by omega
              have hsw : w0.heap.size ≤ wr.heap.size := by omega
              clear hN
              cases hq : hasL M x
              · rw [hq] at CH
                rw [hq, if_neg (by decide)] at HNX
                clear hq
                go_wp2_with (first
                  | (at_builtin; refine wpList_append_lies _ rfl _ _ 32 rfl wL.heap.size 9 i0 _ 1 16 Try.underlying32 hi iz0 iz1 iz2 rfl (by omega) _ N _ rfl (World.ownsRow.alloc (Tx.own (unhide HNN) (unhide HY)) _) ⟨wr.heap.size, 0, none⟩ 1 1 [.string _] rfl rfl (World.news_of_block (cs := #[.string _]) (t := 9) (fr := (0, 0)) (heap_new wr _)) (by simp [Value.oneCell']) (by omega) hm1 hm2 (by simp; omega) (wr.heap.size + 1) (by simp) ?_; intro g9 cap9 w9 hown9 hgrow9 hat9 hlt9; have hb9 := hd.trans (below_own (grown_one hgrow9) hds (own_block (Tx.own (unhide HNN) (unhide HY)))); have HT9 := hide (Tx.push (unhide HNN) hown9); clear hown9 hgrow9 hat9 hlt9)
                  | (go_at_call 21; refine (unhide CH).mono ?_; rintro e w3 ⟨rfl, rfl⟩))
                go_roundw
                case rel => exact ⟨i + 1, by omega, by go_num, by rw [unhide HNX]; exact unhide HT9, hb9⟩
                case measure => simp [intOf]; omega
              · rw [hq] at CH
                rw [hq, if_pos rfl] at HNX
                clear hq
                go_wp2_with (go_at_call 21; refine (unhide CH).mono ?_; rintro e w3 ⟨rfl, rfl⟩)
                go_roundw
                case rel => exact ⟨i + 1, by omega, by go_num, by rw [unhide HNX]; exact unhide HY, hd⟩
                case measure => simp [intOf]; omega
            · have iz1' : ¬ (i : Int) < (A.length : Int) := by omega
              obtain rfl : i = A.length := by omega
              rw [unhide HMA] at HY
              have hyl : Y.length ≤ A.length := by rw [← unhide HMA]; exact mayTo_len _ _ _
              have HYS := hide ((unhide HY).ts (by omega))
              have HMS := hide ((unhide HMT).below hd)
              clear HY HMA
              go_wp2
              refine bodyPost_ret (results_tmp3 rfl _ _ _) rfl ?_
              obtain ⟨e1, e2, e3⟩ := unhide HE
              exact ⟨_, _, ret_ned e1.symm, by rw [e2]; exact unhide HMS, by rw [e3]; exact unhide HYS, hbw.trans (hd.mono hbw.size)⟩
  · obtain ⟨e1, e2, e3⟩ := ned_bad h0 ns
    have hne : (chkC l cs != 0) = true := by simpa using h0
    rw [e1, e2, e3]
    clear h0 CA CL e1 e2 e3
    generalize chkC l cs = R at *
    go_enter Try.func16, Try.ntmps16
    go_wp2_with (go_at_call 11; refine (unhide CK _ b0).mono ?_; rintro e w1 ⟨rfl, k1⟩; have t1 := b0.trans (k1.mono b0.size))
    refine bodyPost_ret (results_tmp3 rfl _ _ _) rfl ?_
    exact ⟨_, _, rfl, nil_ts _, nil_ts _, t1⟩
end Go.Proofs.Ytjjildpdelkejaa
