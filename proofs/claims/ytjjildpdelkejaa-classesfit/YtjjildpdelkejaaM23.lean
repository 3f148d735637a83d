/- The landed Needs of layer 21. -/
import Derived.Test.YtjjildpdelkejaaM16
import Derived.Test.YtjjildpdelkejaaM22
namespace Go.Proofs.Ytjjildpdelkejaa
open Go.RowKit Go.Sort Go.Lib

/-- A class of a row, with its slices long ago. -/
theorem Cx.one {B : Nat} {w0 w : World} {v : Value} {A : List Cl} (h : Cx B w0 v A w) {j : Nat} (hj : j < A.length) : ∃ b cap a1 c1 a2 c2, v = .slice (some ⟨b, 0, none⟩) A.length cap ∧ w.cell? ⟨b, j * 5, none⟩ = some (.string (A.getD j cl0).nam) ∧ w.cell? ⟨b, j * 5 + 1, none⟩ = some (.string (A.getD j cl0).abv) ∧ w.cell? ⟨b, j * 5 + 2, none⟩ = some (.bool (A.getD j cl0).bar) ∧ w.cell? ⟨b, j * 5 + 3, none⟩ = some (.slice a1 (A.getD j cl0).mus.length c1) ∧ w.cell? ⟨b, j * 5 + 4, none⟩ = some (.slice a2 (A.getD j cl0).may.length c2) ∧ TsV w0 (.slice a1 (A.getD j cl0).mus.length c1) (A.getD j cl0).mus ∧ TsV w0 (.slice a2 (A.getD j cl0).may.length c2) (A.getD j cl0).may := by
  obtain ⟨ks, h1, h2, h3⟩ := h
  have hlen : ks.length = A.length := by rw [← h1, List.length_map]
  obtain ⟨g, cap, hv, _, _⟩ := h2.form (by omega)
  have hjk : j < ks.length := by omega
  have e : A.getD j cl0 = ks[j].c := by simp [← h1, List.getD, hjk]
  obtain ⟨c0, c1, c2, c3, c4⟩ := cellsK_at ks j hjk
  have k0 := World.ownsRow.cells h2 (g := g) (by rw [hv]; rfl) _ _ c0
  have k1 := World.ownsRow.cells h2 (g := g) (by rw [hv]; rfl) _ _ c1
  have k2 := World.ownsRow.cells h2 (g := g) (by rw [hv]; rfl) _ _ c2
  have k3 := World.ownsRow.cells h2 (g := g) (by rw [hv]; rfl) _ _ c3
  have k4 := World.ownsRow.cells h2 (g := g) (by rw [hv]; rfl) _ _ c4
  rw [add_zero3] at k0 k1 k2 k3 k4
  obtain ⟨t1, t2⟩ := h3 ks[j] (List.getElem_mem _)
  rw [e]
  exact ⟨g, cap, _, _, _, _, hv, k0, k1, k2, k3, k4, t1, t2⟩
theorem Cx.shape {B : Nat} {w0 w : World} {v : Value} {A : List Cl} (h : Cx B w0 v A w) : ∃ a c, v = .slice a A.length c := by
  obtain ⟨ks, _, h2, _⟩ := h
  rcases h2.2 with ⟨hv, h0⟩ | ⟨g, cap, cur, hv, _⟩
  · exact ⟨none, 0, by rw [hv, h0]⟩
  · exact ⟨_, _, hv⟩
theorem Cx.far {B : Nat} {w0 w : World} {v : Value} {A : List Cl} (h : Cx B w0 v A w) {g : Nat} (hg : g < B) : v.ownBlock ≠ some g := fun e => by
  obtain ⟨ks, _, h2, _⟩ := h
  have := (h2.lt g e).1
  omega
theorem Tx.shape {B : Nat} {v : Value} {L : List ByteArray} {w : World} (h : Tx B v L w) : ∃ a c, v = .slice a L.length c := by
  rcases h.2 with ⟨hv, h0⟩ | ⟨g, cap, cur, hv, _⟩
  · exact ⟨none, 0, by rw [hv, h0]⟩
  · exact ⟨_, _, hv⟩
theorem Tx.app {B N : Nat} {v : Value} {M L : List ByteArray} {w : World} (hN : N = M.length) (h : w.ownsRow B 9 1 v (N + L.length) (M.map Value.string ++ L.map Value.string)) : Tx B v (M ++ L) w := by
  subst hN
  unfold Tx
  rw [List.length_append, List.map_append]
  exact h
theorem app_shape {B : Nat} {v : Value} {M L : List ByteArray} {w : World} (h : Tx B v (M ++ L) w) : ∃ a c, v = .slice a (M.length + L.length) c := by
  obtain ⟨a, c, e⟩ := h.shape
  exact ⟨a, c, by rw [e, List.length_append]⟩
theorem Hd.kept {w w' : World} {v : Value} {X : List (List UInt8)} {row : Option Nat} (h : Hd w v X) (hg : w.grownBy w' row) (hne : v.ownBlock = none ∨ v.ownBlock ≠ row) : Hd w' v X := by
  obtain ⟨a, cap, rfl, hn, hc⟩ := h
  refine ⟨a, cap, rfl, hn, fun hi => ?_⟩
  obtain ⟨b, off, rfl, hh⟩ := hc hi
  have hr : some b ≠ row := by
    rcases hne with q | q
    · cases q
    · exact q
  refine ⟨b, off, rfl, fun j hj => ?_⟩
  obtain ⟨c1, c2⟩ := hh j hj
  have hlt : (⟨b, off + j, none⟩ : Addr).block < w.heap.size := cell_lt c1
  exact ⟨(hg.cell_far _ hlt hr).trans c1, (hg.frozen_far _ hlt hr).trans c2⟩
theorem Nd.at1 {w2 w w1 : World} {bx : Nat} {um uy : Value} {M Y : List ByteArray} (h : Nd w2 bx um uy M Y w) (hg : w.grownBy w1 um.ownBlock) : w1.cell? ⟨bx, 0, none⟩ = some um ∧ w1.frozen? ⟨bx, 0, none⟩ = false := by
  have hl : bx < w.heap.size := Nat.lt_of_lt_of_le h.lt h.low.size
  have hne : some bx ≠ um.ownBlock := fun e => by have := (tx_far h.m _ e.symm).1; have := h.lt; omega
  exact ⟨(hg.cell_far ⟨bx, 0, none⟩ hl hne).trans h.cell.1, (hg.frozen_far ⟨bx, 0, none⟩ hl hne).trans h.cell.2⟩
theorem set_grown (w : World) (bx : Nat) (u : Value) : w.grownBy (w.setCell ⟨bx, 0, none⟩ u) (some bx) := ⟨rfl, rfl, rfl, by simp, fun k _ hk => heap_setCell_other w ⟨bx, 0, none⟩ k u fun e => hk (by rw [e])⟩
/-- Both tidied; the box set. -/
theorem Nd.tidied {w2 w w4 w5 : World} {bx : Nat} {um uy um2 uy2 : Value} {M Y : List ByteArray} {A C : List (List UInt8)} (h : Nd w2 bx um uy M Y w) (h1 : Hd w4 um2 A) (g1 : w.grownBy w4 um.ownBlock) (o1 : um2.ownBlock = um.ownBlock) (h2 : Hd w5 uy2 C) (g2 : w4.grownBy w5 uy.ownBlock) (o2 : uy2.ownBlock = uy.ownBlock) :
    (w5.cell? ⟨bx, 0, none⟩ = some um ∧ w5.frozen? ⟨bx, 0, none⟩ = false) ∧ Hd (w5.setCell ⟨bx, 0, none⟩ um2) um2 A ∧ Hd (w5.setCell ⟨bx, 0, none⟩ um2) uy2 C ∧ (w5.setCell ⟨bx, 0, none⟩ um2).cell? ⟨bx, 0, none⟩ = some um2 ∧ ∀ W, (w5.setCell ⟨bx, 0, none⟩ um2).grownBy W uy2.ownBlock → Hd W um2 A ∧ W.cell? ⟨bx, 0, none⟩ = some um2 ∧ w2.grownBy W (some bx) := by
  have hl : bx < w.heap.size := Nat.lt_of_lt_of_le h.lt h.low.size
  have hl4 : bx < w4.heap.size := Nat.lt_of_lt_of_le hl g1.size
  have nm : um.ownBlock ≠ some bx := fun e => by have := (tx_far h.m _ e).1; have := h.lt; omega
  have ny : uy.ownBlock ≠ some bx := fun e => by have := (tx_far h.y _ e).1; have := h.lt; omega
  have ky : um2.ownBlock = none ∨ um2.ownBlock ≠ uy.ownBlock := by
    rw [o1]
    cases hq : um.ownBlock with
    | none => exact .inl rfl
    | some g => exact .inr fun e => h.ap g hq e.symm
  obtain ⟨q1, q2⟩ := h.at1 g1
  have q3 := (g2.cell_far ⟨bx, 0, none⟩ hl4 (Ne.symm ny)).trans q1
  have q4 := (g2.frozen_far ⟨bx, 0, none⟩ hl4 (Ne.symm ny)).trans q2
  have hs := set_grown w5 bx um2
  have hA := (h1.kept g2 ky).kept hs (.inr (by rw [o1]; exact nm))
  have hc : (w5.setCell ⟨bx, 0, none⟩ um2).cell? ⟨bx, 0, none⟩ = some um2 := World.cell?_setCell_same' w5 _ um2 (by rw [q3]; rfl)
  have low : w2.grownBy (w5.setCell ⟨bx, 0, none⟩ um2) (some bx) := ((h.low.andThen g1 fun j e => .inl (tx_far h.m j e).1).andThen g2 fun j e => .inl (tx_far h.y j e).1).trans hs
  have hl6 : bx < (w5.setCell ⟨bx, 0, none⟩ um2).heap.size := Nat.lt_of_lt_of_le h.lt low.size
  refine ⟨⟨q3, q4⟩, hA, h2.kept hs (.inr (by rw [o2]; exact ny)), hc, fun W hW => ⟨hA.kept hW (by rw [o2]; exact ky), ?_, ?_⟩⟩
  · exact (hW.cell_far ⟨bx, 0, none⟩ hl6 (by rw [o2]; exact Ne.symm ny)).trans hc
  · exact low.andThen hW fun j e => .inl (by rw [o2] at e; exact (tx_far h.y j e).1)
theorem may_tdy (cs : List Cl) (ns : List ByteArray) (Y : List ByteArray) (h : srt Y = malL cs ns) : ((tdy (Y.map bts)).filter fun x => !hasT (musL cs ns) (unb x)).map unb = mayL cs ns := by
  unfold mayL
  rw [← h, ← tdy_srt Y, List.filter_map]
  congr 1
  apply List.filter_congr
  intro x _
  unfold hasT
  simp only [Function.comp]
  congr 1
  congr 1
  funext y
  exact decide_eq_decide.2 ⟨Eq.symm, Eq.symm⟩
theorem flat_next (f : Cl → List ByteArray) {X : List Cl} {j : Nat} (h : j < X.length) : (X.take (j + 1)).flatMap f = (X.take j).flatMap f ++ f (X.getD j cl0) := by
  rw [List.take_succ_eq_append_getElem h, List.flatMap_append]
  simp [List.getD, h]
theorem flat_len (f : Cl → List ByteArray) : ∀ (X : List Cl), (∀ c ∈ X, (f c).length ≤ 8) → (X.flatMap f).length ≤ 8 * X.length
  | [], _ => by simp
  | c :: t, h => by
    have h1 := flat_len f t fun d hd => h d (List.mem_cons_of_mem _ hd)
    have h2 := h c (by simp)
    rw [List.flatMap_cons, List.length_append, List.length_cons]
    omega
set_option maxHeartbeats 25600000 in
set_option maxRecDepth 100000 in
theorem cneed_any (va vc vn : Value) (l : List Ty) (cs : List Cl) (ns : List ByteArray) (w : World) (hL : Ly w) (hF : fewC l cs = true) (hT : TysV w va l) (hC : ClsV w vc cs) (hN : TsV w vn ns) (hl : ns.length ≤ 100) : Calls Try.prog 15 #[.agg #[va, vc], vn] w fun e w' => ∃ u1 u2, e = .returned (.tuple #[u1, u2, .int .i64 (nedE l cs ns)]) ∧ TsV w' u1 (nedM l cs ns) ∧ TsV w' u2 (nedY l cs ns) ∧ Below w.heap.size w w' := by
  have hmf : ∀ (fn : Fn) (first cap : Array Value) (w : World), (Instr.makeFunc fn first cap).run Try.prog w = .ok (.func fn first cap) w := fun _ _ _ _ => rfl
  have b0 := Below.one w (.cells #[va, vc] 25)
  have CK := hide (fun W (h : Below w.heap.size w W) => ccheck_any va vc l cs W (hL.keep h) hF (hT.below h) (hC.below h))
  have CE := hide (fun W (h : Below w.heap.size w W) => enough_any vc vn cs ns W (hC.below h) (hN.below h))
  have CL := hide (fun (h : okC l cs = true) W (k : Below w.heap.size w W) => lines_at vc vn l cs ns w W h hC k (hN.below k) hl)
  obtain ⟨i0, hi, iz0, iz1, iz2⟩ := info_parts str_info
  obtain ⟨aa, ca, rfl⟩ := hT.shape
  obtain ⟨ac, cc, rfl⟩ := hC.shape
  obtain ⟨an, cn, rfl, _⟩ := hN
  have S0 : Hid (Bs w.heap.size (.slice aa l.length ca) (.slice ac cs.length cc) (w.alloc (.cells #[.slice aa l.length ca, .slice ac cs.length cc] 25))) := heap_new w _
  obtain ⟨s0, s1⟩ := (unhide S0).cells
  clear hT hC
  by_cases h0 : chkC l cs = 0
  · have hok := (chkC_ok h0).2
    have CL2 := hide (unhide CL hok)
    have H0 := hide h0
    rw [h0] at CK
    clear CL h0
    cases hz : (thrC cs ns && whoC cs ns)
    · have HE := hide (ned_no (unhide H0) hz)
      rw [hz] at CE
      clear hz H0 CL2 hok
      generalize nedE l cs ns = E at *
      generalize nedM l cs ns = M at *
      generalize nedY l cs ns = Y at *
      go_enter Try.func15, Try.ntmps15
      go_wp2_with (first
        | (go_at_call 31; refine (unhide CE _ t1).mono ?_; rintro e w2 ⟨rfl, b2⟩; have t2 := t1.trans (b2.mono t1.size))
        | (go_at_call 10; refine (unhide CK _ b0).mono ?_; rintro e w1 ⟨rfl, b1⟩; have t1 := b0.trans (b1.mono b0.size); obtain ⟨u0, u1⟩ := ((unhide S0).keep b1).cells))
      refine bodyPost_ret (results_tmp3 rfl _ _ _) rfl ?_
      obtain ⟨e1, e2, e3⟩ := unhide HE
      exact ⟨_, _, ret_ned e1.symm, by rw [e2]; exact nil_ts _, by rw [e3]; exact nil_ts _, t2⟩
    · have HE := hide (ned_yes (unhide H0) hz)
      rw [hz] at CE
      have HMS := hide (lns_mus hok ns)
      have H8 : Hid (∀ c ∈ lnsC cs ns, c.mus.length ≤ 8 ∧ c.may.length ≤ 8) := fun c hc => okC_mus hok (lns_in hok ns c hc)
      have hXl : (lnsC cs ns).length ≤ 1400 := by
        have h12 := okC_12 hok
        have := lns_len cs ns ns.length (Nat.le_refl _)
        rw [List.take_length] at this
        have h4 : ns.length * (cs.length + 2) ≤ 100 * 14 := Nat.mul_le_mul hl (by omega)
        omega
      have HMY : Hid (∀ Y, srt Y = malL cs ns → ((tdy (Y.map bts)).filter fun x => !hasT (musL cs ns) (unb x)).map unb = mayL cs ns) := fun Y h => may_tdy cs ns Y h
      clear hz H0 hok
      generalize lnsC cs ns = X at *
      generalize nedE l cs ns = E at *
      generalize nedM l cs ns = RM at *
      generalize nedY l cs ns = RY at *
      generalize musL cs ns = ML at *
      generalize malL cs ns = AL at *
      generalize mayL cs ns = YL at *
      go_enter Try.func15, Try.ntmps15
      go_wp2_with (first
        | (go_at_call 29; refine (unhide CL2 _ t3).mono ?_; rintro e w4 ⟨u, rfl, hu, b4⟩; have HU := hide hu; obtain ⟨ua, uc, rfl⟩ := hu.shape; clear hu; have t4 := t3.trans (b4.mono t3.size))
        | (go_at_call 31; refine (unhide CE _ t1).mono ?_; rintro e w2 ⟨rfl, b2⟩; have t2 := t1.trans (b2.mono t1.size); have hs2 := t2.size; have o3 := Below.one w2 (.cells #[.slice none 0 0] 32); have t3 := t2.trans (o3.mono t2.size); obtain ⟨v0, v1⟩ := ((((unhide S0).keep b1).keep b2).keep o3).cells)
        | (go_at_call 10; refine (unhide CK _ b0).mono ?_; rintro e w1 ⟨rfl, b1⟩; have t1 := b0.trans (b1.mono b0.size); obtain ⟨u0, u1⟩ := ((unhide S0).keep b1).cells))
      have hlt4 : w2.heap.size < w4.heap.size := by have := b4.size; simp at this; omega
      have ND0 : Hid (Nd w4 w2.heap.size (.slice none 0 0) (.slice none 0 0) [] [] w4) := ⟨World.grownBy.refl _ _, (b4.block _ (by simp)).trans (heap_new w2 _), Tx.nil _ _, Tx.nil _ _, (fun g e => by cases e), hlt4⟩
      have HFR : Hid ((Value.slice ua X.length uc).ownBlock ≠ some w2.heap.size) := (unhide HU).far (by simp)
      have HBW : Hid (∀ W, w4.grownBy W (some w2.heap.size) → Below w.heap.size w W) := fun W h => t4.grown h t4.size (fun k e => by cases e; exact hs2)
      clear CK CE CL2 S0 b0 b1 b2 o3 t1 t2 t3 b4 s0 s1 u0 u1 v0 v1
      go_loopw [9, 27] (fun vy vi wr => ∃ (k : Nat) (um : Value), k ≤ X.length ∧ vi = .int .i64 (k : Int) ∧ Hid (Nd w4 w2.heap.size um vy ((X.take k).flatMap (·.mus)) ((X.take k).flatMap (·.may)) wr)) (fun _ i _ => X.length - (intOf i).toNat)
      case atStart => exact ⟨0, _, Nat.zero_le _, rfl, unhide ND0⟩
      case round =>
        clear ND0
        obtain ⟨k, um, hkl, rfl, HND⟩ := hrel
        have hb := unhide HBW wr (unhide HND).low
        have hsz := hb.size
        by_cases hlt : k < X.length
        · have hzl : (k : Int) < (X.length : Int) := by omega
          have hz0 : (0 : Int) ≤ (k : Int) := by omega
          obtain ⟨b, cap, a1, c1, a2, c2, hvv, d0, d1, d2, d3, d4, hM, hY⟩ := ((unhide HU).kept (unhide HND).low (unhide HFR)).one hlt
          cases hvv
          have H8k := hide (unhide H8 (X.getD k cl0) (by simp [List.getD, hlt]))
          have HNM := hide (flat_next (·.mus) hlt)
          have HNY := hide (flat_next (·.may) hlt)
          have hlM : ((X.take k).flatMap (·.mus)).length ≤ 8 * k := Nat.le_trans (flat_len _ _ fun c hc => (unhide H8 c (List.mem_of_mem_take hc)).1) (by rw [List.length_take]; omega)
          have hlY : ((X.take k).flatMap (·.may)).length ≤ 8 * k := Nat.le_trans (flat_len _ _ fun c hc => (unhide H8 c (List.mem_of_mem_take hc)).2) (by rw [List.length_take]; omega)
          have HTM := hide (fun W (h : Below w.heap.size w W) => hM.below h)
          have HTY := hide (fun W (h : Below w.heap.size w W) => hY.below h)
          clear hM hY H8
          generalize (X.take k).flatMap (·.mus) = M at *
          generalize (X.take k).flatMap (·.may) = Y at *
          generalize X.getD k cl0 = y at *
          obtain ⟨N1, hN1⟩ : ∃ N, N = M.length := ⟨_, rfl⟩
          obtain ⟨N2, hN2⟩ : ∃ N, N = Y.length := ⟨_, rfl⟩
          have HN1 := hide hN1
          have HN2 := hide hN2
          rw [← hN1] at hlM
          rw [← hN2] at hlY
          have h8a := (unhide H8k).1
          have h8b := (unhide H8k).2
          have hm1 : N1 + y.mus.length ≤ maxLen := by unfold maxLen; omega
          have hm2 : (N1 + y.mus.length) * 16 ≤ 140737488355328 := by omega
          have hm3 : N2 + y.may.length ≤ maxLen := by unfold maxLen; omega
          have hm4 : (N2 + y.may.length) * 16 ≤ 140737488355328 := by omega
          have o5 := Below.one wr (.cells #[.string y.nam, .string y.abv, .bool y.bar, .slice a1 y.mus.length c1, .slice a2 y.may.length c2] 49)
          have ND5 := hide ((unhide HND).below o5)
          have t5 := hb.trans (o5.mono hsz)
          have B5 : Hid (Bc wr.heap.size y (.slice a1 y.mus.length c1) (.slice a2 y.may.length c2) (wr.alloc (.cells #[.string y.nam, .string y.abv, .bool y.bar, .slice a1 y.mus.length c1, .slice a2 y.may.length c2] 49))) := heap_new wr _
          obtain ⟨z0, z1, z2, z3, z4⟩ := (unhide B5).cells
          have k0 := (unhide ND5).cell.1
          have hs5 := (unhide ND5).low.size
          have HMF : Hid (∀ g, um.ownBlock = some g → g < wr.heap.size) := fun g e => (tx_far (unhide HND).m g e).2
          have hbx : wr.heap.size ≠ w2.heap.size := by have := (unhide HND).low.size; omega
          clear hN1 hN2 H8k HND h8a h8b
          go_wp2_with (first
            | (at_builtin; refine wpList_append_tx _ rfl _ _ 32 rfl w4.heap.size 9 i0 _ 16 Try.underlying32 hi iz0 iz1 iz2 rfl _ N2 _ rfl (Tx.own (unhide HN2) (unhide ND7).y) _ y.may rfl (unhide HTY _ t7) hm3 hm4 (by with_reducible exact hs7) ?_; intro uy8 w8 ho8 hg8 hat8; have ND8 := hide ((unhide ND7).may (Tx.app (unhide HN2) ho8) hg8 hat8); clear ho8 hg8 hat8)
            | (at_builtin; refine wpList_append_tx _ rfl _ _ 32 rfl w4.heap.size 9 i0 _ 16 Try.underlying32 hi iz0 iz1 iz2 rfl _ N1 _ rfl (Tx.own (unhide HN1) (unhide ND5).m) _ y.mus rfl (unhide HTM _ t5) hm1 hm2 hs5 ?_; intro um6 w6 ho6 hg6 hat6; have T6 := Tx.app (unhide HN1) ho6; obtain ⟨ga, gc, rfl⟩ := app_shape T6; have ND7 := hide ((unhide ND5).must T6 hg6 hat6); have t7 := unhide HBW _ (unhide ND7).low; have hs7 := (unhide ND7).low.size; obtain ⟨k6, f6⟩ := (unhide ND5).at1 hg6; have B6 : Hid (Bc wr.heap.size y (.slice a1 y.mus.length c1) (.slice a2 y.may.length c2) w6) := (hg6.block _ (by simp) (fun e => by have := unhide HMF _ e.symm; omega)).trans (unhide B5); have B7 : Hid (Bc wr.heap.size y (.slice a1 y.mus.length c1) (.slice a2 y.may.length c2) (w6.setCell ⟨w2.heap.size, 0, none⟩ (.slice ga (M.length + y.mus.length) gc))) := (heap_setCell_other w6 ⟨w2.heap.size, 0, none⟩ wr.heap.size _ hbx).trans (unhide B6); have x4 := (unhide B7).cells.2.2.2.2; clear ho6 hg6 hat6 T6))
          go_roundw
          case rel => exact ⟨k + 1, _, by omega, by go_num, by rw [unhide HNM, unhide HNY]; exact unhide ND8⟩
          case measure => simp [intOf]; omega
        · have hzl : ¬ (k : Int) < (X.length : Int) := by omega
          obtain rfl : k = X.length := by omega
          rw [List.take_length] at HND
          have hlM : (X.flatMap (·.mus)).length ≤ 8 * X.length := flat_len _ _ fun c hc => (unhide H8 c hc).1
          have hlY : (X.flatMap (·.may)).length ≤ 8 * X.length := flat_len _ _ fun c hc => (unhide H8 c hc).2
          obtain ⟨e1, e2⟩ := unhide HMS
          have HM1 : Hid ((tdy ((X.flatMap (·.mus)).map bts)).map unb = ML) := by show _ = _; rw [tdy_srt, e1]
          have HY1 := hide (unhide HMY _ e2)
          clear e1 e2 HMS HMY H8 HU HFR
          generalize X.flatMap (·.mus) = M at *
          generalize X.flatMap (·.may) = Y at *
          have C1 := hide (tidy_any um (M.map bts) wr ((unhide HND).m.hd (by omega)))
          have HYK : Hid (∀ W, wr.grownBy W um.ownBlock → Hd W u9 (Y.map bts)) := fun W hg => by
            have ky : u9.ownBlock = none ∨ u9.ownBlock ≠ um.ownBlock := by
              cases hq : um.ownBlock with
              | none => cases hr : u9.ownBlock <;> simp
              | some g => exact .inr ((unhide HND).ap g hq)
            exact Tx.hd (B := w4.heap.size) (World.ownsRow.kept (unhide HND).y hg ky) (by omega)
          have C2 := hide (fun W (h : Hd W u9 (Y.map bts)) => tidy_any u9 (Y.map bts) W h)
          have k0 := (unhide HND).cell.1
          generalize tdy (M.map bts) = A at *
          generalize tdy (Y.map bts) = C at *
          have CD := hide (fun vm vy W (h1 : Hd W vy C) (h2 : TsV W vm ML) (h3 : W.cell? ⟨w2.heap.size, 0, none⟩ = some vm) (h4 : ∀ W', W.grownBy W' vy.ownBlock → TsV W' vm ML ∧ W'.cell? ⟨w2.heap.size, 0, none⟩ = some vm) => del_any vy C W w2.heap.size vm ML h1 h2 h3 h4)
          generalize hFC : (C.filter fun x => !hasT ML (unb x)) = FC at *
          clear hFC
          go_wp2_with (first
            | (go_at_call 33; refine (unhide CD _ _ _ (unhide TY) (unhide TM) c7 (unhide TK)).mono ?_; rintro e w8 ⟨uy8, rfl, h8, g8⟩; obtain ⟨f1, f2, f3⟩ := unhide TD _ g8; have RM8 := hide f1.ts; have RY8 := hide h8.ts; have t8 := unhide HBW _ f3; clear f1 f3 h8 g8)
            | (go_at_call 32; refine (unhide C2 _ (unhide HYK _ (unhide G6))).mono ?_; rintro e w7 ⟨uy7, rfl, h7, g7, o7⟩; obtain ⟨⟨c6, f6⟩, p1, p2, c7, p3⟩ := (unhide HND).tidied (unhide H6) (unhide G6) (unhide O6) h7 g7 o7; have TM := hide p1.ts; rw [unhide HM1] at TM; have TY := hide p2; have TD := hide p3; have TK : Hid (∀ W', World.grownBy _ W' uy7.ownBlock → TsV W' _ ML ∧ W'.cell? ⟨w2.heap.size, 0, none⟩ = some _) := (fun W' hg => ⟨by rw [← unhide HM1]; exact (p3 W' hg).1.ts, (p3 W' hg).2.1⟩); clear p1 p2 p3 h7 g7 o7)
            | (go_at_call 32; refine (unhide C1).mono ?_; rintro e w6 ⟨um6, rfl, h6, g6, o6⟩; have H6 := hide h6; have G6 := hide g6; have O6 := hide o6; obtain ⟨ga, gc, rfl, _⟩ := h6; clear g6 o6))
          refine bodyPost_ret (results_tmp3 rfl _ _ _) rfl ?_
          obtain ⟨e1, e2, e3⟩ := unhide HE
          exact ⟨_, _, ret_ned e1.symm, by rw [e2, ← unhide HM1]; exact unhide RM8, by rw [e3, ← unhide HY1]; exact unhide RY8, t8⟩
  · obtain ⟨e1, e2, e3⟩ := ned_bad h0 ns
    have hne : (chkC l cs != 0) = true := by simpa using h0
    rw [e1, e2, e3]
    clear h0 CE CL e1 e2 e3
    generalize chkC l cs = R at *
    go_enter Try.func15, Try.ntmps15
    go_wp2_with (go_at_call 10; refine (unhide CK _ b0).mono ?_; rintro e w1 ⟨rfl, k1⟩; have t1 := b0.trans (k1.mono b0.size))
    refine bodyPost_ret (results_tmp3 rfl _ _ _) rfl ?_
    exact ⟨_, _, rfl, nil_ts _, nil_ts _, t1⟩
end Go.Proofs.Ytjjildpdelkejaa
