/- FilterBack, FilterForms, out of the landed contracts. (By gen_lb.py.) -/
import Derived.Test.YthbldkkjjjmegaaDoorM09
import Derived.Test.YthbldkkjjjmegaaDoorM12
namespace Go.Proofs.YthbldkkjjjmegaaDoor
set_option maxRecDepth 100000
open Go.RowKit

set_option maxHeartbeats 6400000 in
theorem back24_law (w : World) (C : K24 w) (e : Fl) (x : Value) (V : FlV w e x) : Calls Tryd.prog 4 #[x] w fun y w' => y = .returned (.bool true) ∧ Below w.heap.size w w' := by
  obtain ⟨a1, c1, a2, c2, rfl, -, -, -⟩ := V.open
  have bA := Below.one w (.cells (cFl e.kin e.nam e.val e.ini a1 e.any.length c1 e.fin e.hi e.hf e.rul e.dn a2 e.kids.length c2) 27)
  have HA := heap_new w (.cells (cFl e.kin e.nam e.val e.ini a1 e.any.length c1 e.fin e.hi e.hf e.rul e.dn a2 e.kids.length c2) 27)
  have VA := V.grow bA
  have AW := hide (fun W (b : Below w.heap.size w W) => awake24 C W b)
  have F1 := hide ((few24_any e 150 _ _ VA (by decide) (by decide)).mono fun _ _ ⟨h1, h2⟩ => (⟨h1, h2.below⟩ : _ ∧ Below (w.alloc (.cells (cFl e.kin e.nam e.val e.ini a1 e.any.length c1 e.fin e.hi e.hf e.rul e.dn a2 e.kids.length c2) 27)).heap.size (w.alloc (.cells (cFl e.kin e.nam e.val e.ini a1 e.any.length c1 e.fin e.hi e.hf e.rul e.dn a2 e.kids.length c2) 27)) _))
  obtain ⟨f1, hf1⟩ : ∃ f1, f1 = fewW e 150 := ⟨_, rfl⟩
  rw [← hf1] at F1
  by_cases h1 : f1 < 0
  · clear C V VA hf1 HA
    go_enter Tryd.func4, Tryd.ntmps4
    go_wp2_with (first
      | (go_at_call 8; refine (unhide AW _ t1).mono ?_; rintro e w2 ⟨rfl, b2⟩; have t2 := t1.trans (b2.mono t1.size))
      | (go_at_call 7; refine (unhide F1).mono ?_; rintro e w1 ⟨rfl, b1⟩; have t1 := bA.trans (b1.mono bA.size)))
    go_ret
    exact ⟨rfl, t2⟩
  · have s1 := few_small e 150 (by rw [← hf1]; omega)
    have S1 := hide (fun W (b : Below w.heap.size w W) (v : FlV W e _) => C.sho e (vFl e.kin e.nam e.val e.ini a1 e.any.length c1 e.fin e.hi e.hf e.rul e.dn a2 e.kids.length c2) W b v s1)
    rcases chk_or e with hk | hk
    · rw [hk] at S1
      have P1 := hide (fun W (b : Below w.heap.size w W) => C.par (shoF e) W b)
      by_cases hs : (shoF e).size ≤ 4000
      · obtain ⟨p1, p2⟩ := sho_back hk hs
        rw [p1, p2] at P1
        have M1 := hide (fun W x (v : FlV W e x) (v' : FlV W e _) => (rsame24_any e e x (vFl e.kin e.nam e.val e.ini a1 e.any.length c1 e.fin e.hi e.hf e.rul e.dn a2 e.kids.length c2) W v v').mono fun _ _ ⟨h1, h2⟩ => (⟨h1, h2.below⟩ : _ ∧ Below W.heap.size W _))
        rw [(sameF_iff e e).2 rfl] at M1
        have zs : ¬ (4000 : Int) < ((shoF e).size : Int) := by omega
        generalize shoF e = s at *
        clear C V hf1 hk hs p1 p2 s1
        go_enter Tryd.func4, Tryd.ntmps4
        go_wp2_with (first
          | (go_at_call 8; refine (unhide AW _ t4).mono ?_; rintro e w5 ⟨rfl, b5⟩; have t5 := t4.trans (b5.mono t4.size))
          | (go_at_call 10; refine (unhide M1 _ _ (v3.grow bo) ((V2.grow b3).grow bo)).mono ?_; rintro e w4 ⟨rfl, b4⟩; have t4 := t3.trans (b4.mono t3.size))
          | (go_at_call 13; refine (unhide P1 _ t2).mono ?_; rintro e w3 ⟨y, rfl, v3, b3⟩; obtain ⟨y1, z1, y2, z2, rfl, -, -, -⟩ := v3.open;
              have bo := Below.one w3 (.cells (cFl e.kin e.nam e.val e.ini y1 e.any.length z1 e.fin e.hi e.hf e.rul e.dn y2 e.kids.length z2) 27); have t3a := t2.trans (b3.mono t2.size); have t3 := t3a.trans (bo.mono t3a.size);
              obtain ⟨k0, k1, k2, k3, k4, k5, k6, k7, k8, k9, k10⟩ := cells11 (keep_blk (keep_blk H2 b3) bo); obtain ⟨m0, m1, m2, m3, m4, m5, m6, m7, m8, m9, m10⟩ := cells11 (heap_new w3 (.cells (cFl e.kin e.nam e.val e.ini y1 e.any.length z1 e.fin e.hi e.hf e.rul e.dn y2 e.kids.length z2) 27)))
          | (go_at_call 11; refine (unhide S1 _ t1 V1).mono ?_; rintro e w2 ⟨rfl, b2⟩; have t2 := t1.trans (b2.mono t1.size); have V2 := V1.grow b2; have H2 := keep_blk H1 b2)
          | (go_at_call 7; refine (unhide F1).mono ?_; rintro e w1 ⟨rfl, b1⟩; have t1 := bA.trans (b1.mono bA.size); have V1 := VA.grow b1; have H1 := keep_blk HA b1; obtain ⟨k0, k1, k2, k3, k4, k5, k6, k7, k8, k9, k10⟩ := cells11 H1))
        go_ret
        exact ⟨rfl, t5⟩
      · rw [sho_big hs] at P1
        have zs : (4000 : Int) < ((shoF e).size : Int) := by omega
        generalize parF (shoF e) = g at *
        generalize shoF e = s at *
        clear C V hf1 hk hs s1
        go_enter Tryd.func4, Tryd.ntmps4
        go_wp2_with (first
          | (go_at_call 8; refine (unhide AW _ t3).mono ?_; rintro e w5 ⟨rfl, b5⟩; have t5 := t3.trans (b5.mono t3.size))
          | (go_at_call 13; refine (unhide P1 _ t2).mono ?_; rintro e w3 ⟨y, rfl, v3, b3⟩; obtain ⟨y1, z1, y2, z2, rfl, -, -, -⟩ := v3.open;
              have bo := Below.one w3 (.cells (cFl g.kin g.nam g.val g.ini y1 g.any.length z1 g.fin g.hi g.hf g.rul g.dn y2 g.kids.length z2) 27); have t3a := t2.trans (b3.mono t2.size); have t3 := t3a.trans (bo.mono t3a.size))
          | (go_at_call 11; refine (unhide S1 _ t1 V1).mono ?_; rintro e w2 ⟨rfl, b2⟩; have t2 := t1.trans (b2.mono t1.size))
          | (go_at_call 7; refine (unhide F1).mono ?_; rintro e w1 ⟨rfl, b1⟩; have t1 := bA.trans (b1.mono bA.size); have V1 := VA.grow b1; have H1 := keep_blk HA b1; obtain ⟨k0, k1, k2, k3, k4, k5, k6, k7, k8, k9, k10⟩ := cells11 H1))
        go_ret
        exact ⟨rfl, t5⟩
    · rw [hk, sho_no hk] at S1
      have K1 := hide (fun W (v : FlV W e _) => C.chk e (vFl e.kin e.nam e.val e.ini a1 e.any.length c1 e.fin e.hi e.hf e.rul e.dn a2 e.kids.length c2) W v s1)
      rw [hk] at K1
      clear C V hf1 hk s1
      go_enter Tryd.func4, Tryd.ntmps4
      go_wp2_with (first
        | (go_at_call 8; refine (unhide AW _ t3).mono ?_; rintro e w5 ⟨rfl, b5⟩; have t5 := t3.trans (b5.mono t3.size))
        | (go_at_call 12; refine (unhide K1 _ V2).mono ?_; rintro e w3 ⟨rfl, b3⟩; have t3 := t2.trans (b3.mono t2.size))
        | (go_at_call 11; refine (unhide S1 _ t1 V1).mono ?_; rintro e w2 ⟨rfl, b2⟩; have t2 := t1.trans (b2.mono t1.size); have V2 := V1.grow b2; have H2 := keep_blk H1 b2; obtain ⟨k0, k1, k2, k3, k4, k5, k6, k7, k8, k9, k10⟩ := cells11 H2)
        | (go_at_call 7; refine (unhide F1).mono ?_; rintro e w1 ⟨rfl, b1⟩; have t1 := bA.trans (b1.mono bA.size); have V1 := VA.grow b1; have H1 := keep_blk HA b1; obtain ⟨k0, k1, k2, k3, k4, k5, k6, k7, k8, k9, k10⟩ := cells11 H1))
      go_ret
      exact ⟨rfl, t5⟩
set_option maxHeartbeats 6400000 in
theorem forms24_law (w : World) (C : K24 w) (s : ByteArray) : Calls Tryd.prog 5 #[.string s] w fun y w' => y = .returned (.bool true) ∧ Below w.heap.size w w' := by
  have AW := hide (fun W (b : Below w.heap.size w W) => awake24 C W b)
  have P1 := hide (C.par s w (Below.refl _ _))
  have z := par_small s
  by_cases h0 : parE24 s = 0
  · have hk := par_zero h0
    rw [h0] at P1
    obtain ⟨e, he⟩ : ∃ e, e = parF s := ⟨_, rfl⟩
    rw [← he] at P1 hk z
    have S1 := hide (fun W x (b : Below w.heap.size w W) (v : FlV W e x) => C.sho e x W b v z)
    have K1 := hide (fun W x (v : FlV W e x) => C.chk e x W v z)
    rw [hk] at S1 K1
    have P2 := hide (fun W (b : Below w.heap.size w W) => C.par (shoF e) W b)
    by_cases hs : (shoF e).size ≤ 4000
    · obtain ⟨p1, p2⟩ := sho_back hk hs
      rw [p1, p2] at P2
      have M1 := hide (fun W x x' (v : FlV W e x) (v' : FlV W e x') => (rsame24_any e e x x' W v v').mono fun _ _ ⟨h1, h2⟩ => (⟨h1, h2.below⟩ : _ ∧ Below W.heap.size W _))
      rw [(sameF_iff e e).2 rfl] at M1
      have zs : ¬ (4000 : Int) < ((shoF e).size : Int) := by omega
      clear C h0 he z p1 p2 hs hk
      generalize shoF e = t at *
      go_enter Tryd.func5, Tryd.ntmps5
      go_wp2_with (first
        | (go_at_call 8; refine (unhide AW _ t5).mono ?_; rintro e w6 ⟨rfl, b6⟩; have t6 := t5.trans (b6.mono t5.size))
        | (go_at_call 10; refine (unhide M1 _ _ _ V4h V4).mono ?_; rintro e w5 ⟨rfl, b5⟩; have t5 := t4.trans (b5.mono t4.size))
        | (go_at_call 12; refine (unhide K1 _ _ V3).mono ?_; rintro e w4 ⟨rfl, b4⟩; have t4 := t3.trans (b4.mono t3.size); have V4 := V3.grow b4; have V4h := V3h.grow b4; obtain ⟨k0, k1, k2, k3, k4, k5, k6, k7, k8, k9, k10⟩ := cells11 (keep_blk H3 b4); obtain ⟨m0, m1, m2, m3, m4, m5, m6, m7, m8, m9, m10⟩ := cells11 (keep_blk H3h b4))
        | (go_at_call 13; have M := G1; refine (unhide P2 _ t2).mono ?_; rintro e w3 ⟨y, rfl, v3, b3⟩; obtain ⟨y1, z1, y2, z2, rfl, -, -, -⟩ := v3.open;
            have bo := Below.one w3 (.cells (cFl e.kin e.nam e.val e.ini y1 e.any.length z1 e.fin e.hi e.hf e.rul e.dn y2 e.kids.length z2) 27); have t3a := t2.trans (b3.mono t2.size); have t3 := t3a.trans (bo.mono t3a.size); have V3 := (V2.grow b3).grow bo; have V3h := v3.grow bo;
            have H3 := keep_blk (keep_blk H2 b3) bo; have H3h := heap_new w3 (.cells (cFl e.kin e.nam e.val e.ini y1 e.any.length z1 e.fin e.hi e.hf e.rul e.dn y2 e.kids.length z2) 27); obtain ⟨k0, k1, k2, k3, k4, k5, k6, k7, k8, k9, k10⟩ := cells11 H3; obtain ⟨m0, m1, m2, m3, m4, m5, m6, m7, m8, m9, m10⟩ := cells11 H3h)
        | (go_at_call 11; refine (unhide S1 _ _ t1 V1).mono ?_; rintro e w2 ⟨rfl, b2⟩; have t2 := t1.trans (b2.mono t1.size); have V2 := V1.grow b2; have H2 := keep_blk H1 b2)
        | (go_at_call 13; refine (unhide P1).mono ?_; rintro e w1 ⟨y, rfl, v1, b1⟩; have G1 := trivial; obtain ⟨d1, o1, d2, o2, rfl, -, -, -⟩ := v1.open;
            have bp := Below.one w1 (.cells (cFl e.kin e.nam e.val e.ini d1 e.any.length o1 e.fin e.hi e.hf e.rul e.dn d2 e.kids.length o2) 27); have t1 := b1.trans (bp.mono b1.size); have V1 := v1.grow bp; have H1 := heap_new w1 (.cells (cFl e.kin e.nam e.val e.ini d1 e.any.length o1 e.fin e.hi e.hf e.rul e.dn d2 e.kids.length o2) 27); obtain ⟨k0, k1, k2, k3, k4, k5, k6, k7, k8, k9, k10⟩ := cells11 H1))
      go_ret
      exact ⟨rfl, t6⟩
    · have zs : (4000 : Int) < ((shoF e).size : Int) := by omega
      rw [sho_big hs] at P2
      generalize parF (shoF e) = g at *
      clear C h0 he z hs hk
      generalize shoF e = t at *
      go_enter Tryd.func5, Tryd.ntmps5
      go_wp2_with (first
        | (go_at_call 8; refine (unhide AW _ t4).mono ?_; rintro e w6 ⟨rfl, b6⟩; have t6 := t4.trans (b6.mono t4.size))
        | (go_at_call 12; refine (unhide K1 _ _ V3).mono ?_; rintro e w4 ⟨rfl, b4⟩; have t4 := t3.trans (b4.mono t3.size))
        | (go_at_call 13; have M := G1; refine (unhide P2 _ t2).mono ?_; rintro e w3 ⟨y, rfl, v3, b3⟩; obtain ⟨y1, z1, y2, z2, rfl, -, -, -⟩ := v3.open;
            have bo := Below.one w3 (.cells (cFl g.kin g.nam g.val g.ini y1 g.any.length z1 g.fin g.hi g.hf g.rul g.dn y2 g.kids.length z2) 27); have t3a := t2.trans (b3.mono t2.size); have t3 := t3a.trans (bo.mono t3a.size); have V3 := (V2.grow b3).grow bo;
            have H3 := keep_blk (keep_blk H2 b3) bo; obtain ⟨k0, k1, k2, k3, k4, k5, k6, k7, k8, k9, k10⟩ := cells11 H3)
        | (go_at_call 11; refine (unhide S1 _ _ t1 V1).mono ?_; rintro e w2 ⟨rfl, b2⟩; have t2 := t1.trans (b2.mono t1.size); have V2 := V1.grow b2; have H2 := keep_blk H1 b2)
        | (go_at_call 13; refine (unhide P1).mono ?_; rintro e w1 ⟨y, rfl, v1, b1⟩; have G1 := trivial; obtain ⟨d1, o1, d2, o2, rfl, -, -, -⟩ := v1.open;
            have bp := Below.one w1 (.cells (cFl e.kin e.nam e.val e.ini d1 e.any.length o1 e.fin e.hi e.hf e.rul e.dn d2 e.kids.length o2) 27); have t1 := b1.trans (bp.mono b1.size); have V1 := v1.grow bp; have H1 := heap_new w1 (.cells (cFl e.kin e.nam e.val e.ini d1 e.any.length o1 e.fin e.hi e.hf e.rul e.dn d2 e.kids.length o2) 27); obtain ⟨k0, k1, k2, k3, k4, k5, k6, k7, k8, k9, k10⟩ := cells11 H1))
      go_ret
      exact ⟨rfl, t6⟩
  · rw [par_none h0] at P1
    have M1 := hide (fun W x (v : FlV W fl0 x) => (rsame24_any fl0 fl0 x _ W v (flv_zero W)).mono fun _ _ ⟨h1, h2⟩ => (⟨h1, h2.below⟩ : _ ∧ Below W.heap.size W _))
    rw [(sameF_iff fl0 fl0).2 rfl] at M1
    obtain ⟨q, hq⟩ : ∃ q, q = parE24 s := ⟨_, rfl⟩
    rw [← hq] at P1 h0
    have hq2 : (q == 0) = false := by simpa using h0
    clear C hq z
    generalize fl0 = e at *
    go_enter Tryd.func5, Tryd.ntmps5
    go_wp2_with (first
      | (go_at_call 8; refine (unhide AW _ t2).mono ?_; rintro e w6 ⟨rfl, b6⟩; have t6 := t2.trans (b6.mono t2.size))
      | (go_at_call 10; refine (unhide M1 _ _ V1).mono ?_; rintro e w2 ⟨rfl, b2⟩; have t2 := t1.trans (b2.mono t1.size))
      | (go_at_call 13; refine (unhide P1).mono ?_; rintro e w1 ⟨y, rfl, v1, b1⟩; obtain ⟨d1, o1, d2, o2, rfl, -, -, -⟩ := v1.open;
          have bp := Below.one w1 (.cells (cFl e.kin e.nam e.val e.ini d1 e.any.length o1 e.fin e.hi e.hf e.rul e.dn d2 e.kids.length o2) 27); have t1 := b1.trans (bp.mono b1.size); have V1 := v1.grow bp; have H1 := heap_new w1 (.cells (cFl e.kin e.nam e.val e.ini d1 e.any.length o1 e.fin e.hi e.hf e.rul e.dn d2 e.kids.length o2) 27); obtain ⟨k0, k1, k2, k3, k4, k5, k6, k7, k8, k9, k10⟩ := cells11 H1))
    go_ret
    exact ⟨rfl, t6⟩
end Go.Proofs.YthbldkkjjjmegaaDoor
