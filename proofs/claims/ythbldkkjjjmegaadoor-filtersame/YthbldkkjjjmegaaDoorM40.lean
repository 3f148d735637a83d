/- FilterSame, out of the landed contracts. (By gen_ls.py.) -/
import Derived.Test.YthbldkkjjjmegaaDoorM09
import Derived.Test.YthbldkkjjjmegaaDoorM39
namespace Go.Proofs.YthbldkkjjjmegaaDoor
set_option maxRecDepth 100000
open Go.RowKit

set_option maxHeartbeats 6400000 in
theorem same24_law (w : World) (C : K24 w) (e e' : Fl) (x x' : Value) (V : FlV w e x) (V' : FlV w e' x') : Calls Tryd.prog 3 #[x, x'] w fun y w' => y = .returned (.bool true) ∧ Below w.heap.size w w' := by
  obtain ⟨a1, c1, a2, c2, rfl, -, -, -⟩ := V.open
  obtain ⟨a3, c3, a4, c4, rfl, -, -, -⟩ := V'.open
  have bA := Below.one w (.cells (cFl e.kin e.nam e.val e.ini a1 e.any.length c1 e.fin e.hi e.hf e.rul e.dn a2 e.kids.length c2) 27)
  have bB := bA.trans ((Below.one _ (.cells (cFl e'.kin e'.nam e'.val e'.ini a3 e'.any.length c3 e'.fin e'.hi e'.hf e'.rul e'.dn a4 e'.kids.length c4) 27)).mono bA.size)
  have HA := keep_blk (heap_new w (.cells (cFl e.kin e.nam e.val e.ini a1 e.any.length c1 e.fin e.hi e.hf e.rul e.dn a2 e.kids.length c2) 27)) (Below.one _ (.cells (cFl e'.kin e'.nam e'.val e'.ini a3 e'.any.length c3 e'.fin e'.hi e'.hf e'.rul e'.dn a4 e'.kids.length c4) 27))
  have HB := heap_new (w.alloc (.cells (cFl e.kin e.nam e.val e.ini a1 e.any.length c1 e.fin e.hi e.hf e.rul e.dn a2 e.kids.length c2) 27)) (.cells (cFl e'.kin e'.nam e'.val e'.ini a3 e'.any.length c3 e'.fin e'.hi e'.hf e'.rul e'.dn a4 e'.kids.length c4) 27)
  rw [World.size_alloc] at HB
  have mx : Tryd.prog.follows .mixedOrders = true := by kernel_rfl
  have AW := hide (fun W (b : Below w.heap.size w W) => awake24 C W b)
  have F1 := hide (fun W (b : Below w.heap.size w W) => (few24_any e 150 _ W (V.grow b) (by decide) (by decide)).mono fun _ _ ⟨h1, h2⟩ => (⟨h1, h2.below⟩ : _ ∧ Below W.heap.size W _))
  have F2 := hide (fun W (b : Below w.heap.size w W) => (few24_any e' 150 _ W (V'.grow b) (by decide) (by decide)).mono fun _ _ ⟨h1, h2⟩ => (⟨h1, h2.below⟩ : _ ∧ Below W.heap.size W _))
  obtain ⟨f1, hf1⟩ : ∃ f1, f1 = fewW e 150 := ⟨_, rfl⟩
  obtain ⟨f2, hf2⟩ : ∃ f2, f2 = fewW e' 150 := ⟨_, rfl⟩
  rw [← hf1] at F1
  rw [← hf2] at F2
  obtain ⟨k0, k1, k2, k3, k4, k5, k6, k7, k8, k9, k10⟩ := cells11 HA
  obtain ⟨m0, m1, m2, m3, m4, m5, m6, m7, m8, m9, m10⟩ := cells11 HB
  by_cases h1 : f1 < 0
  · clear C V V' hf1 hf2 F2 HA HB
    go_enter Tryd.func3, Tryd.ntmps3
    go_wp2_with (first
      | (go_at_call 8; refine (unhide AW _ t1).mono ?_; rintro e w2 ⟨rfl, b2⟩; have t2 := t1.trans (b2.mono t1.size))
      | (go_at_call 7; refine (unhide F1 _ bB).mono ?_; rintro e w1 ⟨rfl, b1⟩; have t1 := bB.trans (b1.mono bB.size)))
    go_ret
    exact ⟨rfl, t2⟩
  · by_cases h2 : f2 < 0
    · clear C V V' hf1 hf2
      go_enter Tryd.func3, Tryd.ntmps3
      go_wp2_with (first
        | (go_at_call 8; refine (unhide AW _ t1).mono ?_; rintro e w2 ⟨rfl, b2⟩; have t2 := t1.trans (b2.mono t1.size))
        | (go_at_call 7; have M := G1; refine (unhide F2 _ t0).mono ?_; rintro e w1 ⟨rfl, b1⟩; have t1 := t0.trans (b1.mono t0.size))
        | (go_at_call 7; refine (unhide F1 _ bB).mono ?_; rintro e w0 ⟨rfl, b0⟩; have t0 := bB.trans (b0.mono bB.size); have G1 := trivial; obtain ⟨m0, m1, m2, m3, m4, m5, m6, m7, m8, m9, m10⟩ := cells11 (keep_blk HB b0)))
      go_ret
      exact ⟨rfl, t2⟩
    · have s1 := few_small e 150 (by rw [← hf1]; omega)
      have s2 := few_small e' 150 (by rw [← hf2]; omega)
      have A1 := hide (fun W (b : Below w.heap.size w W) => C.sam e e' _ _ W (V.grow b) (V'.grow b) s1 s2)
      have A2 := hide (fun W (b : Below w.heap.size w W) => (rsame24_any e e' _ _ W (V.grow b) (V'.grow b)).mono fun _ _ ⟨h1, h2⟩ => (⟨h1, h2.below⟩ : _ ∧ Below W.heap.size W _))
      generalize sameF e e' = z at *
      have ez : (z == z) = true := by simp
      clear C V V' hf1 hf2 s1 s2
      go_enter Tryd.func3, Tryd.ntmps3
      go_wp2_with (first
        | (go_at_call 7; have M := G1; refine (unhide F2 _ t0).mono ?_; rintro e w1 ⟨rfl, b1⟩; have t1 := t0.trans (b1.mono t0.size); obtain ⟨k0, k1, k2, k3, k4, k5, k6, k7, k8, k9, k10⟩ := cells11 (keep_blk (keep_blk HA b0) b1); obtain ⟨m0, m1, m2, m3, m4, m5, m6, m7, m8, m9, m10⟩ := cells11 (keep_blk (keep_blk HB b0) b1))
        | (go_at_call 7; refine (unhide F1 _ bB).mono ?_; rintro e w0 ⟨rfl, b0⟩; have t0 := bB.trans (b0.mono bB.size); have G1 := trivial; obtain ⟨m0, m1, m2, m3, m4, m5, m6, m7, m8, m9, m10⟩ := cells11 (keep_blk HB b0)))
      replace k0 := cell_bb k0
      replace k1 := cell_bb k1
      replace k2 := cell_bb k2
      replace k3 := cell_bb k3
      replace k4 := cell_bb k4
      replace k5 := cell_bb k5
      replace k6 := cell_bb k6
      replace k7 := cell_bb k7
      replace k8 := cell_bb k8
      replace k9 := cell_bb k9
      replace k10 := cell_bb k10
      replace m0 := cell_bb m0
      replace m1 := cell_bb m1
      replace m2 := cell_bb m2
      replace m3 := cell_bb m3
      replace m4 := cell_bb m4
      replace m5 := cell_bb m5
      replace m6 := cell_bb m6
      replace m7 := cell_bb m7
      replace m8 := cell_bb m8
      replace m9 := cell_bb m9
      replace m10 := cell_bb m10
      refine wp_region_below (by first | exact mx | assumption) (by kernel_rfl) ?_
      intro nebb
      repeat (go_big_quiet_step (first | (go_at_call 9; exact callsBB (unhide A1 _ (t1.trans ((BB.b _).mono t1.size)))) | (go_at_call 10; exact callsBB (unhide A2 _ (t1.trans ((BB.b _).mono t1.size)))) | (go_at_call 8; exact callsBB (unhide AW _ (t1.trans ((BB.b _).mono t1.size))))))
      refine wpQuiet_nil ?_
      intro _ hw'
      obtain ⟨pq, hw''⟩ := hw'
      subst hw''
      have bq := pq.b
      generalize pq.W = wq at *
      go_wp2
      go_ret
      exact ⟨rfl, t1.trans (bq.mono t1.size)⟩
end Go.Proofs.YthbldkkjjjmegaaDoor
