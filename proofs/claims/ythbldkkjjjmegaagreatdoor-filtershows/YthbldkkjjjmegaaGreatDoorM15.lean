/- FilterShows, out of the landed contracts. (By gen_lw.py.) -/
import Derived.Test.YthbldkkjjjmegaaGreatDoorM09
import Derived.Test.YthbldkkjjjmegaaGreatDoorM13
import Derived.Test.YthbldkkjjjmegaaGreatDoorM14
namespace Go.Proofs.YthbldkkjjjmegaaGreatDoor
set_option maxRecDepth 100000
open Go.RowKit

set_option maxHeartbeats 12800000 in
theorem shows24_law (w : World) (C : K24 w) (e : Fl) (x : Value) (V : FlV w e x) : Calls Tryz.prog 3 #[x] w fun y w' => y = .returned (.bool true) ∧ Below w.heap.size w w' := by
  obtain ⟨a1, c1, a2, c2, rfl, -, -, -⟩ := V.open
  have mx : Tryz.prog.follows .mixedOrders = true := by kernel_rfl
  have bA := Below.one w (.cells (cFl e.kin e.nam e.val e.ini a1 e.any.length c1 e.fin e.hi e.hf e.rul e.dn a2 e.kids.length c2) 27)
  have HA := heap_new w (.cells (cFl e.kin e.nam e.val e.ini a1 e.any.length c1 e.fin e.hi e.hf e.rul e.dn a2 e.kids.length c2) 27)
  have AW := hide (fun W (b : Below w.heap.size w W) => awake24 C W b)
  have F1 := hide (fun W (b : Below w.heap.size w W) => (few24_any e 150 _ W (V.grow b) (by decide) (by decide)).mono fun _ _ ⟨h1, h2⟩ => (⟨h1, h2.below⟩ : _ ∧ Below W.heap.size W _))
  obtain ⟨f1, hf1⟩ : ∃ f1, f1 = fewW e 150 := ⟨_, rfl⟩
  rw [← hf1] at F1
  by_cases h1 : f1 < 0
  · clear C V hf1 HA
    go_enter Tryz.func3, Tryz.ntmps3
    go_wp2_with (first
      | (go_at_call 6; refine (unhide AW _ t1).mono ?_; rintro e w2 ⟨rfl, b2⟩; have t2 := t1.trans (b2.mono t1.size))
      | (go_at_call 5; refine (unhide F1 _ bA).mono ?_; rintro e w1 ⟨rfl, b1⟩; have t1 := bA.trans (b1.mono bA.size)))
    go_ret
    exact ⟨rfl, t2⟩
  · have s1 := few_small e 150 (by rw [← hf1]; omega)
    have S1 := hide (fun W (b : Below w.heap.size w W) => C.sho e _ W b (V.grow b) s1)
    have S2 := hide (fun W (b : Below w.heap.size w W) => rshow24_any e _ W (V.grow b) s1)
    have K1 := hide (fun W (b : Below w.heap.size w W) => C.chk e _ W (V.grow b) s1)
    have K2 := hide (fun W (b : Below w.heap.size w W) => (rcheck24_any e _ W (V.grow b) s1).mono fun _ _ ⟨h1, h2⟩ => (⟨h1, h2.below⟩ : _ ∧ Below W.heap.size W _))
    have D1 := hide (fun W (b : Below w.heap.size w W) => C.dep e _ W (V.grow b) s1)
    have D2 := hide (fun W (b : Below w.heap.size w W) => (rDeep_any e _ W (V.grow b)).mono fun _ _ ⟨h1, h2⟩ => (⟨h1, h2.below⟩ : _ ∧ Below W.heap.size W _))
    have N1 := hide (fun W (b : Below w.heap.size w W) => C.cnt e _ W (V.grow b) s1)
    have N2 := hide (fun W (b : Below w.heap.size w W) => (rCount_any e _ W (V.grow b)).mono fun _ _ ⟨h1, h2⟩ => (⟨h1, h2.below⟩ : _ ∧ Below W.heap.size W _))
    clear C V hf1 s1
    generalize chkF e = q at *
    generalize shoF e = s at *
    generalize ((deepF e 9 : Nat) : Int) = d at *
    generalize ((countF e : Nat) : Int) = n at *
    have eq1 : (q == q) = true := by simp
    have eq2 : (s.toList == s.toList) = true := by simp
    have eq3 : (d == d) = true := by simp
    have eq4 : (n == n) = true := by simp
    go_enter Tryz.func3, Tryz.ntmps3
    go_wp2_with (first
      | (go_at_call 8; refine (unhide S2 _ t2).mono ?_; rintro e w3 ⟨rfl, b3⟩; have t3 := t2.trans (b3.mono t2.size); have H3 := keep_blk H2 b3; obtain ⟨k0, k1, k2, k3, k4, k5, k6, k7, k8, k9, k10⟩ := cells11 H3)
      | (go_at_call 7; refine (unhide S1 _ t1).mono ?_; rintro e w2 ⟨rfl, b2⟩; have t2 := t1.trans (b2.mono t1.size); have H2 := keep_blk H1 b2; obtain ⟨k0, k1, k2, k3, k4, k5, k6, k7, k8, k9, k10⟩ := cells11 H2)
      | (go_at_call 5; refine (unhide F1 _ bA).mono ?_; rintro e w1 ⟨rfl, b1⟩; have t1 := bA.trans (b1.mono bA.size); have H1 := keep_blk HA b1; obtain ⟨k0, k1, k2, k3, k4, k5, k6, k7, k8, k9, k10⟩ := cells11 H1))
    replace k0 := cell_bb k0
    replace k1 := cell_bb k1
    replace k2 := cell_bb k2
    replace k3 := cell_bb k3
    replace k4 := cell_bb k4
    replace k5 := cell_bb k5
    replace k6 := cell_bb k6
    replace k7 := cell_bb k7
    replace k8 := cell_bb k8
    replace k9 := cell_bb k9
    replace k10 := cell_bb k10
    refine wp_region_below (by first | exact mx | assumption) (by kernel_rfl) ?_
    intro nebb
    repeat (go_big_quiet_step (first | (go_at_call 9; exact callsBB (unhide K1 _ (t3.trans ((BB.b _).mono t3.size)))) | (go_at_call 10; exact callsBB (unhide K2 _ (t3.trans ((BB.b _).mono t3.size)))) | (go_at_call 11; exact callsBB (unhide D1 _ (t3.trans ((BB.b _).mono t3.size)))) | (go_at_call 12; exact callsBB (unhide D2 _ (t3.trans ((BB.b _).mono t3.size)))) | (go_at_call 13; exact callsBB (unhide N1 _ (t3.trans ((BB.b _).mono t3.size)))) | (go_at_call 14; exact callsBB (unhide N2 _ (t3.trans ((BB.b _).mono t3.size)))) | (go_at_call 6; exact callsBB (unhide AW _ (t3.trans ((BB.b _).mono t3.size))))))
    refine wpQuiet_nil ?_
    intro _ hw'
    obtain ⟨pq, hw''⟩ := hw'
    subst hw''
    have bq := pq.b
    generalize pq.W = wq at *
    go_wp2
    go_ret
    exact ⟨rfl, t3.trans (bq.mono t3.size)⟩
end Go.Proofs.YthbldkkjjjmegaaGreatDoor
