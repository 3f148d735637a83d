/- FilterGrows, out of the landed contracts. (By gen_lg.py.) -/
import Derived.Test.YthbldkkjjjmegaaDoorM09
import Derived.Test.YthbldkkjjjmegaaDoorM21
import Derived.Test.YthbldkkjjjmegaaDoorM39
namespace Go.Proofs.YthbldkkjjjmegaaDoor
set_option maxRecDepth 100000
open Go.RowKit

/-- One filter, two filters in a block of their own. -/
theorem flL1 {W : World} {g : Nat} {a : Fl} {x0 x1 x2 x3 x4 x5 x6 x7 x8 x9 x10 : Value} {T : TypeId} (h : W.heap[g]? = some (.cells #[x0, x1, x2, x3, x4, x5, x6, x7, x8, x9, x10] T)) (v : FlV W a (.agg #[x0, x1, x2, x3, x4, x5, x6, x7, x8, x9, x10])) : FlV.L W [a] g 0 := by
  simp only [FlV.L, and_true]
  refine ⟨x0, x1, x2, x3, x4, x5, x6, x7, x8, x9, x10, ?_, ?_, ?_, ?_, ?_, ?_, ?_, ?_, ?_, ?_, ?_, v⟩ <;> simp [World.cell?, h]
theorem flL2 {W : World} {g : Nat} {a b : Fl} {x0 x1 x2 x3 x4 x5 x6 x7 x8 x9 x10 y0 y1 y2 y3 y4 y5 y6 y7 y8 y9 y10 : Value} {T : TypeId} (h : W.heap[g]? = some (.cells #[x0, x1, x2, x3, x4, x5, x6, x7, x8, x9, x10, y0, y1, y2, y3, y4, y5, y6, y7, y8, y9, y10] T)) (v : FlV W a (.agg #[x0, x1, x2, x3, x4, x5, x6, x7, x8, x9, x10])) (u : FlV W b (.agg #[y0, y1, y2, y3, y4, y5, y6, y7, y8, y9, y10])) : FlV.L W [a, b] g 0 := by
  simp only [FlV.L, and_true]
  refine ⟨⟨x0, x1, x2, x3, x4, x5, x6, x7, x8, x9, x10, ?_, ?_, ?_, ?_, ?_, ?_, ?_, ?_, ?_, ?_, ?_, v⟩, ⟨y0, y1, y2, y3, y4, y5, y6, y7, y8, y9, y10, ?_, ?_, ?_, ?_, ?_, ?_, ?_, ?_, ?_, ?_, ?_, u⟩⟩ <;> simp [World.cell?, h]
theorem flK {W : World} {k : Int} {l : List Fl} {g c : Nat} (h : FlV.L W l g 0) (hl : l.length ≤ 2) : FlV W (kF k l) (vFl k ⟨#[]⟩ ⟨#[]⟩ ⟨#[]⟩ none 0 0 ⟨#[]⟩ false false ⟨#[]⟩ false (some ⟨g, 0, none⟩) l.length c) := by
  unfold kF
  simp only [FlV]
  exact ⟨none, 0, some ⟨g, 0, none⟩, c, rfl, TxC.nil _ _, by omega, .inr ⟨g, 0, rfl, h⟩⟩
theorem cnt_le (e : Fl) : countF e ≤ 61 := by unfold countF; split; omega; rw [cnt_tot]; omega
theorem chk_or24 (e : Fl) : chkF e = 0 ∨ chkF e = 240 := by unfold chkF; split <;> simp
theorem smK {k : Int} {l : List Fl} (h : smF.L l) : smF (kF k l) := by unfold kF; simp only [smF]; exact ⟨by simp, h⟩
set_option maxHeartbeats 6400000 in
theorem grows24_law (w : World) (C : K24 w) (e e' : Fl) (x x' : Value) (V : FlV w e x) (V' : FlV w e' x') : Calls Tryd.prog 6 #[x, x'] w fun y w' => y = .returned (.bool true) ∧ Below w.heap.size w w' := by
  obtain ⟨a1, c1, a2, c2, rfl, -, -, -⟩ := V.open
  obtain ⟨a3, c3, a4, c4, rfl, -, -, -⟩ := V'.open
  have bA := Below.one w (.cells (cFl e.kin e.nam e.val e.ini a1 e.any.length c1 e.fin e.hi e.hf e.rul e.dn a2 e.kids.length c2) 27)
  have bB := bA.trans ((Below.one _ (.cells (cFl e'.kin e'.nam e'.val e'.ini a3 e'.any.length c3 e'.fin e'.hi e'.hf e'.rul e'.dn a4 e'.kids.length c4) 27)).mono bA.size)
  have HA := keep_blk (heap_new w (.cells (cFl e.kin e.nam e.val e.ini a1 e.any.length c1 e.fin e.hi e.hf e.rul e.dn a2 e.kids.length c2) 27)) (Below.one _ (.cells (cFl e'.kin e'.nam e'.val e'.ini a3 e'.any.length c3 e'.fin e'.hi e'.hf e'.rul e'.dn a4 e'.kids.length c4) 27))
  have HB := heap_new (w.alloc (.cells (cFl e.kin e.nam e.val e.ini a1 e.any.length c1 e.fin e.hi e.hf e.rul e.dn a2 e.kids.length c2) 27)) (.cells (cFl e'.kin e'.nam e'.val e'.ini a3 e'.any.length c3 e'.fin e'.hi e'.hf e'.rul e'.dn a4 e'.kids.length c4) 27)
  rw [World.size_alloc] at HB
  have mx : Tryd.prog.follows .mixedOrders = true := by kernel_rfl
  have AW := hide (fun W (b : Below w.heap.size w W) => awake24 C W b)
  have F1 := hide (fun W (b : Below w.heap.size w W) => (few24_any e 150 _ W (V.grow b) (by decide) (by decide)).mono fun _ _ ⟨h1, h2⟩ => (⟨h1, h2.below⟩ : _ ∧ Below W.heap.size W _))
  have F2 := hide (fun W (b : Below w.heap.size w W) => (few24_any e' 150 _ W (V'.grow b) (by decide) (by decide)).mono fun _ _ ⟨h1, h2⟩ => (⟨h1, h2.below⟩ : _ ∧ Below W.heap.size W _))
  obtain ⟨f1, hf1⟩ : ∃ f1, f1 = fewW e 150 := ⟨_, rfl⟩
  obtain ⟨f2, hf2⟩ : ∃ f2, f2 = fewW e' 150 := ⟨_, rfl⟩
  rw [← hf1] at F1
  rw [← hf2] at F2
  obtain ⟨k0, k1, k2, k3, k4, k5, k6, k7, k8, k9, k10⟩ := cells11 HA
  obtain ⟨m0, m1, m2, m3, m4, m5, m6, m7, m8, m9, m10⟩ := cells11 HB
  by_cases h1 : f1 < 0
  · clear C V V' hf1 hf2 F2 HA HB
    go_enter Tryd.func6, Tryd.ntmps6
    go_wp2_with (first
      | (go_at_call 8; refine (unhide AW _ t1).mono ?_; rintro e w2 ⟨rfl, b2⟩; have t2 := t1.trans (b2.mono t1.size))
      | (go_at_call 7; refine (unhide F1 _ bB).mono ?_; rintro e w1 ⟨rfl, b1⟩; have t1 := bB.trans (b1.mono bB.size)))
    go_ret
    exact ⟨rfl, t2⟩
  by_cases h2 : f2 < 0
  · clear C V V' hf1 hf2
    go_enter Tryd.func6, Tryd.ntmps6
    go_wp2_with (first
      | (go_at_call 8; refine (unhide AW _ t1).mono ?_; rintro e w2 ⟨rfl, b2⟩; have t2 := t1.trans (b2.mono t1.size))
      | (go_at_call 7; have M := G1; refine (unhide F2 _ t0).mono ?_; rintro e w1 ⟨rfl, b1⟩; have t1 := t0.trans (b1.mono t0.size))
      | (go_at_call 7; refine (unhide F1 _ bB).mono ?_; rintro e w0 ⟨rfl, b0⟩; have t0 := bB.trans (b0.mono bB.size); have G1 := trivial; obtain ⟨m0, m1, m2, m3, m4, m5, m6, m7, m8, m9, m10⟩ := cells11 (keep_blk HB b0)))
    go_ret
    exact ⟨rfl, t2⟩
  have s1 := few_small e 150 (by rw [← hf1]; omega)
  have s2 := few_small e' 150 (by rw [← hf2]; omega)
  have K1 := hide (fun W (b : Below w.heap.size w W) => C.chk e _ W (V.grow b) s1)
  have K2 := hide (fun W (b : Below w.heap.size w W) => C.chk e' _ W (V'.grow b) s2)
  rcases chk_or24 e with q1 | q1
  rotate_left
  · rw [q1] at K1
    clear C V V' hf1 hf2 K2 s1 s2 q1
    go_enter Tryd.func6, Tryd.ntmps6
    go_wp2_with (first
      | (go_at_call 8; refine (unhide AW _ t2).mono ?_; rintro e w3 ⟨rfl, b3⟩; have t3 := t2.trans (b3.mono t2.size))
      | (go_at_call 12; refine (unhide K1 _ t1).mono ?_; rintro e w2 ⟨rfl, b2⟩; have t2 := t1.trans (b2.mono t1.size))
      | (go_at_call 7; have M := G1; refine (unhide F2 _ t0).mono ?_; rintro e w1 ⟨rfl, b1⟩; have t1 := t0.trans (b1.mono t0.size); obtain ⟨k0, k1, k2, k3, k4, k5, k6, k7, k8, k9, k10⟩ := cells11 (keep_blk (keep_blk HA b0) b1))
      | (go_at_call 7; refine (unhide F1 _ bB).mono ?_; rintro e w0 ⟨rfl, b0⟩; have t0 := bB.trans (b0.mono bB.size); have G1 := trivial; obtain ⟨m0, m1, m2, m3, m4, m5, m6, m7, m8, m9, m10⟩ := cells11 (keep_blk HB b0)))
    go_ret
    exact ⟨rfl, t3⟩
  rcases chk_or24 e' with q2 | q2
  rotate_left
  · rw [q1] at K1
    rw [q2] at K2
    clear C V V' hf1 hf2 s1 s2 q1 q2
    go_enter Tryd.func6, Tryd.ntmps6
    go_wp2_with (first
      | (go_at_call 8; refine (unhide AW _ t3).mono ?_; rintro e w4 ⟨rfl, b4⟩; have t4 := t3.trans (b4.mono t3.size))
      | (go_at_call 12; have M := G2; refine (unhide K2 _ t2).mono ?_; rintro e w3 ⟨rfl, b3⟩; have t3 := t2.trans (b3.mono t2.size))
      | (go_at_call 12; refine (unhide K1 _ t1).mono ?_; rintro e w2 ⟨rfl, b2⟩; have t2 := t1.trans (b2.mono t1.size); have G2 := trivial; obtain ⟨m0, m1, m2, m3, m4, m5, m6, m7, m8, m9, m10⟩ := cells11 (keep_blk (keep_blk (keep_blk HB b0) b1) b2))
      | (go_at_call 7; have M := G1; refine (unhide F2 _ t0).mono ?_; rintro e w1 ⟨rfl, b1⟩; have t1 := t0.trans (b1.mono t0.size); obtain ⟨k0, k1, k2, k3, k4, k5, k6, k7, k8, k9, k10⟩ := cells11 (keep_blk (keep_blk HA b0) b1))
      | (go_at_call 7; refine (unhide F1 _ bB).mono ?_; rintro e w0 ⟨rfl, b0⟩; have t0 := bB.trans (b0.mono bB.size); have G1 := trivial; obtain ⟨m0, m1, m2, m3, m4, m5, m6, m7, m8, m9, m10⟩ := cells11 (keep_blk HB b0)))
    go_ret
    exact ⟨rfl, t4⟩
  have D1 := hide (fun W (b : Below w.heap.size w W) => C.dep e _ W (V.grow b) s1)
  have D2 := hide (fun W (b : Below w.heap.size w W) => C.dep e' _ W (V'.grow b) s2)
  have N1 := hide (fun W (b : Below w.heap.size w W) => C.cnt e _ W (V.grow b) s1)
  have N2 := hide (fun W (b : Below w.heap.size w W) => C.cnt e' _ W (V'.grow b) s2)
  have gn := not_grows q1
  have ga := and_grows q1 q2
  rw [q1] at K1
  rw [q2] at K2
  clear hf1 hf2
  go_enter Tryd.func6, Tryd.ntmps6
  go_wp2_with (first
    | (go_at_call 12; have M := G2; refine (unhide K2 _ t2).mono ?_; rintro e w3 ⟨rfl, b3⟩; have t3 := t2.trans (b3.mono t2.size); have A3 := keep_blk (keep_blk (keep_blk (keep_blk HA b0) b1) b2) b3; have B3 := keep_blk (keep_blk (keep_blk (keep_blk HB b0) b1) b2) b3; obtain ⟨k0, k1, k2, k3, k4, k5, k6, k7, k8, k9, k10⟩ := cells11 A3; obtain ⟨m0, m1, m2, m3, m4, m5, m6, m7, m8, m9, m10⟩ := cells11 B3;
        have o4 := Below.one w3 (.cells (cFl e.kin e.nam e.val e.ini a1 e.any.length c1 e.fin e.hi e.hf e.rul e.dn a2 e.kids.length c2) 27); have o5 := Below.one (w3.alloc (.cells (cFl e.kin e.nam e.val e.ini a1 e.any.length c1 e.fin e.hi e.hf e.rul e.dn a2 e.kids.length c2) 27)) (.cells (cFl 2 ⟨#[]⟩ ⟨#[]⟩ ⟨#[]⟩ none 0 0 ⟨#[]⟩ false false ⟨#[]⟩ false (some ⟨w3.heap.size, 0, none⟩) 1 1) 27); have o6 := Below.one ((w3.alloc (.cells (cFl e.kin e.nam e.val e.ini a1 e.any.length c1 e.fin e.hi e.hf e.rul e.dn a2 e.kids.length c2) 27)).alloc (.cells (cFl 2 ⟨#[]⟩ ⟨#[]⟩ ⟨#[]⟩ none 0 0 ⟨#[]⟩ false false ⟨#[]⟩ false (some ⟨w3.heap.size, 0, none⟩) 1 1) 27)) (.cells #[.int .i64 e.kin, .string e.nam, .string e.val, .string e.ini, .slice a1 e.any.length c1, .string e.fin, .bool e.hi, .bool e.hf, .string e.rul, .bool e.dn, .slice a2 e.kids.length c2, .int .i64 e'.kin, .string e'.nam, .string e'.val, .string e'.ini, .slice a3 e'.any.length c3, .string e'.fin, .bool e'.hi, .bool e'.hf, .string e'.rul, .bool e'.dn, .slice a4 e'.kids.length c4] 27); have o7 := Below.one (((w3.alloc (.cells (cFl e.kin e.nam e.val e.ini a1 e.any.length c1 e.fin e.hi e.hf e.rul e.dn a2 e.kids.length c2) 27)).alloc (.cells (cFl 2 ⟨#[]⟩ ⟨#[]⟩ ⟨#[]⟩ none 0 0 ⟨#[]⟩ false false ⟨#[]⟩ false (some ⟨w3.heap.size, 0, none⟩) 1 1) 27)).alloc (.cells #[.int .i64 e.kin, .string e.nam, .string e.val, .string e.ini, .slice a1 e.any.length c1, .string e.fin, .bool e.hi, .bool e.hf, .string e.rul, .bool e.dn, .slice a2 e.kids.length c2, .int .i64 e'.kin, .string e'.nam, .string e'.val, .string e'.ini, .slice a3 e'.any.length c3, .string e'.fin, .bool e'.hi, .bool e'.hf, .string e'.rul, .bool e'.dn, .slice a4 e'.kids.length c4] 27)) (.cells (cFl 0 ⟨#[]⟩ ⟨#[]⟩ ⟨#[]⟩ none 0 0 ⟨#[]⟩ false false ⟨#[]⟩ false (some ⟨w3.heap.size + 1 + 1, 0, none⟩) 2 2) 27);
        have A5 := keep_blk (keep_blk A3 o4) o5; have B5 := keep_blk (keep_blk B3 o4) o5; obtain ⟨n0, n1, n2, n3, n4, n5, n6, n7, n8, n9, n10⟩ := cells11 A5; obtain ⟨r0, r1, r2, r3, r4, r5, r6, r7, r8, r9, r10⟩ := cells11 B5;
        have A7 := keep_blk (keep_blk A5 o6) o7; have B7 := keep_blk (keep_blk B5 o6) o7; obtain ⟨p0, p1, p2, p3, p4, p5, p6, p7, p8, p9, p10⟩ := cells11 A7; obtain ⟨q0, q1, q2, q3, q4, q5, q6, q7, q8, q9, q10⟩ := cells11 B7)
    | (go_at_call 12; refine (unhide K1 _ t1).mono ?_; rintro e w2 ⟨rfl, b2⟩; have t2 := t1.trans (b2.mono t1.size); have G2 := trivial; obtain ⟨m0, m1, m2, m3, m4, m5, m6, m7, m8, m9, m10⟩ := cells11 (keep_blk (keep_blk (keep_blk HB b0) b1) b2))
    | (go_at_call 7; have M := G1; refine (unhide F2 _ t0).mono ?_; rintro e w1 ⟨rfl, b1⟩; have t1 := t0.trans (b1.mono t0.size); obtain ⟨k0, k1, k2, k3, k4, k5, k6, k7, k8, k9, k10⟩ := cells11 (keep_blk (keep_blk HA b0) b1))
    | (go_at_call 7; refine (unhide F1 _ bB).mono ?_; rintro e w0 ⟨rfl, b0⟩; have t0 := bB.trans (b0.mono bB.size); have G1 := trivial; obtain ⟨m0, m1, m2, m3, m4, m5, m6, m7, m8, m9, m10⟩ := cells11 (keep_blk HB b0)))
  have HN5 := heap_new (w3.alloc (.cells (cFl e.kin e.nam e.val e.ini a1 e.any.length c1 e.fin e.hi e.hf e.rul e.dn a2 e.kids.length c2) 27)) (.cells (cFl 2 ⟨#[]⟩ ⟨#[]⟩ ⟨#[]⟩ none 0 0 ⟨#[]⟩ false false ⟨#[]⟩ false (some ⟨w3.heap.size, 0, none⟩) 1 1) 27)
  rw [World.size_alloc] at HN5
  have HN7 := keep_blk (keep_blk HN5 o6) o7
  have HM7 := heap_new (((w3.alloc (.cells (cFl e.kin e.nam e.val e.ini a1 e.any.length c1 e.fin e.hi e.hf e.rul e.dn a2 e.kids.length c2) 27)).alloc (.cells (cFl 2 ⟨#[]⟩ ⟨#[]⟩ ⟨#[]⟩ none 0 0 ⟨#[]⟩ false false ⟨#[]⟩ false (some ⟨w3.heap.size, 0, none⟩) 1 1) 27)).alloc (.cells #[.int .i64 e.kin, .string e.nam, .string e.val, .string e.ini, .slice a1 e.any.length c1, .string e.fin, .bool e.hi, .bool e.hf, .string e.rul, .bool e.dn, .slice a2 e.kids.length c2, .int .i64 e'.kin, .string e'.nam, .string e'.val, .string e'.ini, .slice a3 e'.any.length c3, .string e'.fin, .bool e'.hi, .bool e'.hf, .string e'.rul, .bool e'.dn, .slice a4 e'.kids.length c4] 27)) (.cells (cFl 0 ⟨#[]⟩ ⟨#[]⟩ ⟨#[]⟩ none 0 0 ⟨#[]⟩ false false ⟨#[]⟩ false (some ⟨w3.heap.size + 1 + 1, 0, none⟩) 2 2) 27)
  rw [World.size_alloc, World.size_alloc, World.size_alloc] at HM7
  have t4 := t3.trans (o4.mono t3.size)
  have t5 := t4.trans (o5.mono t4.size)
  have t6 := t5.trans (o6.mono t5.size)
  have t7 := t6.trans (o7.mono t6.size)
  have L1 := flL1 (heap_new w3 (.cells (cFl e.kin e.nam e.val e.ini a1 e.any.length c1 e.fin e.hi e.hf e.rul e.dn a2 e.kids.length c2) 27)) (V.grow t4)
  have VN := flK (k := 2) (c := 1) (((L1.below o5).below o6).below o7) (by simp)
  have H2b := heap_new ((w3.alloc (.cells (cFl e.kin e.nam e.val e.ini a1 e.any.length c1 e.fin e.hi e.hf e.rul e.dn a2 e.kids.length c2) 27)).alloc (.cells (cFl 2 ⟨#[]⟩ ⟨#[]⟩ ⟨#[]⟩ none 0 0 ⟨#[]⟩ false false ⟨#[]⟩ false (some ⟨w3.heap.size, 0, none⟩) 1 1) 27)) (.cells #[.int .i64 e.kin, .string e.nam, .string e.val, .string e.ini, .slice a1 e.any.length c1, .string e.fin, .bool e.hi, .bool e.hf, .string e.rul, .bool e.dn, .slice a2 e.kids.length c2, .int .i64 e'.kin, .string e'.nam, .string e'.val, .string e'.ini, .slice a3 e'.any.length c3, .string e'.fin, .bool e'.hi, .bool e'.hf, .string e'.rul, .bool e'.dn, .slice a4 e'.kids.length c4] 27)
  rw [World.size_alloc, World.size_alloc] at H2b
  have L2 := flL2 H2b (V.grow t6) (V'.grow t6)
  have VM := flK (k := 0) (c := 2) (L2.below o7) (by simp)
  have zN : smF (kF 2 [e]) := smK (by simp only [smF.L]; exact ⟨s1, trivial⟩)
  have zM : smF (kF 0 [e, e']) := smK (by simp only [smF.L]; exact ⟨s1, s2, trivial⟩)
  have Q1 := hide (fun W (v : FlV W (kF 2 [e]) _) => C.chk (kF 2 [e]) (vFl 2 ⟨#[]⟩ ⟨#[]⟩ ⟨#[]⟩ none 0 0 ⟨#[]⟩ false false ⟨#[]⟩ false (some ⟨w3.heap.size, 0, none⟩) 1 1) W v zN)
  have Q2 := hide (fun W (v : FlV W (kF 0 [e, e']) _) => C.chk (kF 0 [e, e']) (vFl 0 ⟨#[]⟩ ⟨#[]⟩ ⟨#[]⟩ none 0 0 ⟨#[]⟩ false false ⟨#[]⟩ false (some ⟨w3.heap.size + 1 + 1, 0, none⟩) 2 2) W v zM)
  have VN2 : Hid (FlV _ (kF 2 [e]) (vFl 2 ⟨#[]⟩ ⟨#[]⟩ ⟨#[]⟩ none 0 0 ⟨#[]⟩ false false ⟨#[]⟩ false (some ⟨w3.heap.size, 0, none⟩) 1 1)) := VN
  have VM2 : Hid (FlV _ (kF 0 [e, e']) (vFl 0 ⟨#[]⟩ ⟨#[]⟩ ⟨#[]⟩ none 0 0 ⟨#[]⟩ false false ⟨#[]⟩ false (some ⟨w3.heap.size + 1 + 1, 0, none⟩) 2 2)) := VM
  clear HN5 H2b L1 L2 VN VM A5 B5 A3 B3 o4 o5 o6 o7 t4 t5 t6 k0 k1 k2 k3 k4 k5 k6 k7 k8 k9 k10 m0 m1 m2 m3 m4 m5 m6 m7 m8 m9 m10 n0 n1 n2 n3 n4 n5 n6 n7 n8 n9 n10 r0 r1 r2 r3 r4 r5 r6 r7 r8 r9 r10
  generalize (((w3.alloc (.cells (cFl e.kin e.nam e.val e.ini a1 e.any.length c1 e.fin e.hi e.hf e.rul e.dn a2 e.kids.length c2) 27)).alloc (.cells (cFl 2 ⟨#[]⟩ ⟨#[]⟩ ⟨#[]⟩ none 0 0 ⟨#[]⟩ false false ⟨#[]⟩ false (some ⟨w3.heap.size, 0, none⟩) 1 1) 27)).alloc (.cells #[.int .i64 e.kin, .string e.nam, .string e.val, .string e.ini, .slice a1 e.any.length c1, .string e.fin, .bool e.hi, .bool e.hf, .string e.rul, .bool e.dn, .slice a2 e.kids.length c2, .int .i64 e'.kin, .string e'.nam, .string e'.val, .string e'.ini, .slice a3 e'.any.length c3, .string e'.fin, .bool e'.hi, .bool e'.hf, .string e'.rul, .bool e'.dn, .slice a4 e'.kids.length c4] 27)).alloc (.cells (cFl 0 ⟨#[]⟩ ⟨#[]⟩ ⟨#[]⟩ none 0 0 ⟨#[]⟩ false false ⟨#[]⟩ false (some ⟨w3.heap.size + 1 + 1, 0, none⟩) 2 2) 27) = W7 at *
  generalize kF 2 [e] = fN at *
  generalize kF 0 [e, e'] = fM at *
  generalize hda : deepF e 9 = da at *
  generalize hdb : deepF e' 9 = db at *
  generalize hna : countF e = na at *
  generalize hnb : countF e' = nb at *
  have zda : da ≤ 9 := by have := deep_dp e 9 (by decide); omega
  have zdb : db ≤ 9 := by have := deep_dp e' 9 (by decide); omega
  clear hda hdb
  replace p0 := cell_bb p0
  replace p1 := cell_bb p1
  replace p2 := cell_bb p2
  replace p3 := cell_bb p3
  replace p4 := cell_bb p4
  replace p5 := cell_bb p5
  replace p6 := cell_bb p6
  replace p7 := cell_bb p7
  replace p8 := cell_bb p8
  replace p9 := cell_bb p9
  replace p10 := cell_bb p10
  replace q0 := cell_bb q0
  replace q1 := cell_bb q1
  replace q2 := cell_bb q2
  replace q3 := cell_bb q3
  replace q4 := cell_bb q4
  replace q5 := cell_bb q5
  replace q6 := cell_bb q6
  replace q7 := cell_bb q7
  replace q8 := cell_bb q8
  replace q9 := cell_bb q9
  replace q10 := cell_bb q10
  refine wp_region_below (by first | exact mx | assumption) (by kernel_rfl) ?_
  intro nebb
  repeat (go_big_quiet_step (first | (go_at_call_of 14 (e); exact callsBB (unhide D1 _ (t7.trans ((BB.b _).mono t7.size)))) | (go_at_call_of 14 (e'); exact callsBB (unhide D2 _ (t7.trans ((BB.b _).mono t7.size))))))
  refine wpQuiet_nil ?_
  intro _ hw'
  obtain ⟨pq, hw''⟩ := hw'
  subst hw''
  have bq := pq.b
  generalize pq.W = wq at *
  have em : (if da < db then (db : Int) else (da : Int)) = ((max da db : Nat) : Int) := by split <;> omega
  obtain ⟨md, hmd⟩ : ∃ md, md = max da db := ⟨_, rfl⟩
  rw [← hmd] at em ga
  simp only [em]
  have zmd : md ≤ 9 := by omega
  have u1 := chk_or24 fN
  have u2 := chk_or24 fM
  generalize chkF fN = uN at *
  generalize chkF fM = uM at *
  have t8 := t7.trans (bq.mono t7.size)
  have A8 := keep_blk A7 bq
  have B8 := keep_blk B7 bq
  have N8 := keep_blk HN7 bq
  have M8 := keep_blk HM7 bq
  have VN8 : Hid (FlV _ fN (vFl 2 ⟨#[]⟩ ⟨#[]⟩ ⟨#[]⟩ none 0 0 ⟨#[]⟩ false false ⟨#[]⟩ false (some ⟨w3.heap.size, 0, none⟩) 1 1)) := (unhide VN2).grow bq
  have VM8 : Hid (FlV _ fM (vFl 0 ⟨#[]⟩ ⟨#[]⟩ ⟨#[]⟩ none 0 0 ⟨#[]⟩ false false ⟨#[]⟩ false (some ⟨w3.heap.size + 1 + 1, 0, none⟩) 2 2)) := (unhide VM2).grow bq
  have HND : Hid (na ≤ 61 ∧ nb ≤ 61) := ⟨by rw [← hna]; exact cnt_le e, by rw [← hnb]; exact cnt_le e'⟩
  try clear em
  try clear hmd
  try clear zda
  try clear zdb
  try clear A7
  try clear B7
  try clear HN7
  try clear HM7
  try clear VN2
  try clear VM2
  try clear p0
  try clear p1
  try clear p2
  try clear p3
  try clear p4
  try clear p5
  try clear p6
  try clear p7
  try clear p8
  try clear p9
  try clear p10
  try clear q0
  try clear q1
  try clear q2
  try clear q3
  try clear q4
  try clear q5
  try clear q6
  try clear q7
  try clear q8
  try clear q9
  try clear q10
  try clear t7
  try clear V
  try clear V'
  try clear q1
  try clear q2
  try clear s1
  try clear s2
  try clear zN
  try clear zM
  try clear C
  try clear hna
  try clear hnb
  obtain ⟨p0, p1, p2, p3, p4, p5, p6, p7, p8, p9, p10⟩ := cells11 A8
  obtain ⟨q0, q1, q2, q3, q4, q5, q6, q7, q8, q9, q10⟩ := cells11 B8
  replace p0 := cell_bb p0
  replace p1 := cell_bb p1
  replace p2 := cell_bb p2
  replace p3 := cell_bb p3
  replace p4 := cell_bb p4
  replace p5 := cell_bb p5
  replace p6 := cell_bb p6
  replace p7 := cell_bb p7
  replace p8 := cell_bb p8
  replace p9 := cell_bb p9
  replace p10 := cell_bb p10
  replace q0 := cell_bb q0
  replace q1 := cell_bb q1
  replace q2 := cell_bb q2
  replace q3 := cell_bb q3
  replace q4 := cell_bb q4
  replace q5 := cell_bb q5
  replace q6 := cell_bb q6
  replace q7 := cell_bb q7
  replace q8 := cell_bb q8
  replace q9 := cell_bb q9
  replace q10 := cell_bb q10
  go_wp2
  obtain ⟨ys1, ys2⟩ := unhide HND
  refine wp_region_below (by first | exact mx | assumption) (by kernel_rfl) ?_
  intro nebb
  repeat (go_big_quiet_step (first | (go_at_call_of 15 (e); exact callsBB (unhide N1 _ (t8.trans ((BB.b _).mono t8.size)))) | (go_at_call_of 15 (e'); exact callsBB (unhide N2 _ (t8.trans ((BB.b _).mono t8.size))))))
  refine wpQuiet_nil ?_
  intro _ hw'
  obtain ⟨pq, hw''⟩ := hw'
  subst hw''
  have bq := pq.b
  generalize pq.W = wq at *
  have t9 := t8.trans (bq.mono t8.size)
  have A9 := keep_blk A8 bq
  have N9 := keep_blk N8 bq
  have M9 := keep_blk M8 bq
  have VN9 : Hid (FlV _ fN (vFl 2 ⟨#[]⟩ ⟨#[]⟩ ⟨#[]⟩ none 0 0 ⟨#[]⟩ false false ⟨#[]⟩ false (some ⟨w3.heap.size, 0, none⟩) 1 1)) := (unhide VN8).grow bq
  have VM9 : Hid (FlV _ fM (vFl 0 ⟨#[]⟩ ⟨#[]⟩ ⟨#[]⟩ none 0 0 ⟨#[]⟩ false false ⟨#[]⟩ false (some ⟨w3.heap.size + 1 + 1, 0, none⟩) 2 2)) := (unhide VM8).grow bq
  try clear A8
  try clear B8
  try clear N8
  try clear M8
  try clear VN8
  try clear VM8
  try clear p0
  try clear p1
  try clear p2
  try clear p3
  try clear p4
  try clear p5
  try clear p6
  try clear p7
  try clear p8
  try clear p9
  try clear p10
  try clear q0
  try clear q1
  try clear q2
  try clear q3
  try clear q4
  try clear q5
  try clear q6
  try clear q7
  try clear q8
  try clear q9
  try clear q10
  obtain ⟨p0, p1, p2, p3, p4, p5, p6, p7, p8, p9, p10⟩ := cells11 A9
  have gn2 : (da < 8 ∧ na < 60 ∧ uN = 0) ∨ (¬ da < 8 ∧ uN = 240) ∨ (da < 8 ∧ ¬ na < 60 ∧ uN = 240) := by
    rcases u1 with h | h
    · have := gn.1 h; omega
    · by_cases x1 : da < 8
      · by_cases x2 : na < 60
        · have := gn.2 ⟨x1, x2⟩; omega
        · omega
      · omega
  have ga2 : (md + 1 ≤ 8 ∧ na + nb + 1 ≤ 60 ∧ uM = 0) ∨ (¬ md + 1 ≤ 8 ∧ uM = 240) ∨ (md + 1 ≤ 8 ∧ ¬ na + nb + 1 ≤ 60 ∧ uM = 240) := by
    rcases u2 with h | h
    · have := ga.1 h; omega
    · by_cases x1 : md + 1 ≤ 8
      · by_cases x2 : na + nb + 1 ≤ 60
        · have := ga.2 ⟨x1, x2⟩; omega
        · omega
      · omega
  clear gn ga u1 u2
  rcases gn2 with ⟨x1, x2, rfl⟩ | ⟨x1, rfl⟩ | ⟨x1, x2, rfl⟩
  · have z1 : (da : Int) < 8 := by omega
    have z2 : (na : Int) < 60 := by omega
    clear x1 x2
    rcases ga2 with ⟨y1, y2, rfl⟩ | ⟨y1, rfl⟩ | ⟨y1, y2, rfl⟩
    · have z3 : (md : Int) + 1 ≤ 8 := by omega
      have z4 : (na : Int) + (nb : Int) + 1 ≤ 60 := by omega
      clear y2
      clear y1
      go_wp2_with
      (first
        | (go_at_call 8; refine (unhide AW _ r4).mono ?_; rintro ee v5 ⟨rfl, b5⟩; have r5 := r4.trans (b5.mono r4.size))
        | (go_at_call 12; have M := G7; refine (unhide Q2 _ J3).mono ?_; rintro ee v4 ⟨rfl, b4⟩; have r4 := r3.trans (b4.mono r3.size))
        | (go_at_call 12; refine (unhide Q1 _ I2).mono ?_; rintro ee v3 ⟨rfl, b3⟩; have r3 := r2.trans (b3.mono r2.size); have J3 := J2.grow b3; have G7 := trivial; obtain ⟨q0, q1, q2, q3, q4, q5, q6, q7, q8, q9, q10⟩ := cells11 (keep_blk M12 b3))
        | (go_at_call 15; refine (unhide N1 _ r1).mono ?_; rintro ee v2 ⟨rfl, b2⟩; have r2 := r1.trans (b2.mono r1.size); have I2 := I1.grow b2; have J2 := J1.grow b2; have M12 := keep_blk M11 b2; obtain ⟨p0, p1, p2, p3, p4, p5, p6, p7, p8, p9, p10⟩ := cells11 (keep_blk N11 b2))
        | (go_at_call 14; refine (unhide D1 _ t9).mono ?_; rintro ee v1 ⟨rfl, b1⟩; have r1 := t9.trans (b1.mono t9.size); have I1 := (unhide VN9).grow b1; have J1 := (unhide VM9).grow b1; have N11 := keep_blk N9 b1; have M11 := keep_blk M9 b1; obtain ⟨p0, p1, p2, p3, p4, p5, p6, p7, p8, p9, p10⟩ := cells11 (keep_blk A9 b1)))
      go_ret
      first | exact ⟨rfl, r5⟩ | (refine ⟨?_, r5⟩; simp; omega)
    · have z3 : ¬ (md : Int) + 1 ≤ 8 := by omega
      clear y1
      go_wp2_with
      (first
        | (go_at_call 8; refine (unhide AW _ r4).mono ?_; rintro ee v5 ⟨rfl, b5⟩; have r5 := r4.trans (b5.mono r4.size))
        | (go_at_call 12; have M := G7; refine (unhide Q2 _ J3).mono ?_; rintro ee v4 ⟨rfl, b4⟩; have r4 := r3.trans (b4.mono r3.size))
        | (go_at_call 12; refine (unhide Q1 _ I2).mono ?_; rintro ee v3 ⟨rfl, b3⟩; have r3 := r2.trans (b3.mono r2.size); have J3 := J2.grow b3; have G7 := trivial; obtain ⟨q0, q1, q2, q3, q4, q5, q6, q7, q8, q9, q10⟩ := cells11 (keep_blk M12 b3))
        | (go_at_call 15; refine (unhide N1 _ r1).mono ?_; rintro ee v2 ⟨rfl, b2⟩; have r2 := r1.trans (b2.mono r1.size); have I2 := I1.grow b2; have J2 := J1.grow b2; have M12 := keep_blk M11 b2; obtain ⟨p0, p1, p2, p3, p4, p5, p6, p7, p8, p9, p10⟩ := cells11 (keep_blk N11 b2))
        | (go_at_call 14; refine (unhide D1 _ t9).mono ?_; rintro ee v1 ⟨rfl, b1⟩; have r1 := t9.trans (b1.mono t9.size); have I1 := (unhide VN9).grow b1; have J1 := (unhide VM9).grow b1; have N11 := keep_blk N9 b1; have M11 := keep_blk M9 b1; obtain ⟨p0, p1, p2, p3, p4, p5, p6, p7, p8, p9, p10⟩ := cells11 (keep_blk A9 b1)))
      go_ret
      first | exact ⟨rfl, r5⟩ | (refine ⟨?_, r5⟩; simp; omega)
    · have z3 : (md : Int) + 1 ≤ 8 := by omega
      have z4 : ¬ (na : Int) + (nb : Int) + 1 ≤ 60 := by omega
      clear y2
      clear y1
      go_wp2_with
      (first
        | (go_at_call 8; refine (unhide AW _ r4).mono ?_; rintro ee v5 ⟨rfl, b5⟩; have r5 := r4.trans (b5.mono r4.size))
        | (go_at_call 12; have M := G7; refine (unhide Q2 _ J3).mono ?_; rintro ee v4 ⟨rfl, b4⟩; have r4 := r3.trans (b4.mono r3.size))
        | (go_at_call 12; refine (unhide Q1 _ I2).mono ?_; rintro ee v3 ⟨rfl, b3⟩; have r3 := r2.trans (b3.mono r2.size); have J3 := J2.grow b3; have G7 := trivial; obtain ⟨q0, q1, q2, q3, q4, q5, q6, q7, q8, q9, q10⟩ := cells11 (keep_blk M12 b3))
        | (go_at_call 15; refine (unhide N1 _ r1).mono ?_; rintro ee v2 ⟨rfl, b2⟩; have r2 := r1.trans (b2.mono r1.size); have I2 := I1.grow b2; have J2 := J1.grow b2; have M12 := keep_blk M11 b2; obtain ⟨p0, p1, p2, p3, p4, p5, p6, p7, p8, p9, p10⟩ := cells11 (keep_blk N11 b2))
        | (go_at_call 14; refine (unhide D1 _ t9).mono ?_; rintro ee v1 ⟨rfl, b1⟩; have r1 := t9.trans (b1.mono t9.size); have I1 := (unhide VN9).grow b1; have J1 := (unhide VM9).grow b1; have N11 := keep_blk N9 b1; have M11 := keep_blk M9 b1; obtain ⟨p0, p1, p2, p3, p4, p5, p6, p7, p8, p9, p10⟩ := cells11 (keep_blk A9 b1)))
      go_ret
      first | exact ⟨rfl, r5⟩ | (refine ⟨?_, r5⟩; simp; omega)
  · have z1 : ¬ (da : Int) < 8 := by omega
    clear x1
    rcases ga2 with ⟨y1, y2, rfl⟩ | ⟨y1, rfl⟩ | ⟨y1, y2, rfl⟩
    · have z3 : (md : Int) + 1 ≤ 8 := by omega
      have z4 : (na : Int) + (nb : Int) + 1 ≤ 60 := by omega
      clear y2
      clear y1
      go_wp2_with
      (first
        | (go_at_call 8; refine (unhide AW _ r4).mono ?_; rintro ee v5 ⟨rfl, b5⟩; have r5 := r4.trans (b5.mono r4.size))
        | (go_at_call 12; have M := G7; refine (unhide Q2 _ J3).mono ?_; rintro ee v4 ⟨rfl, b4⟩; have r4 := r3.trans (b4.mono r3.size))
        | (go_at_call 12; refine (unhide Q1 _ I2).mono ?_; rintro ee v3 ⟨rfl, b3⟩; have r3 := r2.trans (b3.mono r2.size); have J3 := J2.grow b3; have G7 := trivial; obtain ⟨q0, q1, q2, q3, q4, q5, q6, q7, q8, q9, q10⟩ := cells11 (keep_blk M12 b3))
        | (go_at_call 14; refine (unhide D1 _ t9).mono ?_; rintro ee v1 ⟨rfl, b1⟩; have r1 := t9.trans (b1.mono t9.size); have r2 := r1; have I2 := (unhide VN9).grow b1; have J2 := (unhide VM9).grow b1; have M12 := keep_blk M9 b1; obtain ⟨p0, p1, p2, p3, p4, p5, p6, p7, p8, p9, p10⟩ := cells11 (keep_blk N9 b1)))
      go_ret
      first | exact ⟨rfl, r5⟩ | (refine ⟨?_, r5⟩; simp; omega)
    · have z3 : ¬ (md : Int) + 1 ≤ 8 := by omega
      clear y1
      go_wp2_with
      (first
        | (go_at_call 8; refine (unhide AW _ r4).mono ?_; rintro ee v5 ⟨rfl, b5⟩; have r5 := r4.trans (b5.mono r4.size))
        | (go_at_call 12; have M := G7; refine (unhide Q2 _ J3).mono ?_; rintro ee v4 ⟨rfl, b4⟩; have r4 := r3.trans (b4.mono r3.size))
        | (go_at_call 12; refine (unhide Q1 _ I2).mono ?_; rintro ee v3 ⟨rfl, b3⟩; have r3 := r2.trans (b3.mono r2.size); have J3 := J2.grow b3; have G7 := trivial; obtain ⟨q0, q1, q2, q3, q4, q5, q6, q7, q8, q9, q10⟩ := cells11 (keep_blk M12 b3))
        | (go_at_call 14; refine (unhide D1 _ t9).mono ?_; rintro ee v1 ⟨rfl, b1⟩; have r1 := t9.trans (b1.mono t9.size); have r2 := r1; have I2 := (unhide VN9).grow b1; have J2 := (unhide VM9).grow b1; have M12 := keep_blk M9 b1; obtain ⟨p0, p1, p2, p3, p4, p5, p6, p7, p8, p9, p10⟩ := cells11 (keep_blk N9 b1)))
      go_ret
      first | exact ⟨rfl, r5⟩ | (refine ⟨?_, r5⟩; simp; omega)
    · have z3 : (md : Int) + 1 ≤ 8 := by omega
      have z4 : ¬ (na : Int) + (nb : Int) + 1 ≤ 60 := by omega
      clear y2
      clear y1
      go_wp2_with
      (first
        | (go_at_call 8; refine (unhide AW _ r4).mono ?_; rintro ee v5 ⟨rfl, b5⟩; have r5 := r4.trans (b5.mono r4.size))
        | (go_at_call 12; have M := G7; refine (unhide Q2 _ J3).mono ?_; rintro ee v4 ⟨rfl, b4⟩; have r4 := r3.trans (b4.mono r3.size))
        | (go_at_call 12; refine (unhide Q1 _ I2).mono ?_; rintro ee v3 ⟨rfl, b3⟩; have r3 := r2.trans (b3.mono r2.size); have J3 := J2.grow b3; have G7 := trivial; obtain ⟨q0, q1, q2, q3, q4, q5, q6, q7, q8, q9, q10⟩ := cells11 (keep_blk M12 b3))
        | (go_at_call 14; refine (unhide D1 _ t9).mono ?_; rintro ee v1 ⟨rfl, b1⟩; have r1 := t9.trans (b1.mono t9.size); have r2 := r1; have I2 := (unhide VN9).grow b1; have J2 := (unhide VM9).grow b1; have M12 := keep_blk M9 b1; obtain ⟨p0, p1, p2, p3, p4, p5, p6, p7, p8, p9, p10⟩ := cells11 (keep_blk N9 b1)))
      go_ret
      first | exact ⟨rfl, r5⟩ | (refine ⟨?_, r5⟩; simp; omega)
  · have z1 : (da : Int) < 8 := by omega
    have z2 : ¬ (na : Int) < 60 := by omega
    clear x1 x2
    rcases ga2 with ⟨y1, y2, rfl⟩ | ⟨y1, rfl⟩ | ⟨y1, y2, rfl⟩
    · have z3 : (md : Int) + 1 ≤ 8 := by omega
      have z4 : (na : Int) + (nb : Int) + 1 ≤ 60 := by omega
      clear y2
      clear y1
      go_wp2_with
      (first
        | (go_at_call 8; refine (unhide AW _ r4).mono ?_; rintro ee v5 ⟨rfl, b5⟩; have r5 := r4.trans (b5.mono r4.size))
        | (go_at_call 12; have M := G7; refine (unhide Q2 _ J3).mono ?_; rintro ee v4 ⟨rfl, b4⟩; have r4 := r3.trans (b4.mono r3.size))
        | (go_at_call 12; refine (unhide Q1 _ I2).mono ?_; rintro ee v3 ⟨rfl, b3⟩; have r3 := r2.trans (b3.mono r2.size); have J3 := J2.grow b3; have G7 := trivial; obtain ⟨q0, q1, q2, q3, q4, q5, q6, q7, q8, q9, q10⟩ := cells11 (keep_blk M12 b3))
        | (go_at_call 15; refine (unhide N1 _ r1).mono ?_; rintro ee v2 ⟨rfl, b2⟩; have r2 := r1.trans (b2.mono r1.size); have I2 := I1.grow b2; have J2 := J1.grow b2; have M12 := keep_blk M11 b2; obtain ⟨p0, p1, p2, p3, p4, p5, p6, p7, p8, p9, p10⟩ := cells11 (keep_blk N11 b2))
        | (go_at_call 14; refine (unhide D1 _ t9).mono ?_; rintro ee v1 ⟨rfl, b1⟩; have r1 := t9.trans (b1.mono t9.size); have I1 := (unhide VN9).grow b1; have J1 := (unhide VM9).grow b1; have N11 := keep_blk N9 b1; have M11 := keep_blk M9 b1; obtain ⟨p0, p1, p2, p3, p4, p5, p6, p7, p8, p9, p10⟩ := cells11 (keep_blk A9 b1)))
      go_ret
      first | exact ⟨rfl, r5⟩ | (refine ⟨?_, r5⟩; simp; omega)
    · have z3 : ¬ (md : Int) + 1 ≤ 8 := by omega
      clear y1
      go_wp2_with
      (first
        | (go_at_call 8; refine (unhide AW _ r4).mono ?_; rintro ee v5 ⟨rfl, b5⟩; have r5 := r4.trans (b5.mono r4.size))
        | (go_at_call 12; have M := G7; refine (unhide Q2 _ J3).mono ?_; rintro ee v4 ⟨rfl, b4⟩; have r4 := r3.trans (b4.mono r3.size))
        | (go_at_call 12; refine (unhide Q1 _ I2).mono ?_; rintro ee v3 ⟨rfl, b3⟩; have r3 := r2.trans (b3.mono r2.size); have J3 := J2.grow b3; have G7 := trivial; obtain ⟨q0, q1, q2, q3, q4, q5, q6, q7, q8, q9, q10⟩ := cells11 (keep_blk M12 b3))
        | (go_at_call 15; refine (unhide N1 _ r1).mono ?_; rintro ee v2 ⟨rfl, b2⟩; have r2 := r1.trans (b2.mono r1.size); have I2 := I1.grow b2; have J2 := J1.grow b2; have M12 := keep_blk M11 b2; obtain ⟨p0, p1, p2, p3, p4, p5, p6, p7, p8, p9, p10⟩ := cells11 (keep_blk N11 b2))
        | (go_at_call 14; refine (unhide D1 _ t9).mono ?_; rintro ee v1 ⟨rfl, b1⟩; have r1 := t9.trans (b1.mono t9.size); have I1 := (unhide VN9).grow b1; have J1 := (unhide VM9).grow b1; have N11 := keep_blk N9 b1; have M11 := keep_blk M9 b1; obtain ⟨p0, p1, p2, p3, p4, p5, p6, p7, p8, p9, p10⟩ := cells11 (keep_blk A9 b1)))
      go_ret
      first | exact ⟨rfl, r5⟩ | (refine ⟨?_, r5⟩; simp; omega)
    · have z3 : (md : Int) + 1 ≤ 8 := by omega
      have z4 : ¬ (na : Int) + (nb : Int) + 1 ≤ 60 := by omega
      clear y2
      clear y1
      go_wp2_with
      (first
        | (go_at_call 8; refine (unhide AW _ r4).mono ?_; rintro ee v5 ⟨rfl, b5⟩; have r5 := r4.trans (b5.mono r4.size))
        | (go_at_call 12; have M := G7; refine (unhide Q2 _ J3).mono ?_; rintro ee v4 ⟨rfl, b4⟩; have r4 := r3.trans (b4.mono r3.size))
        | (go_at_call 12; refine (unhide Q1 _ I2).mono ?_; rintro ee v3 ⟨rfl, b3⟩; have r3 := r2.trans (b3.mono r2.size); have J3 := J2.grow b3; have G7 := trivial; obtain ⟨q0, q1, q2, q3, q4, q5, q6, q7, q8, q9, q10⟩ := cells11 (keep_blk M12 b3))
        | (go_at_call 15; refine (unhide N1 _ r1).mono ?_; rintro ee v2 ⟨rfl, b2⟩; have r2 := r1.trans (b2.mono r1.size); have I2 := I1.grow b2; have J2 := J1.grow b2; have M12 := keep_blk M11 b2; obtain ⟨p0, p1, p2, p3, p4, p5, p6, p7, p8, p9, p10⟩ := cells11 (keep_blk N11 b2))
        | (go_at_call 14; refine (unhide D1 _ t9).mono ?_; rintro ee v1 ⟨rfl, b1⟩; have r1 := t9.trans (b1.mono t9.size); have I1 := (unhide VN9).grow b1; have J1 := (unhide VM9).grow b1; have N11 := keep_blk N9 b1; have M11 := keep_blk M9 b1; obtain ⟨p0, p1, p2, p3, p4, p5, p6, p7, p8, p9, p10⟩ := cells11 (keep_blk A9 b1)))
      go_ret
      first | exact ⟨rfl, r5⟩ | (refine ⟨?_, r5⟩; simp; omega)
end Go.Proofs.YthbldkkjjjmegaaDoor
