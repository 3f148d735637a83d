/- The law ClassesMore of layer 21. -/
import Derived.Test.YtjjildpdelkejaaM33
namespace Go.Proofs.Ytjjildpdelkejaa
open Go.RowKit

section
variable {P : Program} {ops : Array Oper} {Q : Exit → Act → World → Prop} {S : World → Prop} {md : Region.Mode}
/-- An operation that comes first: wanted, with its value; not wanted. -/
theorem take_on {i : Nat} {oi : Oper} {d : Tmp} {v : Value} {fuel : Nat} {listed : Array Bool} {a : Act} {w : World} (hi : ops[i]? = some oi) (hd : oi.dst = some d)
    (hs : Region.noSelect ops = true) (hf : Region.free md ops listed i = true) (hr : (Region.ready md ops listed).contains i = true)
    (hQ : ∀ c a w, Q (.panic c) (a.put (some d) v) w → Q (.panic c) a w) (hw : Region.wanted oi (yielded ops a.tmps) = true) (hy : ∀ w, S w → (execOp a.eval oi).run P w = .ok (.value v) w) (hS : S w)
    (h : wpAnyH P md ops Q S fuel (listed.setIfInBounds i true) (a.put (some d) v) w) : wpAnyH P md ops Q S (fuel + 1) listed a w :=
  wpAnyH_take hi hs hf hr (by rw [hd]; exact hQ) (.inl ⟨hw, hy⟩) hS (by rw [hd]; exact h)
theorem take_off {i : Nat} {oi : Oper} {d : Tmp} {fuel : Nat} {listed : Array Bool} {a : Act} {w : World} (hi : ops[i]? = some oi) (hd : oi.dst = some d)
    (hs : Region.noSelect ops = true) (hf : Region.free md ops listed i = true) (hr : (Region.ready md ops listed).contains i = true)
    (hQ : ∀ c a w, Q (.panic c) (a.put (some d) undef) w → Q (.panic c) a w) (hw : Region.wanted oi (yielded ops a.tmps) = false) (hS : S w)
    (h : wpAnyH P md ops Q S fuel (listed.setIfInBounds i true) (a.put (some d) undef) w) : wpAnyH P md ops Q S (fuel + 1) listed a w :=
  wpAnyH_take hi hs hf hr (by rw [hd]; exact hQ) (.inr ⟨hw, rfl⟩) hS (by rw [hd]; exact h)
end
set_option maxRecDepth 100000 in
set_option maxHeartbeats 25600000 in
theorem more21_law (va vc vn : Value) (l : List Ty) (cs : List Cl) (ns : List ByteArray) (m : ByteArray) (w : World) (hL : Ly w) (hT : TysV w va l) (hC : ClsV w vc cs) (hN : TsV w vn ns) : Calls Try.prog 6 #[.agg #[va, vc], vn, .string m] w fun e w' => e = .returned (.bool true) ∧ Below w.heap.size w w' := by
  have mx : Try.prog.follows .mixedOrders = true := by kernel_rfl
  obtain ⟨i0, hi, iz0, iz1, iz2⟩ := info_parts str_info
  have b0 := Below.one w (.cells #[va, vc] 25)
  have CF := hide (few21_any va vc l cs _ (hT.below b0) (hC.below b0))
  have CA := hide (fun W (h : Below w.heap.size w W) => awake21 W (hL.keep h))
  have HC1 := hide (fun (hf : fewC l cs = true) (v : Value) (ms : List ByteArray) (hl : ms.length ≤ 100) W (h : Below w.heap.size w W) (hm : TsV W v ms) => cneed_any va vc v l cs ms W (hL.keep h) hf (hT.below h) (hC.below h) hm hl)
  have HLI := hide (fun (hf : fewC l cs = true) n W (h : Below w.heap.size w W) => cline_any va vc l cs n W (hL.keep h) hf (hT.below h) (hC.below h))
  have HNV := hide (fun W (h : Below w.heap.size w W) => hN.below h)
  have CT := hide (fun (hl : ns.length ≤ 100) W (h : Below w.heap.size w W) => turned_any vn ns W (hN.below h) hl)
  have CSM := hide (fun (L : List ByteArray) u v W (h1 : TsV W u L) (h2 : TsV W v L) => (rsm_any u v L L W h1 h2).mono fun e w' h => (⟨by rw [h.1, decide_eq_true rfl], h.2⟩ : e = .returned (.bool true) ∧ Below W.heap.size W w'))
  obtain ⟨aa, ca, rfl⟩ := hT.shape
  obtain ⟨ac, cc, rfl⟩ := hC.shape
  obtain ⟨an, cn, rfl, hn9, hnc⟩ := hN
  have HNC := hide hnc
  have hn2 : (ns.length : Int) ≤ 9223372036854775807 := by omega
  clear hT hC hL hnc
  have S0 : Hid (Bs w.heap.size (.slice aa l.length ca) (.slice ac cs.length cc) (w.alloc (.cells #[.slice aa l.length ca, .slice ac cs.length cc] 25))) := heap_new w _
  obtain ⟨s0, s1⟩ := (unhide S0).cells
  cases hf : fewC l cs
  · rw [hf] at CF
    clear hf HC1 HLI CT CSM
    go_enter Try.func6, Try.ntmps6
    go_wp2_with (first
      | (go_at_call 9; refine (unhide CA _ t1).mono ?_; rintro e w2 ⟨rfl, b2⟩; have t2 := t1.trans (b2.mono t1.size))
      | (go_at_call 8; refine (unhide CF).mono ?_; rintro e w1 ⟨rfl, b1⟩; have t1 := b0.trans (b1.mono b0.size)))
    go_ret
    exact ⟨rfl, t2⟩
  rw [hf] at CF
  by_cases h20 : 20 < ns.length
  · have z : (20 : Int) < (ns.length : Int) := by omega
    clear hf HC1 HLI CT CSM
    go_enter Try.func6, Try.ntmps6
    go_wp2_with (first
      | (go_at_call 9; refine (unhide CA _ t1).mono ?_; rintro e w2 ⟨rfl, b2⟩; have t2 := t1.trans (b2.mono t1.size))
      | (go_at_call 8; refine (unhide CF).mono ?_; rintro e w1 ⟨rfl, b1⟩; have t1 := b0.trans (b1.mono b0.size)))
    go_ret
    exact ⟨rfl, t2⟩
  have z : ¬ (20 : Int) < (ns.length : Int) := by omega
  have C1 := hide (unhide HC1 hf)
  have CL := hide (unhide HLI hf)
  have CN := hide (fun W h => unhide C1 (.slice an ns.length cn) ns (by omega) W h (unhide HNV W h))
  clear hf HC1 HLI
  by_cases h0 : nedE l cs ns = 0
  · rw [h0] at CN
    obtain ⟨p1, p2, p3⟩ := ned_set (ms := ns.reverse ++ ns) h0 (fun x => by simp)
    have C2 := hide (fun v W h hm => unhide C1 v (ns.reverse ++ ns) (by simp; omega) W h hm)
    rw [p1, p2, p3] at C2
    have C3 := hide (fun v W h hm => unhide C1 v (m :: ns) (by simp; omega) W h hm)
    have hml := ned_lens (l := l) (cs := cs) (ns := ns) (by omega)
    have hml2 := ned_lens (l := l) (cs := cs) (ns := m :: ns) (by simp; omega)
    have CTT := hide (unhide CT (by omega))
    have H0 := hide h0
    have hnp := ned_some h0
    clear p1 p2 p3 CT h0
    go_enter Try.func6, Try.ntmps6
    go_upto_region 6 with (first
      | (go_at_call 15; refine (unhide CN _ t1).mono ?_; rintro e w2 ⟨u2, p2, rfl, hu2, hp2, b2⟩; have t2 := t1.trans (b2.mono t1.size); have U2 := hide hu2; have P2 := hide hp2; obtain ⟨ua2, ub2, rfl, _⟩ := hu2; obtain ⟨pa2, pb2, rfl, _⟩ := hp2)
      | (go_at_call 8; refine (unhide CF).mono ?_; rintro e w1 ⟨rfl, b1⟩; have t1 := b0.trans (b1.mono b0.size); have S1 := hide ((unhide S0).keep b1); obtain ⟨y0, y1⟩ := (unhide S1).cells))
    have S2 := hide ((unhide S1).keep b2)
    clear y0 y1 s0 s1 CF CN S0 S1 b1 b0
    have t2d := t2.drew
    have HSW : Hid (∀ W, Below w2.heap.size w2 W → W.cell? ⟨w.heap.size, 0, none⟩ = some (.slice aa l.length ca) ∧ W.cell? ⟨w.heap.size, 1, none⟩ = some (.slice ac cs.length cc)) := fun W h => ((unhide S2).keep h).cells
    have k2d : Below w2.heap.size w2 w2.drew := (Below.refl _ w2).drew
    generalize hM : nedM l cs ns = M at *
    generalize hY : nedY l cs ns = Y at *
    have hr1 : ns.reverse.length + ns.length ≤ maxLen := by unfold maxLen; simp; omega
    have hr2 : (ns.reverse.length + ns.length) * 16 ≤ 140737488355328 := by simp; omega
    go_region_held3 (fun W => W.cell? ⟨w.heap.size, 0, none⟩ = some (.slice aa l.length ca) ∧ W.cell? ⟨w.heap.size, 1, none⟩ = some (.slice ac cs.length cc)) (first | with_reducible exact unhide HSW _ k2d | with_reducible exact unhide HSW _ k5 | with_reducible exact unhide HSW _ k4 | with_reducible exact unhide HSW _ k3 | assumption | go_keep)
      (first
        | (go_at_call 15; refine (unhide C2 _ _ t4 (own_ts (unhide O4) (by simp) (by simp) (by simp; omega))).mono ?_; rintro e w5 ⟨u5, p5, rfl, hu5, hp5, b5⟩; have t5 := t4.trans (b5.mono t4.size); have k5 := k4.trans (b5.mono k4.size); have U5 := hide hu5; have P5 := hide hp5; obtain ⟨ua5, ub5, rfl, _⟩ := hu5; obtain ⟨pa5, pb5, rfl, _⟩ := hp5)
        | (refine step_append_ts _ (by rfl) _ _ _ (by rfl) w2.heap.size 9 i0 _ 16 Try.underlying32 hi iz0 iz1 iz2 rfl _ ns.reverse.length _ (by rfl) (unhide O3) _ ns (by rfl) (unhide HNV _ t3) hr1 hr2 k3.size ?_; intro v4 w4 hown4 b4; have O4 := hide hown4; clear hown4; have k4 := k3.trans b4; have t4 := t2.trans (k4.mono t2.size); try dsimp only)
        | (go_at_call 19; refine (unhide CTT _ t2d).mono ?_; rintro e w3 ⟨v3, rfl, hv3, b3⟩; have k3 := k2d.trans (b3.mono k2d.size); have t3 := t2.trans (k3.mono t2.size); have O3 : Hid (w3.ownsRow w2.heap.size 9 1 v3 ns.reverse.length (ns.reverse.map Value.string)) := hv3; clear hv3))
    try simp only [Exit.then]
    have U2a := hide ((unhide U2).below k5)
    have P2a := hide ((unhide P2).below k5)
    clear O3 O4 hr1 hr2 CTT C2 k3 k4 t3 t4 b3 b4
    go_upto_region 9 with (first
      | (go_at_call 12; refine (unhide CSM Y _ _ _ (unhide P6) (unhide Q6)).mono ?_; rintro e w7 ⟨rfl, b7⟩; have t7 := t6.trans (b7.mono t6.size); have k7 := k6.trans (b7.mono k6.size); have U7 := hide ((unhide U6).below b7); have P7 := hide ((unhide Q6).below b7))
      | (go_at_call 12; refine (unhide CSM M _ _ _ (unhide U5) (unhide U2a)).mono ?_; rintro e w6 ⟨rfl, b6⟩; have t6 := t5.trans (b6.mono t5.size); have k6 := k5.trans (b6.mono k5.size); have P6 := hide ((unhide P5).below b6); have Q6 := hide ((unhide P2a).below b6); have U6 := hide ((unhide U2a).below b6)))
    clear U2a P2a P6 Q6 U6 U5 P5 U2 P2 k5 k6 t5 t6 b5 b6 b7 b2
    have o7 : Below w7.heap.size w7 (w7.alloc (.cells #[.string m] 9)).drew := (Below.one w7 _).drew
    have k7a := k7.trans (o7.mono k7.size)
    have t7a := t7.trans (o7.mono t7.size)
    have k7d := k7.drew
    have O7 : Hid ((w7.alloc (.cells #[.string m] 9)).drew.ownsRow w7.heap.size 9 1 (.slice (some ⟨w7.heap.size, 0, none⟩) 1 1) 1 [.string m]) := ⟨rfl, .inr ⟨w7.heap.size, 1, #[.string m], rfl, Nat.le_refl _, heap_new w7 _, Nat.le_refl _, by unfold maxLen; omega, rfl, rfl⟩⟩
    have hr1 : 1 + ns.length ≤ maxLen := by unfold maxLen; omega
    have hr2 : (1 + ns.length) * 16 ≤ 140737488355328 := by omega
    obtain ⟨x, hx⟩ : ∃ x, nedE l cs (m :: ns) = x := ⟨_, rfl⟩
    rw [hx] at C3
    generalize hM3 : nedM l cs (m :: ns) = M3 at *
    generalize hY3 : nedY l cs (m :: ns) = Y3 at *
    go_region_held3 (fun W => W.cell? ⟨w.heap.size, 0, none⟩ = some (.slice aa l.length ca) ∧ W.cell? ⟨w.heap.size, 1, none⟩ = some (.slice ac cs.length cc)) (first | with_reducible exact unhide HSW _ k7d | with_reducible exact unhide HSW _ k7a | with_reducible exact unhide HSW _ k9 | with_reducible exact unhide HSW _ k8 | assumption | go_keep)
      (first
        | (go_at_call 15; refine (unhide C3 _ _ t8 (own_ts (unhide O8) (by simp; omega) (by simp) (by simp; omega))).mono ?_; rintro e w9 ⟨u9, p9, rfl, hu9, hp9, b9⟩; have t9 := t8.trans (b9.mono t8.size); have k9 := k8.trans (b9.mono k8.size); have r9 := r8.trans (b9.mono r8.size); have U9 := hide hu9; have P9 := hide hp9; obtain ⟨ua9, ub9, rfl, _⟩ := hu9; obtain ⟨pa9, pb9, rfl, _⟩ := hp9)
        | (refine step_append_ts _ (by rfl) _ _ _ (by rfl) w7.heap.size 9 i0 _ 16 Try.underlying32 hi iz0 iz1 iz2 rfl _ 1 _ (by rfl) (unhide O7) _ ns (by rfl) (unhide HNV _ t7a) hr1 hr2 o7.size ?_; intro v8 w8 hown8 b8; have O8 := hide hown8; clear hown8; have r8 := o7.trans b8; have k8 := k7.trans (r8.mono k7.size); have t8 := t7.trans (r8.mono t7.size); try dsimp only))
    try simp only [Exit.then]
    have U7a := hide ((unhide U7).below r9)
    have P7a := hide ((unhide P7).below r9)
    clear O7 O8 hr1 hr2 C3 k7a t7a k7d o7 b8 k8 t8 r8 b9 U7 P7
    rcases ned_two (unhide H0) (m :: ns) with h3 | h3
    · rw [hx] at h3
      subst h3
      obtain ⟨q1, q2⟩ := ned_more (unhide H0) hx (fun x hx => List.mem_cons_of_mem _ hx)
      have HLN : Hid (∀ n ∈ ns, hasL (lineC l cs n) m = true → nedM l cs (m :: ns) = nedM l cs ns ∧ nedY l cs (m :: ns) = nedY l cs ns) := fun n hn hm => ned_line (unhide H0) hx hn hm
      rw [hM, hM3] at HLN q1
      rw [hY, hY3] at HLN
      rw [hM3, hY, hY3] at q2
      have CW1 := hide (within_any _ _ M M3 w9 (unhide U7a) (unhide U9))
      rw [q1] at CW1
      have CW2 := hide (fun u v W h1 h2 => within_any u v Y (M3 ++ Y3) W h1 h2)
      rw [q2] at CW2
      have o9 := Below.one w9 (.cells #[] 9)
      have O9 : Hid ((w9.alloc (.cells #[] 9)).ownsRow w9.heap.size 9 1 (.slice (some ⟨w9.heap.size, 0, none⟩) 0 0) 0 []) := own_nilT w9 _ (Nat.le_refl _)
      have hm3 := hml2.1
      have hy3 := hml2.2
      have ha1 : 0 + M3.length ≤ maxLen := by unfold maxLen; omega
      have ha2 : (0 + M3.length) * 16 ≤ 140737488355328 := by omega
      have ha3 : 0 + M3.length + Y3.length ≤ maxLen := by unfold maxLen; omega
      have ha4 : (0 + M3.length + Y3.length) * 16 ≤ 140737488355328 := by omega
      clear hml hml2 q1 q2 hM hY hM3 hY3 hx C1
      go_wp2_with (first
        | (go_at_call 20; refine (unhide CW2 _ _ _ ((unhide P7a).below r11) (own_ts (unhide O11) (by simp) (by simp) (by simp; omega))).mono ?_; rintro e w12 ⟨rfl, rfl⟩)
        | (at_builtin; refine wpList_append_ts _ (by rfl) _ _ 32 rfl w9.heap.size 9 i0 _ 16 Try.underlying32 hi iz0 iz1 iz2 rfl _ (0 + M3.length) _ rfl (unhide O10) _ Y3 rfl ((unhide P9).below r10) ha3 ha4 r10.size ?_; intro v11 w11 hown11 b11; have O11 := hide hown11; clear hown11; have r11 := r10.trans b11)
        | (at_builtin; refine wpList_append_ts _ (by rfl) _ _ 32 rfl w9.heap.size 9 i0 _ 16 Try.underlying32 hi iz0 iz1 iz2 rfl _ 0 _ rfl (unhide O9) _ M3 rfl ((unhide U9).below o9) ha1 ha2 o9.size ?_; intro v10 w10 hown10 b10; have O10 := hide hown10; clear hown10; have r10 := o9.trans b10)
        | (go_at_call 20; refine (unhide CW1).mono ?_; clear CW1; rintro e w10 ⟨rfl, rfl⟩))
      have t11 := t9.trans (r11.mono t9.size)
      have k11 := k9.trans (r11.mono k9.size)
      have U11 := hide ((unhide U9).below r11)
      have P11 := hide ((unhide P9).below r11)
      have M11 := hide ((unhide U7a).below r11)
      have Y11 := hide ((unhide P7a).below r11)
      clear O9 O10 O11 CW2 o9 b10 b11 r10 ha1 ha2 ha3 ha4 U9 P9 U7a P7a r9
      go_loopw [16] (fun vi wr => ∃ k : Nat, k ≤ ns.length ∧ vi = .int .i64 (k : Int) ∧ Below w11.heap.size w11 wr) (fun i _ => ns.length - (intOf i).toNat)
      case atStart => exact ⟨0, Nat.zero_le _, rfl, Below.refl _ _⟩
      case round =>
        obtain ⟨k, hk, rfl, hd⟩ := hrel
        have hds := hd.size
        have td := t11.trans (hd.mono t11.size)
        have kd := k11.trans (hd.mono k11.size)
        by_cases hlt : k < ns.length
        · have hzl : (k : Int) < (ns.length : Int) := by omega
          have hz0 : (0 : Int) ≤ (k : Int) := by omega
          obtain ⟨bn, on, rfl, hnn⟩ := unhide HNC hnp
          have qn := (td.cell (cell_lt (hnn k hlt))).trans (hnn k hlt)
          have HLK := hide (unhide HLN (ns.getD k te) (by simp [List.getD, hlt]))
          have C5 := hide (unhide CL (ns.getD k te) wr.drew td.drew)
          have hlen : (lineC l cs (ns.getD k te)).length ≤ 9223372036854775807 := by
            unfold lineC
            split
            · rename_i h
              have := okC_12 (chkC_ok h).2
              have := linC_len cs (ns.getD k te)
              rw [List.length_map]
              omega
            · simp
          have kdd : Below wr.heap.size wr wr.drew := (Below.refl _ wr).drew
          have HSK : Hid (∀ W, Below wr.heap.size wr W → W.cell? ⟨w.heap.size, 0, none⟩ = some (.slice aa l.length ca) ∧ W.cell? ⟨w.heap.size, 1, none⟩ = some (.slice ac cs.length cc) ∧ W.cell? ⟨bn, on + k, none⟩ = some (.string (ns.getD k te))) := fun W h => ⟨(unhide HSW W (kd.trans (h.mono kd.size))).1, (unhide HSW W (kd.trans (h.mono kd.size))).2, (h.cell (cell_lt qn)).trans qn⟩
          clear hnn
          generalize lineC l cs (ns.getD k te) = L at *
          generalize ns.getD k te = n at *
          cases hq : hasL L m
          · have CH := hide (fun u W (h : TsV W u L) => rhas_any u L m W h)
            rw [hq] at CH
            clear hq HLK
            go_wp2
            refine wp_region_held_drew (S := fun W => W.cell? ⟨w.heap.size, 0, none⟩ = some (.slice aa l.length ca) ∧ W.cell? ⟨w.heap.size, 1, none⟩ = some (.slice ac cs.length cc) ∧ W.cell? ⟨bn, on + k, none⟩ = some (.string n)) (by kernel_rfl) (unhide HSK _ kdd) (fun hHeld => ?_)
            refine take_on (i := 0) (d := 105) (v := .agg #[.slice aa l.length ca, .slice ac cs.length cc]) rfl rfl (by kernel_rfl) (by kernel_rfl) (by kernel_rfl) (fun _ _ _ h => h) (by rfl) (fun W hW => (by (try dsimp only at hW); go_simp)) hHeld ?_
            simp only [Act.put, List.setIfInBounds_toArray, List.set_cons_zero, List.set_cons_succ]
            refine take_on (i := 1) (d := 106) (v := .slice (some ⟨bn, on, none⟩) ns.length cn) rfl rfl (by kernel_rfl) (by kernel_rfl) (by kernel_rfl) (fun _ _ _ h => h) (by rfl) (fun W hW => (by (try dsimp only at hW); go_simp)) hHeld ?_
            simp only [Act.put, List.setIfInBounds_toArray, List.set_cons_zero, List.set_cons_succ]
            refine take_on (i := 2) (d := 107) (v := .int .i64 (k : Int)) rfl rfl (by kernel_rfl) (by kernel_rfl) (by kernel_rfl) (fun _ _ _ h => h) (by rfl) (fun W hW => (by (try dsimp only at hW); go_simp)) hHeld ?_
            simp only [Act.put, List.setIfInBounds_toArray, List.set_cons_zero, List.set_cons_succ]
            refine take_on (i := 3) (d := 108) (v := .pointer (some ⟨bn, on + k, none⟩)) rfl rfl (by kernel_rfl) (by kernel_rfl) (by kernel_rfl) (fun _ _ _ h => h) (by rfl) (fun W hW => (by (try dsimp only at hW); go_simp)) hHeld ?_
            simp only [Act.put, List.setIfInBounds_toArray, List.set_cons_zero, List.set_cons_succ]
            refine take_on (i := 4) (d := 109) (v := .string n) rfl rfl (by kernel_rfl) (by kernel_rfl) (by kernel_rfl) (fun _ _ _ h => h) (by rfl) (fun W hW => (by (try dsimp only at hW); go_simp)) hHeld ?_
            simp only [Act.put, List.setIfInBounds_toArray, List.set_cons_zero, List.set_cons_succ]
            refine take_on (i := 6) (d := 111) (v := .string m) rfl rfl (by kernel_rfl) (by kernel_rfl) (by kernel_rfl) (fun _ _ _ h => h) (by rfl) (fun W hW => (by (try dsimp only at hW); go_simp)) hHeld ?_
            simp only [Act.put, List.setIfInBounds_toArray, List.set_cons_zero, List.set_cons_succ]
            refine wpAnyH_ready (rs := [5]) (by kernel_rfl) (by simp) ?_
            refine AllReadyH.cons (o := _) rfl (fun K hK => ?_) AllReadyH.nil
            go_simp
            go_at_call 13; refine (unhide C5).mono ?_; rintro e w13 ⟨u13, rfl, hu13, b13⟩; have r13 := kdd.trans (b13.mono kdd.size); have U13 := hide hu13; clear hu13
            clear hHeld
            refine hK.out _ _ (unhide HSK _ r13) (fun hHeld => ?_)
            clear hK K
            (try simp only [Act.put, List.setIfInBounds_toArray, List.set_cons_zero, List.set_cons_succ])
            refine wpAnyH_ready (rs := [7]) (by kernel_rfl) (by simp) ?_
            refine AllReadyH.cons (o := _) rfl (fun K hK => ?_) AllReadyH.nil
            go_simp
            go_at_call 21; refine (unhide CH _ _ (unhide U13)).mono ?_; rintro e w14 ⟨rfl, rfl⟩
            clear hHeld
            refine hK.out _ _ (unhide HSK _ r13) (fun hHeld => ?_)
            clear hK K
            (try simp only [Act.put, List.setIfInBounds_toArray, List.set_cons_zero, List.set_cons_succ])
            refine take_on (i := 8) (d := 113) (v := .bool false) rfl rfl (by kernel_rfl) (by kernel_rfl) (by kernel_rfl) (fun _ _ _ h => h) (by rfl) (fun W hW => (by (try dsimp only at hW); go_simp)) hHeld ?_
            simp only [Act.put, List.setIfInBounds_toArray, List.set_cons_zero, List.set_cons_succ]
            refine take_off (i := 9) (d := 114) rfl rfl (by kernel_rfl) (by kernel_rfl) (by kernel_rfl) (fun _ _ _ h => h) (by rfl) hHeld ?_
            simp only [Act.put, List.setIfInBounds_toArray, List.set_cons_zero, List.set_cons_succ]
            refine take_off (i := 10) (d := 115) rfl rfl (by kernel_rfl) (by kernel_rfl) (by kernel_rfl) (fun _ _ _ h => h) (by rfl) hHeld ?_
            simp only [Act.put, List.setIfInBounds_toArray, List.set_cons_zero, List.set_cons_succ]
            refine take_off (i := 11) (d := 116) rfl rfl (by kernel_rfl) (by kernel_rfl) (by kernel_rfl) (fun _ _ _ h => h) (by rfl) hHeld ?_
            simp only [Act.put, List.setIfInBounds_toArray, List.set_cons_zero, List.set_cons_succ]
            refine take_off (i := 12) (d := 117) rfl rfl (by kernel_rfl) (by kernel_rfl) (by kernel_rfl) (fun _ _ _ h => h) (by rfl) hHeld ?_
            simp only [Act.put, List.setIfInBounds_toArray, List.set_cons_zero, List.set_cons_succ]
            refine take_off (i := 13) (d := 118) rfl rfl (by kernel_rfl) (by kernel_rfl) (by kernel_rfl) (fun _ _ _ h => h) (by rfl) hHeld ?_
            simp only [Act.put, List.setIfInBounds_toArray, List.set_cons_zero, List.set_cons_succ]
            refine take_off (i := 14) (d := 119) rfl rfl (by kernel_rfl) (by kernel_rfl) (by kernel_rfl) (fun _ _ _ h => h) (by rfl) hHeld ?_
            simp only [Act.put, List.setIfInBounds_toArray, List.set_cons_zero, List.set_cons_succ]
            refine take_off (i := 15) (d := 120) rfl rfl (by kernel_rfl) (by kernel_rfl) (by kernel_rfl) (fun _ _ _ h => h) (by rfl) hHeld ?_
            simp only [Act.put, List.setIfInBounds_toArray, List.set_cons_zero, List.set_cons_succ]
            refine take_off (i := 16) (d := 121) rfl rfl (by kernel_rfl) (by kernel_rfl) (by kernel_rfl) (fun _ _ _ h => h) (by rfl) hHeld ?_
            simp only [Act.put, List.setIfInBounds_toArray, List.set_cons_zero, List.set_cons_succ]
            refine take_off (i := 17) (d := 122) rfl rfl (by kernel_rfl) (by kernel_rfl) (by kernel_rfl) (fun _ _ _ h => h) (by rfl) hHeld ?_
            simp only [Act.put, List.setIfInBounds_toArray, List.set_cons_zero, List.set_cons_succ]
            refine take_on (i := 18) (d := 123) (v := .bool false) rfl rfl (by kernel_rfl) (by kernel_rfl) (by kernel_rfl) (fun _ _ _ h => h) (by rfl) (fun W hW => (by (try dsimp only at hW); go_simp)) hHeld ?_
            simp only [Act.put, List.setIfInBounds_toArray, List.set_cons_zero, List.set_cons_succ]
            refine wpAnyH_done (by kernel_rfl) ?_ _
            try simp only [Exit.then]
            go_wp2
            go_roundw
            case rel => exact ⟨k + 1, by omega, by go_num, hd.trans (r13.mono hds)⟩
            case measure => simp [intOf]; omega
          · have CH := hide (fun u W (h : TsV W u L) => rhas_any u L m W h)
            rw [hq] at CH
            obtain ⟨e1, e2⟩ := unhide HLK hq
            have MX := hide ((unhide M11).below hd)
            have YX := hide ((unhide Y11).below hd)
            have UX : Hid (TsV wr (.slice ua9 M3.length ub9) M) := by
              have := (unhide U11).below hd
              rwa [e1] at this ⊢
            have PX : Hid (TsV wr (.slice pa9 Y3.length pb9) Y) := by
              have := (unhide P11).below hd
              rwa [e2] at this ⊢
            clear hq HLK e1 e2
            go_wp2
            go_region_held3 (fun W => W.cell? ⟨w.heap.size, 0, none⟩ = some (.slice aa l.length ca) ∧ W.cell? ⟨w.heap.size, 1, none⟩ = some (.slice ac cs.length cc) ∧ W.cell? ⟨bn, on + k, none⟩ = some (.string n)) (first | with_reducible exact unhide HSK _ kdd | with_reducible exact unhide HSK _ r16 | with_reducible exact unhide HSK _ r15 | with_reducible exact unhide HSK _ r13 | assumption | go_keep)
              (first
                | (go_at_call 12; refine (unhide CSM Y _ _ _ ((unhide PX).below r15) ((unhide YX).below r15)).mono ?_; rintro e w16 ⟨rfl, b16⟩; have r16 := r15.trans (b16.mono r15.size))
                | (go_at_call 12; refine (unhide CSM M _ _ _ ((unhide UX).below r13) ((unhide MX).below r13)).mono ?_; rintro e w15 ⟨rfl, b15⟩; have r15 := r13.trans (b15.mono r13.size))
                | (go_at_call 21; refine (unhide CH _ _ (unhide U13)).mono ?_; rintro e w14 ⟨rfl, rfl⟩)
                | (go_at_call 13; refine (unhide C5).mono ?_; rintro e w13 ⟨u13, rfl, hu13, b13⟩; have r13 := kdd.trans (b13.mono kdd.size); have U13 := hide hu13; clear hu13))
            all_goals
              try simp only [Exit.then]
              go_wp2
              go_roundw
              case rel => exact ⟨k + 1, by omega, by go_num, hd.trans (r16.mono hds)⟩
              case measure => simp [intOf]; omega
        · have hzl : ¬ (k : Int) < (ns.length : Int) := by omega
          go_wp2_with (go_at_call 9; refine (unhide CA _ td).mono ?_; rintro e w20 ⟨rfl, b20⟩; have t20 := td.trans (b20.mono td.size))
          go_ret
          exact ⟨rfl, t20⟩
    · rw [hx] at h3
      subst h3
      clear HNC CL U9 P9 U7a P7a
      go_wp2_with (go_at_call 9; refine (unhide CA _ t9).mono ?_; rintro e w10 ⟨rfl, b10⟩; have t10 := t9.trans (b10.mono t9.size))
      go_ret
      exact ⟨rfl, t10⟩
  · have e1 : nedM l cs ns = [] := by unfold nedM; rw [if_neg h0]
    have e2 : nedY l cs ns = [] := by unfold nedY; rw [if_neg h0]
    have hne : (nedE l cs ns != 0) = true := by simpa using h0
    rw [e1, e2] at CN
    clear h0 e1 e2 C1 CL CT CSM
    generalize nedE l cs ns = x at *
    go_enter Try.func6, Try.ntmps6
    go_wp2_with (first
      | (go_at_call 9; refine (unhide CA _ t2).mono ?_; rintro e w3 ⟨rfl, b3⟩; have t3 := t2.trans (b3.mono t2.size))
      | (go_at_call 15; refine (unhide CN _ t1).mono ?_; rintro e w2 ⟨u2, p2, rfl, hu2, hp2, b2⟩; have t2 := t1.trans (b2.mono t1.size); obtain ⟨ua2, ub2, rfl, _⟩ := hu2; obtain ⟨pa2, pb2, rfl, _⟩ := hp2)
      | (go_at_call 8; refine (unhide CF).mono ?_; rintro e w1 ⟨rfl, b1⟩; have t1 := b0.trans (b1.mono b0.size); have S1 := hide ((unhide S0).keep b1); obtain ⟨y0, y1⟩ := (unhide S1).cells))
    go_ret
    exact ⟨rfl, t3⟩
end Go.Proofs.Ytjjildpdelkejaa
