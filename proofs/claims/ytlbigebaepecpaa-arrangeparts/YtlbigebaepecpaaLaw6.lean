/- The fixed answers, and the laws ArrangeOrders, ArrangeRuns, ArrangeStable. -/
import Derived.Test.YtlbigebaepecpaaD6
import Derived.KernelRfl
namespace Go.Proofs.Ytlbigebaepecpaa
open Go.RowKit

theorem ord_aw : ordL cls Kls [97, 769, 807] = [97, 807, 769] := by kernel_rfl
theorem ordd_yes : ordered cls [97, 807, 769] = true := by kernel_rfl
theorem ordd_no : ordered cls [97, 769, 807] = false := by kernel_rfl
theorem runs_aw : runsL cls [769, 97, 807, 98] = [[769], [97, 807], [98]] := by kernel_rfl

theorem am1 (W : World) (h : Ly W) : Calls Try.prog 9 #[.slice (some ⟨W.heap.size, 0, none⟩) 3 3] (W.alloc (.cells #[.int .i32 97, .int .i32 769, .int .i32 807] 21)) fun e w' => ∃ v, e = .returned v ∧ Row w' v [97, 807, 769] ∧ Below W.heap.size W w' :=
  (aord_any _ [97, 769, 807] _ (h.keep (Below.one _ _)) (by decide) (row_new W [97, 769, 807] _ _ rfl)).mono fun _ _ ⟨v, he, hr, hb⟩ => ⟨v, he, by rw [ord_aw] at hr; exact hr, below_new hb⟩
theorem am2 (W : World) (h : Ly W) : Calls Try.prog 13 #[.slice (some ⟨W.heap.size, 0, none⟩) 4 4] (W.alloc (.cells #[.int .i32 769, .int .i32 97, .int .i32 807, .int .i32 98] 21)) fun e w' => ∃ b o c a d, e = .returned (.slice (some ⟨b, o, none⟩) 3 c) ∧ w'.cell? ⟨b, o + 1, none⟩ = some (.slice a 2 d) ∧ Below W.heap.size W w' :=
  (aruns_any _ [769, 97, 807, 98] _ (h.keep (Below.one _ _)) (by decide) (row_new W [769, 97, 807, 98] _ _ rfl)).mono fun _ _ ⟨v, he, hr, hb⟩ => by
    rw [runs_aw] at hr
    obtain ⟨a, c, rfl, hc⟩ := hr
    obtain ⟨b, o, rfl, hcc⟩ := hc (by simp)
    obtain ⟨g, o2, d, h1, _⟩ := hcc 1 (by simp)
    exact ⟨b, o, c, some ⟨g, o2, none⟩, d, he, h1, below_new hb⟩
theorem am3 (W : World) (v : Value) (h : Row W v [97, 807, 769]) : Calls Try.prog 8 #[v, .slice (some ⟨W.heap.size, 0, none⟩) 3 3] (W.alloc (.cells #[.int .i32 97, .int .i32 807, .int .i32 769] 21)) fun e w' => e = .returned (.bool true) ∧ Below W.heap.size W w' :=
  (same_any _ _ [97, 807, 769] _ (by decide) (h.below (Below.one _ _)) (row_new W [97, 807, 769] _ _ rfl)).mono fun _ _ ⟨he, hb⟩ => ⟨he, below_new hb⟩
theorem am4 (W : World) (v : Value) (h : Ly W) (hr : Row W v [97, 807, 769]) : Calls Try.prog 11 #[v] W fun e w' => e = .returned (.bool true) ∧ Below W.heap.size W w' :=
  (aordd_any v [97, 807, 769] W h (by decide) hr).mono fun _ _ ⟨he, hb⟩ => ⟨he.trans (ret_bool ordd_yes), hb⟩
theorem am5 (W : World) (h : Ly W) : Calls Try.prog 11 #[.slice (some ⟨W.heap.size, 0, none⟩) 3 3] (W.alloc (.cells #[.int .i32 97, .int .i32 769, .int .i32 807] 21)) fun e w' => e = .returned (.bool false) ∧ Below W.heap.size W w' :=
  (aordd_any _ [97, 769, 807] _ (h.keep (Below.one _ _)) (by decide) (row_new W [97, 769, 807] _ _ rfl)).mono fun _ _ ⟨he, hb⟩ => ⟨he.trans (ret_bool ordd_no), below_new hb⟩

set_option maxHeartbeats 1600000 in
theorem awake6 (w : World) (hL : Ly w) : Calls Try.prog 7 #[] w fun e w' => e = .returned (.bool true) ∧ Below w.heap.size w w' := by
  have H1 := hide am1
  have H2 := hide am2
  have H3 := hide am3
  have H4 := hide am4
  have H5 := hide am5
  go_enter Try.func7, Try.ntmps7
  go_wp2_with (first
    | (go_at_call 9; refine (unhide H1 _ hL).mono ?_; rintro e w1 ⟨v1, rfl, r1, b1⟩; have hL1 := hL.keep b1)
    | (go_at_call 13; refine (unhide H2 _ hL1).mono ?_; rintro e w2 ⟨b, o, c, a, d, rfl, k2, b2⟩; have c2 := b1.trans (b2.mono b1.size); have hL2 := hL.keep c2; have r2 := r1.below b2)
    | (go_at_call 8; refine (unhide H3 _ _ r2).mono ?_; rintro e w3 ⟨rfl, b3⟩; have c3 := c2.trans (b3.mono c2.size); have hL3 := hL.keep c3; have r3 := r2.below b3; have k3 : w3.cell? ⟨b, o + 1, none⟩ = some (.slice a 2 d) := (b3.cell (by exact cell_lt k2)).trans k2)
    | (go_at_call 11; (first
      | (refine (unhide H4 _ _ hL3 r3).mono ?_; rintro e w4 ⟨rfl, b4⟩; clear H4; have c4 := c3.trans (b4.mono c3.size); have hL4 := hL.keep c4; have k4 : w4.cell? ⟨b, o + 1, none⟩ = some (.slice a 2 d) := (b4.cell (by exact cell_lt k3)).trans k3)
      | (refine (unhide H5 _ hL4).mono ?_; rintro e w5 ⟨rfl, b5⟩; have c5 := c4.trans (b5.mono c4.size); have k5 : w5.cell? ⟨b, o + 1, none⟩ = some (.slice a 2 d) := (b5.cell (by exact cell_lt k4)).trans k4))))
  go_ret
  exact ⟨rfl, c5⟩

set_option maxHeartbeats 1600000 in
theorem orders6_law (a : Option Addr) (cap : Nat) (l : List Int) (w : World) (hL : Ly w) (hr : Row w (.slice a l.length cap) l) : Calls Try.prog 3 #[.slice a l.length cap] w fun e w' => e = .returned (.bool true) ∧ Below w.heap.size w w' := by
  have HA := hide awake6
  by_cases hlen : 400 < l.length
  · have hz : (400 : Int) < (l.length : Int) := by omega
    go_enter Try.func3, Try.ntmps3
    go_wp2_with (go_at_call 7; refine (unhide HA _ hL).mono ?_; rintro e w5 ⟨rfl, b5⟩)
    go_ret
    exact ⟨rfl, b5⟩
  · have hz : ¬ (400 : Int) < (l.length : Int) := by omega
    have ll := ord_len Kls_rise cls_in l
    have H1 := hide (fun W hW hR => aord_any (.slice a l.length cap) l W hW (by omega) hR)
    have H2 := hide (fun W hR => rorder_any (.slice a l.length cap) l W (by omega) hR)
    have S1 := hide (fun v1 v2 W => same_any v1 v2 (ordL cls Kls l) W (by omega))
    have H3 := hide (fun W hW hR => aordd_any (.slice a l.length cap) l W hW (by omega) hR)
    have H4 := hide (fun W hR => rordered_any (.slice a l.length cap) l W (by omega) hR)
    have HR := hide hr
    clear hr ll
    generalize ordL cls Kls l = z at *
    generalize ordered cls l = d at *
    go_enter Try.func3, Try.ntmps3
    go_wp2_with (first
      | (go_at_call 9; refine (unhide H1 _ hL (unhide HR)).mono ?_; rintro e w1 ⟨v1, rfl, r1, b1⟩; have hL1 := hL.keep b1; have HR1 := hide ((unhide HR).below b1))
      | (go_at_call 10; refine (unhide H2 _ (unhide HR1)).mono ?_; rintro e w2 ⟨v2, rfl, r2, b2⟩; have c2 := b1.trans (b2.mono b1.size); have r12 := r1.below b2; have r2' := r2.row; have HR2 := hide ((unhide HR1).below b2); clear r2)
      | (go_at_call 8; refine (unhide S1 _ _ _ r12 r2').mono ?_; rintro e w3 ⟨rfl, b3⟩; have c3 := c2.trans (b3.mono c2.size); have hL3 := hL.keep c3; have HR3 := hide ((unhide HR2).below b3))
      | (go_at_call 11; refine (unhide H3 _ hL3 (unhide HR3)).mono ?_; rintro e w4 ⟨rfl, b4⟩; have c4 := c3.trans (b4.mono c3.size); have HR4 := hide ((unhide HR3).below b4))
      | (go_at_call 12; refine (unhide H4 _ (unhide HR4)).mono ?_; rintro e w5 ⟨rfl, b5⟩; have c5 := c4.trans (b5.mono c4.size); have hL5 := hL.keep c5)
      | (go_at_call 7; refine (unhide HA _ hL5).mono ?_; rintro e w6 ⟨rfl, b6⟩; have c6 := c5.trans (b6.mono c5.size)))
    go_ret
    exact ⟨rfl, c6⟩

theorem ofK_takeL (c : Int → Int) (k : Int) (l : List Int) (j : Nat) : (ofK c k (l.take j)).length ≤ l.length := Nat.le_trans (ofK_len _ _ _) (by rw [List.length_take]; omega)

set_option maxHeartbeats 800000 in
theorem of_empty (k : Int) (a : Option Addr) (cap : Nat) (w : World) :
    Calls Try.prog 15 #[.slice a 0 cap, .int .i64 k] w fun e w' => ∃ v, e = .returned v ∧ Rn w.heap.size v [] w' ∧ Below w.heap.size w w' := by
  go_enter Try.func15, Try.ntmps15
  go_wp2
  refine wp_loop_rounds 1 ?_
  rw [rounds_succ]
  go_wp2
  go_ret
  exact ⟨_, rfl, Rn.nil _ _, Below.refl _ _⟩
set_option maxHeartbeats 3200000 in
theorem of_some (k : Int) (b off cap : Nat) (l : List Int) (w : World) (hlen : l.length ≤ 20000) (h0 : 0 < l.length)
    (hcell : ∀ i, i < l.length → w.cell? ⟨b, off + i, none⟩ = some (.int .i32 (l.getD i 0))) :
    Calls Try.prog 15 #[.slice (some ⟨b, off, none⟩) l.length cap, .int .i64 k] w fun e w' => ∃ v, e = .returned v ∧ Rn w.heap.size v (ofK cls k l) w' ∧ Below w.heap.size w w' := by
  obtain ⟨i0, hi, hz0, hz1, hz2⟩ := info_parts elem_info
  have HC := hide hcell
  have HCL := hide class_any
  clear hcell
  go_enter Try.func15, Try.ntmps15
  go_wp2
  go_loopw [5, 6] (fun v i wr => ∃ j : Nat, j ≤ l.length ∧ i = .int .i64 (j : Int) ∧ Rn w.heap.size v (ofK cls k (l.take j)) wr ∧ Below w.heap.size w wr) (fun _ i _ => l.length - (intOf i).toNat)
  case atStart => exact ⟨0, Nat.zero_le _, rfl, Rn.nil _ _, Below.refl _ _⟩
  case round =>
    obtain ⟨j, hj, rfl, hown, hb⟩ := hrel
    have hsz := hb.size
    by_cases hlt : j < l.length
    · have hzl : (j : Int) < (l.length : Int) := by omega
      have hz0' : (0 : Int) ≤ (j : Int) := by omega
      have g1 := unhide HC j hlt
      have k1 : wr.cell? ⟨b, off + j, none⟩ = some (.int .i32 (l.getD j 0)) := (hb.cell (by exact cell_lt g1)).trans g1
      have HT := hide (ofK_take cls k l j hlt)
      have hol := ofK_takeL cls k l j
      have HK := hide (unhide HCL (l.getD j 0))
      clear g1
      generalize l.getD j 0 = x at *
      generalize ofK cls k (l.take j) = T at *
      obtain ⟨q, hq⟩ : ∃ q, cls x = q := ⟨_, rfl⟩
      rw [hq] at HK HT
      clear hq
      by_cases hqk : q = k
      · subst hqk
        rw [if_pos rfl] at HT
        obtain ⟨a4, c4, hv4⟩ := hown.shape
        obtain ⟨N, hN⟩ : ∃ N, N = T.length := ⟨_, rfl⟩
        rw [← hN] at hv4 hol
        subst hv4
        have HN := hide hN
        have HO := hide hown
        clear hN hown
        have hm1 : N + 1 ≤ maxLen := by unfold maxLen; omega
        have hm2 : (N + 1) * 4 ≤ 140737488355328 := by omega
        go_wp2_with (first
          | (go_at_call 16; refine (unhide HK _).mono ?_; rintro e w2 ⟨rfl, g2⟩; have b2 := g2.below; have hb2 := hb.trans (b2.mono hsz); have hs2 := hb2.size; have k2 := g2.cell k1; have HO2 := hide ((unhide HO).below b2))
          | (at_builtin; refine wpList_append_lies _ rfl _ _ 22 rfl w.heap.size 21 i0 _ 1 4 Try.underlying22 hi hz0 hz1 hz2 rfl (by omega) _ N _ rfl (World.ownsRow.alloc (Rn.own (unhide HN) (unhide HO2)) _) ⟨w2.heap.size, 0, none⟩ 1 1 [.int .i32 x] rfl rfl (World.news_of_block (cs := #[.int .i32 x]) (t := 21) (fr := (0, 0)) (heap_new w2 _)) (by simp [Value.oneCell']) (by omega) hm1 hm2 (by simp; omega) (w2.heap.size + 1) (by simp) ?_; intro g9 cap9 w9 hown9 hgrow9 hat9 hlt9))
        go_roundw
        case rel =>
          refine ⟨j + 1, by omega, by go_num, ?_, (hb2.alloc (by omega) _).trans (below_own hgrow9 (by simp; omega) (own_block (Rn.own (unhide HN) (unhide HO2))))⟩
          rw [unhide HT]
          exact Rn.push (unhide HN) hown9
        case measure => simp [intOf]; omega
      · have hqz : (q == k) = false := by simpa using hqk
        rw [if_neg hqk, List.append_nil] at HT
        go_wp2_with (go_at_call 16; refine (unhide HK _).mono ?_; rintro e w2 ⟨rfl, g2⟩)
        go_roundw
        case rel => exact ⟨j + 1, by omega, by go_num, by rw [unhide HT]; exact hown.below g2.below, hb.trans (g2.below.mono hsz)⟩
        case measure => simp [intOf]; omega
    · have hzl : ¬ (j : Int) < (l.length : Int) := by omega
      obtain rfl : j = l.length := by omega
      rw [List.take_length] at hown
      obtain ⟨xa, xc, hv⟩ := hown.shape
      obtain ⟨N, hN⟩ : ∃ N, N = (ofK cls k l).length := ⟨_, rfl⟩
      rw [← hN] at hv
      clear hN
      have HO := hide hown
      clear hown
      subst hv
      go_wp2
      go_ret
      exact ⟨.slice xa N xc, rfl, unhide HO, hb⟩
theorem of_any (v : Value) (k : Int) (l : List Int) (w : World) (hlen : l.length ≤ 20000) (h : Row w v l) :
    Calls Try.prog 15 #[v, .int .i64 k] w fun e w' => ∃ v, e = .returned v ∧ Row w' v (ofK cls k l) ∧ Below w.heap.size w w' := by
  obtain ⟨a, c, rfl, h1⟩ := h
  by_cases h0 : l.length = 0
  · obtain rfl : l = [] := List.eq_nil_of_length_eq_zero h0
    exact (of_empty k a c w).mono fun _ _ ⟨v, he, hr, hb⟩ => ⟨v, he, hr.row, hb⟩
  · obtain ⟨b1, o1, rfl, k1⟩ := h1 (by omega)
    exact (of_some k b1 o1 c l w hlen (by omega) k1).mono fun _ _ ⟨v, he, hr, hb⟩ => ⟨v, he, hr.row, hb⟩

set_option maxHeartbeats 3200000 in
theorem stable6_law (a : Option Addr) (cap : Nat) (l : List Int) (k : Int) (w : World) (hL : Ly w) (hr : Row w (.slice a l.length cap) l) : Calls Try.prog 5 #[.slice a l.length cap, .int .i64 k] w fun e w' => e = .returned (.bool true) ∧ Below w.heap.size w w' := by
  have HA := hide awake6
  by_cases hlen : 400 < l.length
  · have hz : (400 : Int) < (l.length : Int) := by omega
    go_enter Try.func5, Try.ntmps5
    go_wp2_with (go_at_call 7; refine (unhide HA _ hL).mono ?_; rintro e w5 ⟨rfl, b5⟩)
    go_ret
    exact ⟨rfl, b5⟩
  · have hz : ¬ (400 : Int) < (l.length : Int) := by omega
    have ll := ord_len Kls_rise cls_in l
    have H1 := hide (fun W hW hR => aord_any (.slice a l.length cap) l W hW (by omega) hR)
    have H2 : Hid (∀ (v : Value) (W : World), Ly W → Row W v (ordL cls Kls l) → Calls Try.prog 11 #[v] W fun e w' => e = .returned (.bool true) ∧ Below W.heap.size W w') := fun v W hW hR => by
      have := aordd_any v (ordL cls Kls l) W hW (by omega) hR
      rwa [ord_ordered Kls_rise Kls_zero l] at this
    have H3 : Hid (∀ (v : Value) (W : World), Ly W → Row W v (ordL cls Kls l) → Calls Try.prog 9 #[v] W fun e w' => ∃ v, e = .returned v ∧ Row w' v (ordL cls Kls l) ∧ Below W.heap.size W w') := fun v W hW hR => by
      have := aord_any v (ordL cls Kls l) W hW (by omega) hR
      rwa [ord_again Kls_rise Kls_zero cls_in cls_nn l] at this
    have S1 := hide (fun v1 v2 W => same_any v1 v2 (ordL cls Kls l) W (by omega))
    have H4 : Hid (∀ (W : World), Ly W → Row W (.slice a l.length cap) l → Calls Try.prog 11 #[.slice a l.length cap] W fun e w' => e = .returned (.bool (decide (ordL cls Kls l = l))) ∧ Below W.heap.size W w') := fun W hW hR => by
      have := aordd_any (.slice a l.length cap) l W hW (by omega) hR
      rwa [ord_iff Kls_rise Kls_zero cls_in cls_nn l] at this
    have S2 := hide (fun v1 W h1 h2 => same_dec v1 (.slice a l.length cap) (ordL cls Kls l) l W (by omega) h1 h2)
    have H5 : Hid (∀ (v : Value) (W : World), Row W v (ordL cls Kls l) → Calls Try.prog 15 #[v, .int .i64 k] W fun e w' => ∃ v, e = .returned v ∧ Row w' v (ofK cls k l) ∧ Below W.heap.size W w') := fun v W hR => by
      have := of_any v k (ordL cls Kls l) W (by omega) hR
      rwa [ofK_ord Kls_rise cls_in k l] at this
    have H6 := hide (fun W hR => of_any (.slice a l.length cap) k l W (by omega) hR)
    have S3 := hide (fun v1 v2 W => same_any v1 v2 (ofK cls k l) W (Nat.le_trans (ofK_len _ _ _) (by omega)))
    have HR := hide hr
    have ll' : (ordL cls Kls l).length = l.length := ll
    have HLL := hide ll'
    clear hr ll ll'
    generalize decide (ordL cls Kls l = l) = d at *
    generalize ordL cls Kls l = z at *
    generalize ofK cls k l = y at *
    go_enter Try.func5, Try.ntmps5
    go_wp2_with (first
      | (go_at_call 9; (first
        | (refine (unhide H1 _ hL (unhide HR)).mono ?_; rintro e w1 ⟨v1, rfl, r1, b1⟩; clear H1; have hL1 := hL.keep b1; have HR1 := hide ((unhide HR).below b1); have R1 := hide r1; obtain ⟨xa, xc, hv, _⟩ := r1; rw [unhide HLL] at hv; subst hv)
        | (refine (unhide H3 _ _ hL2 (unhide R2)).mono ?_; rintro e w3 ⟨v3, rfl, r3, b3⟩; clear H3; have c3 := c2.trans (b3.mono c2.size); have hL3 := hL.keep c3; have HR3 := hide ((unhide HR2).below b3); have R3 := hide ((unhide R2).below b3))))
      | (go_at_call 11; (first
        | (refine (unhide H2 _ _ hL1 (unhide R1)).mono ?_; rintro e w2 ⟨rfl, b2⟩; clear H2; have c2 := b1.trans (b2.mono b1.size); have hL2 := hL.keep c2; have HR2 := hide ((unhide HR1).below b2); have R2 := hide ((unhide R1).below b2))
        | (refine (unhide H4 _ hL4 (unhide HR4)).mono ?_; rintro e w5 ⟨rfl, b5⟩; clear H4; have c5 := c4.trans (b5.mono c4.size); have hL5 := hL.keep c5; have HR5 := hide ((unhide HR4).below b5); have R5 := hide ((unhide R4).below b5))))
      | (go_at_call 8; (first
        | (refine (unhide S1 _ _ _ r3 (unhide R3)).mono ?_; rintro e w4 ⟨rfl, b4⟩; clear S1; have c4 := c3.trans (b4.mono c3.size); have hL4 := hL.keep c4; have HR4 := hide ((unhide HR3).below b4); have R4 := hide ((unhide R3).below b4))
        | (refine (unhide S2 _ _ (unhide R5) (unhide HR5)).mono ?_; rintro e w6 ⟨rfl, b6⟩; clear S2; have c6 := c5.trans (b6.mono c5.size); have hL6 := hL.keep c6; have HR6 := hide ((unhide HR5).below b6); have R6 := hide ((unhide R5).below b6))
        | (refine (unhide S3 _ _ _ r78 r8).mono ?_; rintro e w9 ⟨rfl, b9⟩; have c9 := c8.trans (b9.mono c8.size); have hL9 := hL.keep c9)))
      | (go_at_call 15; (first
        | (refine (unhide H5 _ _ (unhide R6)).mono ?_; rintro e w7 ⟨v7, rfl, r7, b7⟩; clear H5; have c7 := c6.trans (b7.mono c6.size); have HR7 := hide ((unhide HR6).below b7))
        | (refine (unhide H6 _ (unhide HR7)).mono ?_; rintro e w8 ⟨v8, rfl, r8, b8⟩; have c8 := c7.trans (b8.mono c7.size); have r78 := r7.below b8)))
      | (go_at_call 7; refine (unhide HA _ hL9).mono ?_; rintro e w10 ⟨rfl, b10⟩; have c10 := c9.trans (b10.mono c9.size)))
    go_ret
    exact ⟨rfl, c10⟩
end Go.Proofs.Ytlbigebaepecpaa
