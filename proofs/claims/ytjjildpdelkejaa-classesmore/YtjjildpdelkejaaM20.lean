/- The landed fitNames and mayBe of layer 21. -/
import Derived.Test.YtjjildpdelkejaaM15
import Derived.Test.YtjjildpdelkejaaM11
namespace Go.Proofs.Ytjjildpdelkejaa
open Go.RowKit

theorem risTo_at {L : List ByteArray} {n k : Nat} (h : risTo L n = true) (hk : k < n) : risAt L k = true := by
  induction n with
  | zero => omega
  | succ n ih =>
    simp only [risTo, Bool.and_eq_true] at h
    rcases Nat.lt_or_ge k n with h1 | h1
    · exact ih h.1 h1
    · obtain rfl : k = n := by omega
      exact h.2
theorem fitN_bad {l : List Ty} {L : List ByteArray} {k : Nat} (hk : k < L.length) (h : risAt L k = false) : fitN l L = false := by
  unfold fitN
  cases hq : risTo L L.length
  · rw [Bool.and_false]
  · rw [risTo_at hq hk] at h; cases h
set_option maxHeartbeats 3200000 in
theorem fitn_any (v va : Value) (l : List Ty) (L : List ByteArray) (w : World) (hV : TsV w v L) (hT : TysV w va l) : Calls Try.prog 49 #[v, .func (.func 38) #[va] #[]] w fun e w' => e = .returned (.bool (fitN l L)) ∧ Below w.heap.size w w' := by
  have mx : Try.prog.follows .mixedOrders = true := by kernel_rfl
  have C := hide (every_any 38 #[va] #[] (hasN l) v L w has_eg hV (fun W x h => has_any va l x W (hT.below h)))
  have HBD : Hid (∀ k, k < L.length → risAt L k = false → fitN l L = false) := fun k hk h => fitN_bad hk h
  have HF : Hid (fitN l L = (decide (L.length ≤ 8) && (L.all fun n => hasN l n) && risTo L L.length)) := rfl
  have HR1 : Hid (risTo L 1 = true) := rfl
  obtain ⟨a, cap, rfl, hn, hc⟩ := hV
  obtain ⟨ta, tc, rfl⟩ := hT.shape
  have HC := hide hc
  have hn2 : (L.length : Int) ≤ 9223372036854775807 := by omega
  clear hc hT
  generalize fitN l L = R at *
  generalize (L.all fun n => hasN l n) = z at *
  by_cases h8 : L.length ≤ 8
  · rw [decide_eq_true h8, Bool.true_and] at HF
    have z8 : ¬ (8 : Int) < (L.length : Int) := by omega
    have z8' : decide ((L.length : Int) > 8) = false := decide_eq_false (by omega)
    cases z
    · rw [Bool.false_and] at HF
      go_enter Try.func49, Try.ntmps49
      go_wp2_with (go_at_call 37; refine (unhide C).mono ?_; rintro e w2 ⟨rfl, b2⟩)
      go_ret
      exact ⟨ret_bool (unhide HF).symm, b2⟩
    · rw [Bool.true_and] at HF
      go_enter Try.func49, Try.ntmps49
      go_wp2_with (go_at_call 37; refine (unhide C).mono ?_; rintro e w2 ⟨rfl, b2⟩)
      clear C
      go_loopw [5] (fun i wr => ∃ k : Nat, 1 ≤ k ∧ k ≤ L.length + 1 ∧ i = .int .i64 (k : Int) ∧ Hid (k ≤ L.length ∨ k = 1) ∧ Hid (risTo L k = true) ∧ Below w.heap.size w wr) (fun i _ => L.length - (intOf i).toNat)
      case atStart => exact ⟨1, Nat.le_refl _, by omega, rfl, .inr rfl, unhide HR1, b2⟩
      case round =>
        obtain ⟨k, hk1, hk, rfl, HKL, HK, hb⟩ := hrel
        have hsz := hb.size
        by_cases hlt : k < L.length
        · have hzl : (k : Int) < (L.length : Int) := by omega
          have hz0 : (0 : Int) ≤ (k : Int) := by omega
          obtain ⟨b, off, rfl, hcc⟩ := unhide HC (by omega)
          obtain ⟨j, hj⟩ : ∃ j, j = k - 1 := ⟨_, rfl⟩
          have q0 := cell_bb ((hb.cell (cell_lt (hcc k hlt))).trans (hcc k hlt))
          have q1 := cell_bb ((hb.cell (cell_lt (hcc j (by omega)))).trans (hcc j (by omega)))
          have HAT : Hid (risAt L k = lsT (L.getD j te) (L.getD k te)) := by show _ = _; unfold risAt; rw [decide_eq_false (by omega), Bool.false_or, ← hj]
          have HN := hide (unhide HBD k hlt)
          have HS : Hid (risAt L k = true → risTo L (k + 1) = true) := fun h => by rw [risTo, unhide HK, h]; rfl
          have wj : IntKind.i64.wrap ((k : Int) - 1) = (j : Int) := by rw [IntKind.wrap_i64]; omega
          have wj2 : (k : Int) - 1 = (j : Int) := by omega
          have hj0 : (0 : Int) ≤ (j : Int) := by omega
          have hj1 : (j : Int) < (L.length : Int) := by omega
          clear hcc HC HK HBD HF HR1 hj
          generalize risAt L k = at' at *
          generalize L.getD k te = y at *
          generalize L.getD j te = x at *
          have hls : Op.bytesLess x.toList y.toList = lsT x y := rfl
          cases hq : lsT x y <;> rw [hq] at hls HAT
          · have HE := hide (unhide HN (unhide HAT))
            clear HN HS HAT hq HKL
            go_wp2
            refine wp_region_below (by first | exact mx | assumption) (by kernel_rfl) ?_
            intro nebb
            repeat (go_big_quiet_step (fail))
            refine wpQuiet_nil ?_
            intro _ hw'
            obtain ⟨pq, hw''⟩ := hw'
            subst hw''
            have bq := pq.b
            generalize pq.W = wq at *
            go_wp2
            go_ret
            exact ⟨ret_bool (unhide HE).symm, hb.trans (bq.mono hsz)⟩
          · have HS2 := hide (unhide HS (unhide HAT))
            clear HN HS HAT hq HKL
            go_wp2
            refine wp_region_below (by first | exact mx | assumption) (by kernel_rfl) ?_
            intro nebb
            repeat (go_big_quiet_step (fail))
            refine wpQuiet_nil ?_
            intro _ hw'
            obtain ⟨pq, hw''⟩ := hw'
            subst hw''
            have bq := pq.b
            generalize pq.W = wq at *
            go_wp2
            go_roundw
            case rel => exact ⟨k + 1, by omega, by omega, by go_num, .inl (by omega), unhide HS2, hb.trans (bq.mono hsz)⟩
            case measure => simp [intOf]; omega
        · have hzl : ¬ (k : Int) < (L.length : Int) := by omega
          have HE : Hid (R = true) := by
            show _ = _
            rw [unhide HF]
            rcases Nat.eq_zero_or_pos L.length with h0 | h0
            · rw [h0]; rfl
            · have : k = L.length := by rcases unhide HKL with h | h <;> omega
              rw [← this]
              exact unhide HK
          clear HK HC HF HKL HBD
          go_wp2
          go_ret
          exact ⟨ret_bool (unhide HE).symm, hb⟩
  · rw [decide_eq_false h8, Bool.false_and, Bool.false_and] at HF
    have z8 : (8 : Int) < (L.length : Int) := by omega
    have z8' : decide ((L.length : Int) > 8) = true := decide_eq_true (by omega)
    clear C
    go_enter Try.func49, Try.ntmps49
    go_wp2
    go_ret
    exact ⟨ret_bool (unhide HF).symm, Below.refl _ _⟩
set_option maxHeartbeats 12800000 in
theorem cmay_any (va vc : Value) (l : List Ty) (cs : List Cl) (w : World) (hk : okT l = true) (hT : TysV w va l) (hC : ClsV w vc cs) : Calls Try.prog 26 #[.agg #[va, vc]] w fun e w' => e = .returned (.bool (okC l cs)) ∧ Below w.heap.size w w' := by
  have mx : Try.prog.follows .mixedOrders = true := by kernel_rfl
  have hmf : ∀ (fn : Fn) (first cap : Array Value) (w : World), (Instr.makeFunc fn first cap).run Try.prog w = .ok (.func fn first cap) w := fun _ _ _ _ => rfl
  have HC := hide hC
  have CN := hide (fun v L W (h : Below w.heap.size w W) (hV : TsV W v L) => fitn_any v va l L W hV (hT.below h))
  have CE := hide (fun vm vy c W (h : Below w.heap.size w W) (hM : TsV W vm c.mus) (hY : TsV W vy c.may) => cends_any vc vm vy cs c W (hC.below h) hM hY)
  have b0 := Below.one w (.cells #[va, vc] 25)
  obtain ⟨aa, ca, rfl⟩ := hT.shape
  obtain ⟨ac, cc, rfl, hcl, _⟩ := hC
  have S0 : Hid (Bs w.heap.size (.slice aa l.length ca) (.slice ac cs.length cc) (w.alloc (.cells #[.slice aa l.length ca, .slice ac cs.length cc] 25))) := heap_new w _
  have hn2 : (cs.length : Int) ≤ 9223372036854775807 := by omega
  obtain ⟨s0, s1⟩ := (unhide S0).cells
  clear hT
  by_cases h12 : cs.length ≤ 12
  · have z12 : ¬ (12 : Int) < (cs.length : Int) := by omega
    have H1 : Hid (∀ i, i < cs.length → fstC l cs i = false → okC l cs = false) := fun i hi h => okC_bad1 hk hi h
    have H2 : Hid (∀ i, i < cs.length → upE cs cs.length (cs.getD i cl0) = false → okC l cs = false) := fun i hi h => okC_bad2 hk hi h
    have HG : Hid ((∀ i, i < cs.length → fstC l cs i = true) → (∀ i, i < cs.length → upE cs cs.length (cs.getD i cl0) = true) → okC l cs = true) := fun h1 h2 => okC_good hk h12 h1 h2
    clear h12 hk
    generalize okC l cs = R at *
    go_enter Try.func26, Try.ntmps26
    go_wp2
    go_loopw [18] (fun vi wr => ∃ k : Nat, k ≤ cs.length ∧ vi = .int .i64 (k : Int) ∧ Hid (∀ j, j < k → fstC l cs j = true) ∧ Hid (Bs w.heap.size (.slice aa l.length ca) (.slice ac cs.length cc) wr) ∧ Below w.heap.size w wr) (fun i _ => cs.length - (intOf i).toNat)
    case atStart => exact ⟨0, Nat.zero_le _, rfl, fun j hj => absurd hj (Nat.not_lt_zero _), unhide S0, b0⟩
    case round =>
      clear s0 s1 S0
      obtain ⟨k, hk, rfl, HK, HS, hb⟩ := hrel
      have hsz := hb.size
      obtain ⟨s0, s1⟩ := (unhide HS).cells
      by_cases hlt : k < cs.length
      · have hzl : (k : Int) < (cs.length : Int) := by omega
        have hz0 : (0 : Int) ≤ (k : Int) := by omega
        obtain ⟨ac', cc', hvv, hn9, hcc⟩ := (unhide HC).below hb
        cases hvv
        obtain ⟨b, off, rfl, hce⟩ := hcc (by omega)
        obtain ⟨d0, d1, d2, ⟨vm, d3, hM⟩, ⟨vy, d4, hY⟩⟩ := hce k hlt
        have HFS : Hid (fstC l cs k = ((wrdB (nums (cs.getD k cl0).nam) && (decide (k = 0) || lsT (cs.getD (k - 1) cl0).nam (cs.getD k cl0).nam)) && (fitN l (cs.getD k cl0).mus && fitN l (cs.getD k cl0).may))) := rfl
        have HN := hide (unhide H1 k hlt)
        have HX : Hid (fstC l cs k = true → ∀ j, j < k + 1 → fstC l cs j = true) := fun h j hj => by
          by_cases e : j = k
          · rw [e]; exact h
          · exact unhide HK j (by omega)
        have HPV : Hid (∀ j, j < cs.length → wr.cell? ⟨b, off + j * 5, none⟩ = some (.string (cs.getD j cl0).nam)) := fun j hj => (hce j hj).1
        clear hcc hce hn9 H1 H2 HG HK CE
        generalize fstC l cs k = fs at *
        generalize cs.getD k cl0 = y at *
        have CW := hide (fun W => word_any y.nam W)
        have o1 : Below wr.heap.size wr (wr.alloc (.cells #[.string y.nam, .string y.abv, .bool y.bar, vm, vy] 49)) := Below.one wr _
        have hb1 := hb.trans (o1.mono hsz)
        have HM1 := hide (hM.below o1)
        have HY1 := hide (hY.below o1)
        obtain ⟨am, cm, rfl, _⟩ := hM
        obtain ⟨ay, cy, rfl, _⟩ := hY
        have HX1 : Hid (Bc wr.heap.size y (.slice am y.mus.length cm) (.slice ay y.may.length cy) (wr.alloc (.cells #[.string y.nam, .string y.abv, .bool y.bar, .slice am y.mus.length cm, .slice ay y.may.length cy] 49))) := heap_new wr _
        have HS1 := hide ((unhide HS).keep o1)
        have c0 := cell_bb (unhide HX1).cells.1
        have c3 := cell_bb (unhide HX1).cells.2.2.2.1
        have c4 := cell_bb (unhide HX1).cells.2.2.2.2
        have t1 := cell_bb (unhide HS1).cells.2
        obtain ⟨j, hj⟩ : ∃ j, j = k - 1 := ⟨_, rfl⟩
        rw [← hj] at HFS
        obtain ⟨p, hp⟩ : ∃ p, p = wrdB (nums y.nam) := ⟨_, rfl⟩
        rw [← hp] at HFS CW
        clear hp
        cases p
        · have HR : Hid (false = R) := (unhide HN (by rw [unhide HFS]; simp)).symm
          clear HFS HN HX HPV CN
          go_wp2
          refine wp_region_below (by first | exact mx | assumption) (by kernel_rfl) ?_
          intro nebb
          repeat (go_big_quiet_step ((go_at_call 48; exact callsBB ((unhide CW _).mono fun _ _ h => ⟨h.1, by rw [← h.2]; exact Below.refl _ _⟩))))
          refine wpQuiet_nil ?_
          intro _ hw'
          obtain ⟨pq, hw''⟩ := hw'
          subst hw''
          have bq := pq.b
          generalize pq.W = wq at *
          go_wp2
          go_ret
          exact ⟨ret_bool (unhide HR), hb1.trans (bq.mono hb1.size)⟩
        by_cases k0 : k = 0
        · have zk : decide ((k : Int) > 0) = false := decide_eq_false (by omega)
          have zk2 : decide ((0 : Int) < (k : Int)) = false := decide_eq_false (by omega)
          have zk3 : decide (0 < k) = false := decide_eq_false (by omega)
          rw [decide_eq_true k0, Bool.true_or, Bool.true_and, Bool.true_and] at HFS
          clear HPV k0 hj
          go_wp2
          refine wp_region_below (by first | exact mx | assumption) (by kernel_rfl) ?_
          intro nebb
          repeat (go_big_quiet_step ((go_at_call 48; exact callsBB ((unhide CW _).mono fun _ _ h => ⟨h.1, by rw [← h.2]; exact Below.refl _ _⟩))))
          refine wpQuiet_nil ?_
          intro _ hw'
          obtain ⟨pq, hw''⟩ := hw'
          subst hw''
          have bq := pq.b
          generalize pq.W = wq at *
          have tq := hb1.trans (bq.mono hb1.size)
          have HMq := hide ((unhide HM1).below bq)
          have HYq := hide ((unhide HY1).below bq)
          have HSq := hide ((unhide HS1).keep bq)
          have HXq := hide ((unhide HX1).keep bq)
          obtain ⟨e0, e1, e2, e3, e4⟩ := (unhide HXq).cells
          have C1 := hide (unhide CN _ _ _ tq (unhide HMq))
          have C2 := hide (fun W (h : Below wq.heap.size wq W) => unhide CN _ _ W (tq.trans (h.mono tq.size)) ((unhide HYq).below h))
          clear CN CW HMq HYq
          generalize fitN l y.mus = m1 at *
          generalize fitN l y.may = m2 at *
          cases m1
          · have HR : Hid (false = R) := (unhide HN (by rw [unhide HFS]; simp)).symm
            clear HFS HN HX
            go_wp2_with (go_at_call 49; refine (unhide C1).mono ?_; rintro e w5 ⟨rfl, b5⟩; have t5 := tq.trans (b5.mono tq.size))
            go_ret
            exact ⟨ret_bool (unhide HR), t5⟩
          cases m2
          · have HR : Hid (false = R) := (unhide HN (by rw [unhide HFS]; simp)).symm
            clear HFS HN HX
            go_wp2_with (first
              | (go_at_call 49; refine (unhide C2 _ b5).mono ?_; rintro e w6 ⟨rfl, b6⟩; have t6 := t5.trans (b6.mono t5.size))
              | (go_at_call 49; refine (unhide C1).mono ?_; rintro e w5 ⟨rfl, b5⟩; have t5 := tq.trans (b5.mono tq.size); have HX5 := hide ((unhide HXq).keep b5); have c5 := (unhide HX5).cells.2.2.2.2))
            go_ret
            exact ⟨ret_bool (unhide HR), t6⟩
          have HX2 := hide (unhide HX (by rw [unhide HFS]; simp))
          clear HFS HN HX
          go_wp2_with (first
            | (go_at_call 49; refine (unhide C2 _ b5).mono ?_; rintro e w6 ⟨rfl, b6⟩; have t6 := t5.trans (b6.mono t5.size); have HS6 := hide (((unhide HSq).keep b5).keep b6))
            | (go_at_call 49; refine (unhide C1).mono ?_; rintro e w5 ⟨rfl, b5⟩; have t5 := tq.trans (b5.mono tq.size); have HX5 := hide ((unhide HXq).keep b5); have c5 := (unhide HX5).cells.2.2.2.2))
          go_roundw
          case rel => exact ⟨k + 1, by omega, by go_num, unhide HX2, unhide HS6, t6⟩
          case measure => simp [intOf]; omega
        have zk : decide ((k : Int) > 0) = true := decide_eq_true (by omega)
        have zk2 : decide ((0 : Int) < (k : Int)) = true := decide_eq_true (by omega)
        have zk3 : decide (0 < k) = true := decide_eq_true (by omega)
        have p0 := unhide HPV j (by omega)
        replace p0 := cell_bb ((o1.cell (cell_lt p0)).trans p0)
        have wj : IntKind.i64.wrap ((k : Int) - 1) = (j : Int) := by rw [IntKind.wrap_i64]; omega
        have wj2 : (k : Int) - 1 = (j : Int) := by omega
        have hj0 : (0 : Int) ≤ (j : Int) := by omega
        have hj1 : (j : Int) < (cs.length : Int) := by omega
        rw [decide_eq_false k0, Bool.false_or] at HFS
        generalize cs.getD j cl0 = x at *
        have hls : Op.bytesLess x.nam.toList y.nam.toList = lsT x.nam y.nam := rfl
        clear hj k0 HPV
        cases hq : lsT x.nam y.nam <;> rw [hq] at hls HFS
        · have HR : Hid (false = R) := (unhide HN (by rw [unhide HFS]; simp)).symm
          clear HFS HN HX CN hq
          go_wp2
          refine wp_region_below (by first | exact mx | assumption) (by kernel_rfl) ?_
          intro nebb
          repeat (go_big_quiet_step ((go_at_call 48; exact callsBB ((unhide CW _).mono fun _ _ h => ⟨h.1, by rw [← h.2]; exact Below.refl _ _⟩))))
          refine wpQuiet_nil ?_
          intro _ hw'
          obtain ⟨pq, hw''⟩ := hw'
          subst hw''
          have bq := pq.b
          generalize pq.W = wq at *
          go_wp2
          go_ret
          exact ⟨ret_bool (unhide HR), hb1.trans (bq.mono hb1.size)⟩
        · rw [Bool.true_and, Bool.true_and] at HFS
          clear hq
          go_wp2
          refine wp_region_below (by first | exact mx | assumption) (by kernel_rfl) ?_
          intro nebb
          repeat (go_big_quiet_step ((go_at_call 48; exact callsBB ((unhide CW _).mono fun _ _ h => ⟨h.1, by rw [← h.2]; exact Below.refl _ _⟩))))
          refine wpQuiet_nil ?_
          intro _ hw'
          obtain ⟨pq, hw''⟩ := hw'
          subst hw''
          have bq := pq.b
          generalize pq.W = wq at *
          have tq := hb1.trans (bq.mono hb1.size)
          have HMq := hide ((unhide HM1).below bq)
          have HYq := hide ((unhide HY1).below bq)
          have HSq := hide ((unhide HS1).keep bq)
          have HXq := hide ((unhide HX1).keep bq)
          obtain ⟨e0, e1, e2, e3, e4⟩ := (unhide HXq).cells
          have C1 := hide (unhide CN _ _ _ tq (unhide HMq))
          have C2 := hide (fun W (h : Below wq.heap.size wq W) => unhide CN _ _ W (tq.trans (h.mono tq.size)) ((unhide HYq).below h))
          clear CN CW HMq HYq
          generalize fitN l y.mus = m1 at *
          generalize fitN l y.may = m2 at *
          cases m1
          · have HR : Hid (false = R) := (unhide HN (by rw [unhide HFS]; simp)).symm
            clear HFS HN HX
            go_wp2_with (go_at_call 49; refine (unhide C1).mono ?_; rintro e w5 ⟨rfl, b5⟩; have t5 := tq.trans (b5.mono tq.size))
            go_ret
            exact ⟨ret_bool (unhide HR), t5⟩
          cases m2
          · have HR : Hid (false = R) := (unhide HN (by rw [unhide HFS]; simp)).symm
            clear HFS HN HX
            go_wp2_with (first
              | (go_at_call 49; refine (unhide C2 _ b5).mono ?_; rintro e w6 ⟨rfl, b6⟩; have t6 := t5.trans (b6.mono t5.size))
              | (go_at_call 49; refine (unhide C1).mono ?_; rintro e w5 ⟨rfl, b5⟩; have t5 := tq.trans (b5.mono tq.size); have HX5 := hide ((unhide HXq).keep b5); have c5 := (unhide HX5).cells.2.2.2.2))
            go_ret
            exact ⟨ret_bool (unhide HR), t6⟩
          have HX2 := hide (unhide HX (by rw [unhide HFS]; simp))
          clear HFS HN HX
          go_wp2_with (first
            | (go_at_call 49; refine (unhide C2 _ b5).mono ?_; rintro e w6 ⟨rfl, b6⟩; have t6 := t5.trans (b6.mono t5.size); have HS6 := hide (((unhide HSq).keep b5).keep b6))
            | (go_at_call 49; refine (unhide C1).mono ?_; rintro e w5 ⟨rfl, b5⟩; have t5 := tq.trans (b5.mono tq.size); have HX5 := hide ((unhide HXq).keep b5); have c5 := (unhide HX5).cells.2.2.2.2))
          go_roundw
          case rel => exact ⟨k + 1, by omega, by go_num, unhide HX2, unhide HS6, t6⟩
          case measure => simp [intOf]; omega
      · have hzl : ¬ (k : Int) < (cs.length : Int) := by omega
        obtain rfl : k = cs.length := by omega
        have HG2 := hide (unhide HG (unhide HK))
        clear HK HG H1 CN
        go_wp2
        go_loopw [59] (fun vi ws => ∃ k : Nat, k ≤ cs.length ∧ vi = .int .i64 (k : Int) ∧ Hid (∀ j, j < k → upE cs cs.length (cs.getD j cl0) = true) ∧ Hid (Bs w.heap.size (.slice aa l.length ca) (.slice ac cs.length cc) ws) ∧ Below w.heap.size w ws) (fun i _ => cs.length - (intOf i).toNat)
        case atStart => exact ⟨0, Nat.zero_le _, rfl, fun j hj => absurd hj (Nat.not_lt_zero _), unhide HS, hb⟩
        case round =>
          clear HS hb s0 s1 hsz
          obtain ⟨k, hk, rfl, HK, HS, hb⟩ := hrel
          have hsz := hb.size
          obtain ⟨s0, s1⟩ := (unhide HS).cells
          by_cases hlt : k < cs.length
          · have hzl : (k : Int) < (cs.length : Int) := by omega
            have hz0 : (0 : Int) ≤ (k : Int) := by omega
            obtain ⟨ac', cc', hvv, hn9, hcc⟩ := (unhide HC).below hb
            cases hvv
            obtain ⟨b, off, rfl, hce⟩ := hcc (by omega)
            obtain ⟨d0, d1, d2, ⟨vm, d3, hM⟩, ⟨vy, d4, hY⟩⟩ := hce k hlt
            have HN := hide (unhide H2 k hlt)
            have HX : Hid (upE cs cs.length (cs.getD k cl0) = true → ∀ j, j < k + 1 → upE cs cs.length (cs.getD j cl0) = true) := fun h j hj => by
              by_cases e : j = k
              · rw [e]; exact h
              · exact unhide HK j (by omega)
            clear hcc hce hn9 H2 HG2 HK
            generalize cs.getD k cl0 = y at *
            have o1 : Below wr.heap.size wr (wr.alloc (.cells #[.string y.nam, .string y.abv, .bool y.bar, vm, vy] 49)) := Below.one wr _
            have hb1 := hb.trans (o1.mono hsz)
            have C1 := hide (unhide CE vm vy y _ hb1 (hM.below o1) (hY.below o1))
            obtain ⟨am, cm, rfl, _⟩ := hM
            obtain ⟨ay, cy, rfl, _⟩ := hY
            have HS1 := hide ((unhide HS).keep o1)
            obtain ⟨u0, u1⟩ := (unhide HS1).cells
            clear CE
            generalize upE cs cs.length y = U at *
            cases U
            · have HR : Hid (false = R) := (unhide HN rfl).symm
              clear HN HX
              go_wp2_with (go_at_call 50; refine (unhide C1).mono ?_; rintro e w5 ⟨rfl, b5⟩; have t5 := hb1.trans (b5.mono hb1.size))
              go_ret
              exact ⟨ret_bool (unhide HR), t5⟩
            · have HX2 := hide (unhide HX rfl)
              clear HN HX
              go_wp2_with (go_at_call 50; refine (unhide C1).mono ?_; rintro e w5 ⟨rfl, b5⟩; have t5 := hb1.trans (b5.mono hb1.size); have HS5 := hide ((unhide HS1).keep b5))
              go_roundw
              case rel => exact ⟨k + 1, by omega, by go_num, unhide HX2, unhide HS5, t5⟩
              case measure => simp [intOf]; omega
          · have hzl : ¬ (k : Int) < (cs.length : Int) := by omega
            obtain rfl : k = cs.length := by omega
            have HR : Hid (true = R) := (unhide HG2 (unhide HK)).symm
            clear HK HG2 H2 CE
            go_wp2
            go_ret
            exact ⟨ret_bool (unhide HR), hb⟩
  · have z12 : (12 : Int) < (cs.length : Int) := by omega
    rw [okC_bad0 h12]
    clear CN CE
    go_enter Try.func26, Try.ntmps26
    go_wp2
    go_ret
    exact ⟨rfl, b0⟩
end Go.Proofs.Ytjjildpdelkejaa
