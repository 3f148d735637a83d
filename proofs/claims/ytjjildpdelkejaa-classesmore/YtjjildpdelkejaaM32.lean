/- The laws ClassesNeeds and ClassesFit of layer 21. -/
import Derived.Test.YtjjildpdelkejaaM31
namespace Go.Proofs.Ytjjildpdelkejaa
open Go.RowKit

set_option maxHeartbeats 6400000 in
theorem needs21_law (va vc vn : Value) (l : List Ty) (cs : List Cl) (ns : List ByteArray) (w : World) (hL : Ly w) (hT : TysV w va l) (hC : ClsV w vc cs) (hN : TsV w vn ns) : Calls Try.prog 4 #[.agg #[va, vc], vn] w fun e w' => e = .returned (.bool true) ∧ Below w.heap.size w w' := by
  have mx : Try.prog.follows .mixedOrders = true := by kernel_rfl
  have b0 := Below.one w (.cells #[va, vc] 25)
  have CF := hide (few21_any va vc l cs _ (hT.below b0) (hC.below b0))
  have CA := hide (fun W (h : Below w.heap.size w W) => awake21 W (hL.keep h))
  have HC1 := hide (fun (hf : fewC l cs = true) (hl : ns.length ≤ 100) W (h : Below w.heap.size w W) => cneed_any va vc vn l cs ns W (hL.keep h) hf (hT.below h) (hC.below h) (hN.below h) hl)
  have HC2 := hide (fun (hl : ns.length ≤ 100) W (h : Below w.heap.size w W) => rned_any va vc vn l cs ns W (hT.below h) (hC.below h) (hN.below h) hl)
  have CS := hide (fun u v W h1 h2 => rsm_any u v (nedM l cs ns) (nedM l cs ns) W h1 h2)
  have CT := hide (fun u v W h1 h2 => rsm_any u v (nedY l cs ns) (nedY l cs ns) W h1 h2)
  rw [decide_eq_true rfl] at CS CT
  obtain ⟨aa, ca, rfl⟩ := hT.shape
  obtain ⟨ac, cc, rfl⟩ := hC.shape
  obtain ⟨an, cn, rfl, hn9, _⟩ := hN
  have hn2 : (ns.length : Int) ≤ 9223372036854775807 := by omega
  clear hT hC hL
  have S0 : Hid (Bs w.heap.size (.slice aa l.length ca) (.slice ac cs.length cc) (w.alloc (.cells #[.slice aa l.length ca, .slice ac cs.length cc] 25))) := heap_new w _
  obtain ⟨s0, s1⟩ := (unhide S0).cells
  cases hf : fewC l cs
  · rw [hf] at CF
    clear hf HC1 HC2 CS CT
    go_enter Try.func4, Try.ntmps4
    go_wp2_with (first
      | (go_at_call 9; refine (unhide CA _ t1).mono ?_; rintro e w2 ⟨rfl, b2⟩; have t2 := t1.trans (b2.mono t1.size))
      | (go_at_call 8; refine (unhide CF).mono ?_; rintro e w1 ⟨rfl, b1⟩; have t1 := b0.trans (b1.mono b0.size)))
    go_ret
    exact ⟨rfl, t2⟩
  rw [hf] at CF
  by_cases h20 : 20 < ns.length
  · have z : (20 : Int) < (ns.length : Int) := by omega
    clear hf HC1 HC2 CS CT
    go_enter Try.func4, Try.ntmps4
    go_wp2_with (first
      | (go_at_call 9; refine (unhide CA _ t1).mono ?_; rintro e w2 ⟨rfl, b2⟩; have t2 := t1.trans (b2.mono t1.size))
      | (go_at_call 8; refine (unhide CF).mono ?_; rintro e w1 ⟨rfl, b1⟩; have t1 := b0.trans (b1.mono b0.size)))
    go_ret
    exact ⟨rfl, t2⟩
  have z : ¬ (20 : Int) < (ns.length : Int) := by omega
  have C1 := hide (unhide HC1 hf (by omega))
  have C2 := hide (unhide HC2 (by omega))
  clear hf HC1 HC2
  generalize nedM l cs ns = M at *
  generalize nedY l cs ns = Y at *
  generalize nedE l cs ns = x at *
  have ex : (x == x) = true := by simp
  go_enter Try.func4, Try.ntmps4
  go_wp2_with (first
    | (go_at_call 9; refine (unhide CA _ t5).mono ?_; rintro e w6 ⟨rfl, b6⟩; have t6 := t5.trans (b6.mono t5.size))
    | (go_at_call 12; refine (unhide CT _ _ _ (unhide P4) (unhide Q4)).mono ?_; rintro e w5 ⟨rfl, b5⟩; have t5 := t4.trans (b5.mono t4.size))
    | (go_at_call 12; refine (unhide CS _ _ _ (unhide U3) (unhide V3)).mono ?_; rintro e w4 ⟨rfl, b4⟩; have t4 := t3.trans (b4.mono t3.size); have P4 := hide ((unhide P3).below b4); have Q4 := hide ((unhide Q3).below b4))
    | (go_at_call 16; refine (unhide C2 _ t2).mono ?_; rintro e w3 ⟨v3, q3, rfl, hv3, hq3, b3⟩; have t3 := t2.trans (b3.mono t2.size); have V3 := hide hv3; have Q3 := hide hq3; have U3 := hide ((unhide U2).below b3); have P3 := hide ((unhide P2).below b3); obtain ⟨va3, vb3, rfl, _⟩ := hv3; obtain ⟨qa3, qb3, rfl, _⟩ := hq3)
    | (go_at_call 15; refine (unhide C1 _ t1).mono ?_; rintro e w2 ⟨u2, p2, rfl, hu2, hp2, b2⟩; have t2 := t1.trans (b2.mono t1.size); have U2 := hide hu2; have P2 := hide hp2; obtain ⟨z0, z1⟩ := ((unhide S1).keep b2).cells; obtain ⟨ua2, ub2, rfl, _⟩ := hu2; obtain ⟨pa2, pb2, rfl, _⟩ := hp2)
    | (go_at_call 8; refine (unhide CF).mono ?_; rintro e w1 ⟨rfl, b1⟩; have t1 := b0.trans (b1.mono b0.size); have S1 := hide ((unhide S0).keep b1); obtain ⟨y0, y1⟩ := (unhide S1).cells))
  go_ret
  exact ⟨rfl, t6⟩
set_option maxHeartbeats 6400000 in
theorem fit21_law (va vc vn vh : Value) (l : List Ty) (cs : List Cl) (ns hs : List ByteArray) (w : World) (hL : Ly w) (hT : TysV w va l) (hC : ClsV w vc cs) (hN : TsV w vn ns) (hH : TsV w vh hs) : Calls Try.prog 5 #[.agg #[va, vc], vn, vh] w fun e w' => e = .returned (.bool true) ∧ Below w.heap.size w w' := by
  have mx : Try.prog.follows .mixedOrders = true := by kernel_rfl
  have b0 := Below.one w (.cells #[va, vc] 25)
  have CF := hide (few21_any va vc l cs _ (hT.below b0) (hC.below b0))
  have CA := hide (fun W (h : Below w.heap.size w W) => awake21 W (hL.keep h))
  have HC1 := hide (fun (hf : fewC l cs = true) (hl : ns.length ≤ 100) (hl2 : hs.length ≤ 100) W (h : Below w.heap.size w W) => cfit_any va vc vn vh l cs ns hs W (hL.keep h) hf (hT.below h) (hC.below h) (hN.below h) (hH.below h) hl hl2)
  have HC2 := hide (fun (hl : ns.length ≤ 100) W (h : Below w.heap.size w W) => rfit21_any va vc vn vh l cs ns hs W (hT.below h) (hC.below h) (hN.below h) (hH.below h) hl)
  obtain ⟨aa, ca, rfl⟩ := hT.shape
  obtain ⟨ac, cc, rfl⟩ := hC.shape
  obtain ⟨an, cn, rfl, hn9, _⟩ := hN
  obtain ⟨ah, ch, rfl, hh9, _⟩ := hH
  have hn2 : (ns.length : Int) ≤ 9223372036854775807 := by omega
  have hh2 : (hs.length : Int) ≤ 9223372036854775807 := by omega
  clear hT hC hL
  have S0 : Hid (Bs w.heap.size (.slice aa l.length ca) (.slice ac cs.length cc) (w.alloc (.cells #[.slice aa l.length ca, .slice ac cs.length cc] 25))) := heap_new w _
  obtain ⟨s0, s1⟩ := (unhide S0).cells
  have HNO : Hid ((fewC l cs = false ∨ 20 < ns.length ∨ 20 < hs.length) ∨ (fewC l cs = true ∧ ¬ 20 < ns.length ∧ ¬ 20 < hs.length)) := by
    show _ ∨ _
    cases fewC l cs
    · exact .inl (.inl rfl)
    · rcases Nat.lt_or_ge 20 ns.length with h | h
      · exact .inl (.inr (.inl h))
      · rcases Nat.lt_or_ge 20 hs.length with h' | h'
        · exact .inl (.inr (.inr h'))
        · exact .inr ⟨rfl, by omega, by omega⟩
  cases hf : fewC l cs
  · rw [hf] at CF
    clear hf HC1 HC2 HNO
    go_enter Try.func5, Try.ntmps5
    go_wp2_with (first
      | (go_at_call 9; refine (unhide CA _ t1).mono ?_; rintro e w2 ⟨rfl, b2⟩; have t2 := t1.trans (b2.mono t1.size))
      | (go_at_call 8; refine (unhide CF).mono ?_; rintro e w1 ⟨rfl, b1⟩; have t1 := b0.trans (b1.mono b0.size)))
    go_ret
    exact ⟨rfl, t2⟩
  rw [hf] at CF
  by_cases h20 : 20 < ns.length
  · have z : (20 : Int) < (ns.length : Int) := by omega
    clear hf HC1 HC2 HNO
    go_enter Try.func5, Try.ntmps5
    go_wp2_with (first
      | (go_at_call 9; refine (unhide CA _ t1).mono ?_; rintro e w2 ⟨rfl, b2⟩; have t2 := t1.trans (b2.mono t1.size))
      | (go_at_call 8; refine (unhide CF).mono ?_; rintro e w1 ⟨rfl, b1⟩; have t1 := b0.trans (b1.mono b0.size)))
    go_ret
    exact ⟨rfl, t2⟩
  have z : ¬ (20 : Int) < (ns.length : Int) := by omega
  by_cases h21 : 20 < hs.length
  · have z2 : (20 : Int) < (hs.length : Int) := by omega
    clear hf HC1 HC2 HNO
    go_enter Try.func5, Try.ntmps5
    go_wp2_with (first
      | (go_at_call 9; refine (unhide CA _ t1).mono ?_; rintro e w2 ⟨rfl, b2⟩; have t2 := t1.trans (b2.mono t1.size))
      | (go_at_call 8; refine (unhide CF).mono ?_; rintro e w1 ⟨rfl, b1⟩; have t1 := b0.trans (b1.mono b0.size)))
    go_ret
    exact ⟨rfl, t2⟩
  have z2 : ¬ (20 : Int) < (hs.length : Int) := by omega
  have C1 := hide (unhide HC1 hf (by omega) (by omega))
  have C2 := hide (unhide HC2 (by omega))
  clear hf HC1 HC2 HNO
  generalize fitC l cs ns hs = x at *
  have ex : (x == x) = true := by simp
  go_enter Try.func5, Try.ntmps5
  go_wp2_with (go_at_call 8; refine (unhide CF).mono ?_; rintro e w1 ⟨rfl, k1⟩; have t1 := b0.trans (k1.mono b0.size); have k1d := k1.drew; have t1d := t1.drew)
  clear CF s0 s1
  obtain ⟨w0, hw0⟩ : ∃ w0, w.alloc (.cells #[.slice aa l.length ca, .slice ac cs.length cc] 25) = w0 := ⟨_, rfl⟩
  rw [hw0] at b0 S0 k1 k1d
  clear hw0
  go_region_held3 (fun W => W.cell? ⟨w.heap.size, 0, none⟩ = some (.slice aa l.length ca) ∧ W.cell? ⟨w.heap.size, 1, none⟩ = some (.slice ac cs.length cc)) (first | with_reducible exact ((unhide S0).keep k1d).cells | with_reducible exact ((unhide S0).keep k4).cells | with_reducible exact ((unhide S0).keep k3).cells | with_reducible exact ((unhide S0).keep k2).cells | assumption | go_keep)
    (first
      | (go_at_call 9; refine (unhide CA _ t3).mono ?_; rintro e w4 ⟨rfl, b4⟩; have t4 := t3.trans (b4.mono t3.size); have k4 := k3.trans (b4.mono k3.size))
      | (go_at_call 18; refine (unhide C2 _ t2).mono ?_; rintro e w3 ⟨rfl, b3⟩; have t3 := t2.trans (b3.mono t2.size); have k3 := k2.trans (b3.mono k2.size))
      | (go_at_call 17; refine (unhide C1 _ t1d).mono ?_; rintro e w2 ⟨rfl, b2⟩; have t2 := t1d.trans (b2.mono t1d.size); have k2 := k1d.trans (b2.mono k1d.size)))
  all_goals
    try simp only [Exit.then]
    go_wp2
    go_ret
    exact ⟨rfl, t4⟩
end Go.Proofs.Ytjjildpdelkejaa
