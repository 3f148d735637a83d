/- The laws ClassesChecks, ClassesNeeds and ClassesFit of layer 21. -/
import Derived.Test.YtjjildpdelkejaaM30
namespace Go.Proofs.Ytjjildpdelkejaa
open Go.RowKit

set_option maxHeartbeats 6400000 in
theorem checks21_law (va vc : Value) (l : List Ty) (cs : List Cl) (n : ByteArray) (w : World) (hL : Ly w) (hT : TysV w va l) (hC : ClsV w vc cs) : Calls Try.prog 3 #[.agg #[va, vc], .string n] w fun e w' => e = .returned (.bool true) ∧ Below w.heap.size w w' := by
  have mx : Try.prog.follows .mixedOrders = true := by kernel_rfl
  have b0 := Below.one w (.cells #[va, vc] 25)
  have CF := hide (few21_any va vc l cs _ (hT.below b0) (hC.below b0))
  have CA := hide (fun W (h : Below w.heap.size w W) => awake21 W (hL.keep h))
  have HCH := hide (fun (hf : fewC l cs = true) W (h : Below w.heap.size w W) => ccheck_any va vc l cs W (hL.keep h) hf (hT.below h) (hC.below h))
  have HLI := hide (fun (hf : fewC l cs = true) W (h : Below w.heap.size w W) => cline_any va vc l cs n W (hL.keep h) hf (hT.below h) (hC.below h))
  have CR := hide (fun W (h : Below w.heap.size w W) => rchk21_any va vc l cs W (hT.below h) (hC.below h))
  have CRL := hide (fun W (h : Below w.heap.size w W) => rlin21_any va vc l cs n W (hT.below h) (hC.below h))
  have CS := hide (fun u v W h1 h2 => rsm_any u v (lineC l cs n) (lineC l cs n) W h1 h2)
  have hdd : decide (lineC l cs n = lineC l cs n) = true := by simp
  rw [hdd] at CS
  obtain ⟨aa, ca, rfl⟩ := hT.shape
  obtain ⟨ac, cc, rfl⟩ := hC.shape
  clear hT hC hL hdd
  have S0 : Hid (Bs w.heap.size (.slice aa l.length ca) (.slice ac cs.length cc) (w.alloc (.cells #[.slice aa l.length ca, .slice ac cs.length cc] 25))) := heap_new w _
  obtain ⟨s0, s1⟩ := (unhide S0).cells
  cases hf : fewC l cs
  · rw [hf] at CF
    clear hf HCH HLI CR CRL CS
    go_enter Try.func3, Try.ntmps3
    go_wp2_with (first
      | (go_at_call 9; refine (unhide CA _ t1).mono ?_; rintro e w2 ⟨rfl, b2⟩; have t2 := t1.trans (b2.mono t1.size))
      | (go_at_call 8; refine (unhide CF).mono ?_; rintro e w1 ⟨rfl, b1⟩; have t1 := b0.trans (b1.mono b0.size)))
    go_ret
    exact ⟨rfl, t2⟩
  rw [hf] at CF
  have C1 := hide (unhide HCH hf)
  have C2 := hide (unhide HLI hf)
  have hlen : (lineC l cs n).length ≤ 9223372036854775807 := by
    unfold lineC
    split
    · rename_i h
      have := okC_12 (chkC_ok h).2
      have := linC_len cs n
      rw [List.length_map]
      omega
    · simp
  clear hf HCH HLI
  generalize lineC l cs n = L at *
  generalize chkC l cs = x at *
  have ex : (x == x) = true := by simp
  go_enter Try.func3, Try.ntmps3
  go_wp2_with (go_at_call 8; refine (unhide CF).mono ?_; rintro e w1 ⟨rfl, k1⟩; have t1 := b0.trans (k1.mono b0.size); have k1d := k1.drew; have t1d := t1.drew)
  clear CF s0 s1
  obtain ⟨w0, hw0⟩ : ∃ w0, w.alloc (.cells #[.slice aa l.length ca, .slice ac cs.length cc] 25) = w0 := ⟨_, rfl⟩
  rw [hw0] at b0 S0 k1 k1d
  clear hw0
  go_region_held3 (fun W => W.cell? ⟨w.heap.size, 0, none⟩ = some (.slice aa l.length ca) ∧ W.cell? ⟨w.heap.size, 1, none⟩ = some (.slice ac cs.length cc)) (first | with_reducible exact ((unhide S0).keep k1d).cells | with_reducible exact ((unhide S0).keep k7).cells | with_reducible exact ((unhide S0).keep k6).cells | with_reducible exact ((unhide S0).keep k5).cells | with_reducible exact ((unhide S0).keep k4).cells | with_reducible exact ((unhide S0).keep k3).cells | with_reducible exact ((unhide S0).keep k2).cells | assumption | go_keep)
    (first
      | (go_at_call 9; refine (unhide CA _ t6).mono ?_; rintro e w7 ⟨rfl, b7⟩; have t7 := t6.trans (b7.mono t6.size); have k7 := k6.trans (b7.mono k6.size))
      | (go_at_call 12; refine (unhide CS _ _ _ (unhide U5) (unhide V5)).mono ?_; rintro e w6 ⟨rfl, b6⟩; have t6 := t5.trans (b6.mono t5.size); have k6 := k5.trans (b6.mono k5.size))
      | (go_at_call 14; refine (unhide CRL _ t4).mono ?_; rintro e w5 ⟨v5, rfl, hv5, b5⟩; have t5 := t4.trans (b5.mono t4.size); have k5 := k4.trans (b5.mono k4.size); have V5 := hide (hv5.ts hlen); have U5 := hide ((unhide U4).below b5); clear hv5)
      | (go_at_call 13; refine (unhide C2 _ t3).mono ?_; rintro e w4 ⟨u4, rfl, hu4, b4⟩; have t4 := t3.trans (b4.mono t3.size); have k4 := k3.trans (b4.mono k3.size); have U4 := hide hu4; clear hu4)
      | (go_at_call 11; refine (unhide CR _ t2).mono ?_; rintro e w3 ⟨rfl, b3⟩; have t3 := t2.trans (b3.mono t2.size); have k3 := k2.trans (b3.mono k2.size))
      | (go_at_call 10; refine (unhide C1 _ t1d).mono ?_; rintro e w2 ⟨rfl, b2⟩; have t2 := t1d.trans (b2.mono t1d.size); have k2 := k1d.trans (b2.mono k1d.size)))
  all_goals
    try simp only [Exit.then]
    go_wp2
    go_ret
    exact ⟨rfl, t7⟩
end Go.Proofs.Ytjjildpdelkejaa
