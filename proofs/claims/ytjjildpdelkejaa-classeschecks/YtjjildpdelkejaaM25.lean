/- The document's Fit of layer 21. -/
import Derived.Test.YtjjildpdelkejaaM18
import Derived.Test.YtjjildpdelkejaaM05
namespace Go.Proofs.Ytjjildpdelkejaa
open Go.RowKit

theorem fitC_ned {l : List Ty} {cs : List Cl} {ns hs : List ByteArray} (h : ¬ nedE l cs ns = 0) : fitC l cs ns hs = nedE l cs ns := by unfold fitC; rw [if_neg h]
theorem fitC_type {l : List Ty} {cs : List Cl} {ns hs : List ByteArray} (h : nedE l cs ns = 0) {k : Nat} (hk : k < hs.length) (hf : (findT l (hs.getD k te)).isSome = false) : fitC l cs ns hs = 190 := by
  have : (hs.all fun h => (findT l h).isSome) = false := by
    rw [List.all_eq_false]
    have e : hs.getD k te = hs[k] := by simp [List.getD, hk]
    rw [e] at hf
    exact ⟨hs[k], List.getElem_mem _, by rw [hf]; decide⟩
  unfold fitC
  rw [if_pos h, this]
  rfl
theorem fitC_rest {l : List Ty} {cs : List Cl} {ns hs : List ByteArray} (h : nedE l cs ns = 0) (ha : ∀ k, k < hs.length → (findT l (hs.getD k te)).isSome = true) : fitC l cs ns hs = if ((nedM l cs ns).all fun m => mtA l hs m) && (hs.all fun h => frA l (nedM l cs ns) (nedY l cs ns) h) then 0 else 200 := by
  have : (hs.all fun h => (findT l h).isSome) = true := by
    rw [List.all_eq_true]
    intro x hx
    obtain ⟨i, hi, rfl⟩ := List.getElem_of_mem hx
    have := ha i hi
    simpa [List.getD, hi] using this
  unfold fitC
  rw [if_pos h, this]
  rfl
theorem all_bad {α : Type} {f : α → Bool} {d : α} {L : List α} {k : Nat} (hk : k < L.length) (h : f (L.getD k d) = false) : L.all f = false := by
  rw [List.all_eq_false]
  have e : L.getD k d = L[k] := by simp [List.getD, hk]
  rw [e] at h
  exact ⟨L[k], List.getElem_mem _, by rw [h]; decide⟩
theorem all_good {α : Type} {f : α → Bool} {d : α} {L : List α} (h : ∀ k, k < L.length → f (L.getD k d) = true) : L.all f = true := by
  rw [List.all_eq_true]
  intro x hx
  obtain ⟨i, hi, rfl⟩ := List.getElem_of_mem hx
  have := h i hi
  simpa [List.getD, hi] using this
/-- Is something met by the first k; is something free by the first i of its line? -/
def mtk (l : List Ty) (hs : List ByteArray) (m : ByteArray) (k : Nat) : Bool := (hs.take k).any fun h => isT l h m
theorem mtk_next {l : List Ty} {hs : List ByteArray} {m : ByteArray} {k : Nat} (h : k < hs.length) : mtk l hs m (k + 1) = (mtk l hs m k || isT l (hs.getD k te) m) := by
  unfold mtk
  rw [List.take_succ_eq_append_getElem h, List.any_append]
  simp [List.getD, h]
theorem mtk_all (l : List Ty) (hs : List ByteArray) (m : ByteArray) : mtk l hs m hs.length = mtA l hs m := by unfold mtk mtA; rw [List.take_length]
def frk (M Y L : List ByteArray) (i : Nat) : Bool := (L.take i).any fun x => hasL M x || hasL Y x
theorem frk_next {M Y L : List ByteArray} {i : Nat} (h : i < L.length) : frk M Y L (i + 1) = (frk M Y L i || (hasL M (L.getD i te) || hasL Y (L.getD i te))) := by
  unfold frk
  rw [List.take_succ_eq_append_getElem h, List.any_append]
  simp [List.getD, h]
theorem frk_all (l : List Ty) (M Y : List ByteArray) (x : ByteArray) : frk M Y (lineT l x) (lineT l x).length = frA l M Y x := by unfold frk frA hasL; rw [List.take_length]
theorem next_of {p : Nat → Prop} {k : Nat} (h : ∀ j, j < k → p j) (hk : p k) : ∀ j, j < k + 1 → p j := fun j hj => by
  by_cases e : j = k
  · rw [e]; exact hk
  · exact h j (by omega)
set_option maxRecDepth 100000 in
set_option maxHeartbeats 25600000 in
theorem rfit21_any (va vc vn vh : Value) (l : List Ty) (cs : List Cl) (ns hs : List ByteArray) (w : World) (hT : TysV w va l) (hC : ClsV w vc cs) (hN : TsV w vn ns) (hH : TsV w vh hs) (hl : ns.length ≤ 100) :
    Calls Try.prog 18 #[.agg #[va, vc], vn, vh] w fun e w' => e = .returned (.int .i64 (fitC l cs ns hs)) ∧ Below w.heap.size w w' := by
  have mx : Try.prog.follows .mixedOrders = true := by kernel_rfl
  have CN := hide (fun W (h : Below w.heap.size w W) => rned_any va vc vn l cs ns W (hT.below h) (hC.below h) (hN.below h) hl)
  have CF := hide (fun n W (h : Below w.heap.size w W) => rfind_any va l n W (hT.below h))
  have CI := hide (fun n a W (h : Below w.heap.size w W) => ris_any va l n a W (hT.below h))
  have CL := hide (fun n W (h : Below w.heap.size w W) => rline_any va l n W (hT.below h))
  obtain ⟨aa, ca, rfl⟩ := hT.shape
  obtain ⟨ac, cc, rfl⟩ := hC.shape
  obtain ⟨an, cn, rfl, hn9⟩ := hN
  obtain ⟨ah, ch, rfl, hh9, hch⟩ := hH
  have HH : Hid (∀ W, Below w.heap.size w W → 0 < hs.length → ∃ b off, ah = some ⟨b, off, none⟩ ∧ ∀ j, j < hs.length → W.cell? ⟨b, off + j, none⟩ = some (.string (hs.getD j te))) := fun W h h0 => by
    obtain ⟨b, off, e, hce⟩ := hch h0
    exact ⟨b, off, e, fun j hj => (h.cell (cell_lt (hce j hj))).trans (hce j hj)⟩
  have hh2 : (hs.length : Int) ≤ 9223372036854775807 := by omega
  clear hT hC hn9 hch
  have b0 := Below.one w (.cells #[.slice aa l.length ca, .slice ac cs.length cc] 25)
  have S0 : Hid (Bs w.heap.size (.slice aa l.length ca) (.slice ac cs.length cc) (w.alloc (.cells #[.slice aa l.length ca, .slice ac cs.length cc] 25))) := heap_new w _
  obtain ⟨s0, s1⟩ := (unhide S0).cells
  by_cases h0 : nedE l cs ns = 0
  · rw [h0] at CN
    have HTY : Hid (∀ k, k < hs.length → (findT l (hs.getD k te)).isSome = false → fitC l cs ns hs = 190) := fun k hk h => fitC_type h0 hk h
    have HRE : Hid ((∀ k, k < hs.length → (findT l (hs.getD k te)).isSome = true) → fitC l cs ns hs = if ((nedM l cs ns).all fun m => mtA l hs m) && (hs.all fun h => frA l (nedM l cs ns) (nedY l cs ns) h) then 0 else 200) := fun h => fitC_rest h0 h
    clear h0
    generalize nedM l cs ns = M at *
    generalize nedY l cs ns = Y at *
    generalize fitC l cs ns hs = R at *
    go_enter Try.func18, Try.ntmps18
    go_wp2_with (go_at_call 16; refine (unhide CN _ b0).mono ?_; rintro e w1 ⟨u1, u2, rfl, hm, hy, k1⟩; have HM := hide hm; have HY := hide hy; obtain ⟨am, cm, rfl, hmx, hmc⟩ := hm; obtain ⟨ay, cy, rfl, hy9⟩ := hy; clear hy9; have HMC := hide hmc; clear hmc)
    clear s0 s1 CN
    obtain ⟨w0, hw0⟩ : ∃ w0, w.alloc (.cells #[.slice aa l.length ca, .slice ac cs.length cc] 25) = w0 := ⟨_, rfl⟩
    rw [hw0] at b0 S0 k1
    have hs0 : w0.heap.size = w.heap.size + 1 := by rw [← hw0]; simp
    clear hw0
    have hw1 := b0.trans (k1.mono b0.size)
    have HS : Hid (∀ W, Below w1.heap.size w1 W → W.cell? ⟨w.heap.size, 0, none⟩ = some (.slice aa l.length ca)) := fun W h => ((unhide S0).keep (k1.trans (h.mono k1.size))).cells.1
    have hmx2 : (M.length : Int) ≤ 9223372036854775807 := by omega
    go_loopw [10] (fun vi wr => ∃ k : Nat, k ≤ hs.length ∧ vi = .int .i64 (k : Int) ∧ Hid (∀ j, j < k → (findT l (hs.getD j te)).isSome = true) ∧ Below w1.heap.size w1 wr) (fun i _ => hs.length - (intOf i).toNat)
    case atStart => exact ⟨0, Nat.zero_le _, rfl, fun j hj => absurd hj (Nat.not_lt_zero _), Below.refl _ _⟩
    case round =>
      obtain ⟨k, hkl, rfl, HK, hb⟩ := hrel
      have hsz := hb.size
      have hbw := hw1.trans (hb.mono hw1.size)
      by_cases hlt : k < hs.length
      · have hzl : (k : Int) < (hs.length : Int) := by omega
        have hz0 : (0 : Int) ≤ (k : Int) := by omega
        obtain ⟨bh, oh, rfl, hhh⟩ := unhide HH _ hbw (by omega)
        have q0 := hhh k hlt
        have c0 := unhide HS _ hb
        have HNO := hide (unhide HTY k hlt)
        have HYS : Hid ((findT l (hs.getD k te)).isSome = true → ∀ j, j < k + 1 → (findT l (hs.getD j te)).isSome = true) := fun h => next_of (p := fun j => (findT l (hs.getD j te)).isSome = true) (unhide HK) h
        have C1 := hide (unhide CF (hs.getD k te))
        have HFB : Hid (fndB l (hs.getD k te) = (findT l (hs.getD k te)).isSome) := rfl
        clear hhh HTY HRE HK CF CI CL HMC
        rw [← unhide HFB] at HNO HYS
        clear HFB
        unfold aggV at C1
        generalize fndA l (hs.getD k te) = y at *
        generalize fndB l (hs.getD k te) = z at *
        generalize hs.getD k te = n at *
        have HCQ : Hid (∀ W, Below wr.heap.size wr W → W.cell? ⟨w.heap.size, 0, none⟩ = some (.slice aa l.length ca) ∧ W.cell? ⟨bh, oh + k, none⟩ = some (.string n)) := fun W h => ⟨(h.cell (cell_lt c0)).trans c0, (h.cell (cell_lt q0)).trans q0⟩
        have oa : Below wr.heap.size wr (wr.alloc (.cells #[.string ⟨#[]⟩, .string ⟨#[]⟩, .int .i64 0, .int .i64 0, .bool false, .bool false] 65)) := Below.one wr _
        have kd : Below wr.heap.size wr wr.drew := (Below.refl _ wr).drew
        have ka : Below wr.heap.size wr (wr.alloc (.cells #[.string ⟨#[]⟩, .string ⟨#[]⟩, .int .i64 0, .int .i64 0, .bool false, .bool false] 65)).drew := oa.drew
        have XA : Hid (Bt wr.heap.size ty0 (wr.alloc (.cells #[.string ⟨#[]⟩, .string ⟨#[]⟩, .int .i64 0, .int .i64 0, .bool false, .bool false] 65)).drew) := heap_new wr _
        have hwd := hbw.trans (kd.mono hbw.size)
        have hwa := hbw.trans (ka.mono hbw.size)
        go_upto_region 7 with fail
        go_cut [12] from 36 to 45 (fun v12 wx => v12 = .bool z ∧ Below wr.heap.size wr wx)
        case first =>
          go_region_held3 (fun W => W.cell? ⟨w.heap.size, 0, none⟩ = some (.slice aa l.length ca) ∧ W.cell? ⟨bh, oh + k, none⟩ = some (.string n)) (first | with_reducible exact unhide HCQ _ kd | with_reducible exact unhide HCQ _ ka | with_reducible exact unhide HCQ _ t5 | with_reducible exact unhide HCQ _ t5a | with_reducible exact unhide HCQ _ t5p | assumption | go_keep)
            (first
              | (go_at_call 43; refine (unhide C1 _ (by with_reducible exact hwd)).mono ?_; rintro e w5 ⟨rfl, b5⟩; have t5 := kd.trans (b5.mono kd.size); have o5 := Below.one w5 (.cells #[.string ⟨#[]⟩, .string ⟨#[]⟩, .int .i64 0, .int .i64 0, .bool false, .bool false] 65); have t5a := t5.trans (o5.mono t5.size); have X5 : Hid (Bt w5.heap.size ty0 (w5.alloc (.cells #[.string ⟨#[]⟩, .string ⟨#[]⟩, .int .i64 0, .int .i64 0, .bool false, .bool false] 65))) := heap_new w5 _; have t5p := t5.trans ((Below.one w5 (.cells #[.string y.nam, .string y.abv, .int .i64 y.syn, .int .i64 y.rul, .bool y.sgl, .bool y.cls] 65)).mono t5.size); obtain ⟨x0, x1, x2, x3, x4, x5⟩ := (unhide X5).cells; simp only [Nat.zero_add] at x1 x2 x3 x4 x5; have f0 := (unhide X5).free 0; have f1 := (unhide X5).free 1; have f2 := (unhide X5).free 2; have f3 := (unhide X5).free 3; have f4 := (unhide X5).free 4; have f5 := (unhide X5).free 5)
              | (go_at_call 43; refine (unhide C1 _ (by with_reducible exact hwa)).mono ?_; rintro e w5 ⟨rfl, b5⟩; have t5 := ka.trans (b5.mono ka.size); have X5 := hide ((unhide XA).keep b5); have t5p := put_below t5 (Nat.le_refl wr.heap.size) y; unfold putT at t5p; obtain ⟨x0, x1, x2, x3, x4, x5⟩ := (unhide X5).cells; simp only [Nat.zero_add] at x1 x2 x3 x4 x5; have f0 := (unhide X5).free 0; have f1 := (unhide X5).free 1; have f2 := (unhide X5).free 2; have f3 := (unhide X5).free 3; have f4 := (unhide X5).free 4; have f5 := (unhide X5).free 5))
          all_goals
            go_wp2
            go_meet
            exact ⟨rfl, t5p⟩
        case rest =>
          obtain ⟨rfl, hkx⟩ := hcut
          have hbx := hb.trans (hkx.mono hsz)
          have hwx := hw1.trans (hbx.mono hw1.size)
          clear HCQ XA oa kd ka hwd hwa C1 c0 q0
          cases z
          · have HR : Hid (190 = R) := (unhide HNO rfl).symm
            go_wp2
            go_ret
            exact ⟨ret_int (unhide HR), hwx⟩
          · have HK2 := hide (unhide HYS rfl)
            go_wp2
            go_roundw
            case rel => exact ⟨k + 1, by omega, by go_num, unhide HK2, hbx⟩
            case measure => simp [intOf]; omega
      · have hzl : ¬ (k : Int) < (hs.length : Int) := by omega
        obtain rfl : k = hs.length := by omega
        have HR := hide (unhide HRE (unhide HK))
        clear HTY HRE HK
        have HMB : Hid (∀ i, i < M.length → mtA l hs (M.getD i te) = false → R = 200) := fun i hi h => by rw [unhide HR, all_bad (d := te) hi h]; rfl
        have HFB : Hid (∀ i, i < hs.length → frA l M Y (hs.getD i te) = false → R = 200) := fun i hi h => by rw [unhide HR, all_bad (f := fun h => frA l M Y h) (d := te) hi h, Bool.and_false]; rfl
        have HOK : Hid ((∀ i, i < M.length → mtA l hs (M.getD i te) = true) → (∀ i, i < hs.length → frA l M Y (hs.getD i te) = true) → R = 0) := fun h1 h2 => by rw [unhide HR, all_good (d := te) h1, all_good (f := fun h => frA l M Y h) (d := te) h2]; rfl
        clear HR
        go_wp2
        go_loopw [13] (fun vi ws => ∃ i : Nat, i ≤ M.length ∧ vi = .int .i64 (i : Int) ∧ Hid (∀ j, j < i → mtA l hs (M.getD j te) = true) ∧ Below w1.heap.size w1 ws) (fun i _ => M.length - (intOf i).toNat)
        case atStart => exact ⟨0, Nat.zero_le _, rfl, fun j hj => absurd hj (Nat.not_lt_zero _), hb⟩
        case round =>
          clear hb hbw hsz
          obtain ⟨i, hil, rfl, HI, hb⟩ := hrel
          have hsz := hb.size
          have hbw := hw1.trans (hb.mono hw1.size)
          by_cases hit : i < M.length
          · have iz1' : (i : Int) < (M.length : Int) := by omega
            have iz0' : (0 : Int) ≤ (i : Int) := by omega
            obtain ⟨bm, om, rfl, hmc⟩ := unhide HMC (by omega)
            have qm := (hb.cell (cell_lt (hmc i hit))).trans (hmc i hit)
            have HBAD := hide (unhide HMB i hit)
            have HGO : Hid (mtA l hs (M.getD i te) = true → ∀ j, j < i + 1 → mtA l hs (M.getD j te) = true) := fun h => next_of (p := fun j => mtA l hs (M.getD j te) = true) (unhide HI) h
            have HMK := hide (mtk_all l hs (M.getD i te))
            clear hmc HMB HI
            generalize M.getD i te = mi at *
            go_wp2
            go_loopw [14, 15] (fun vm vk wt => ∃ (k : Nat) (m : Bool), k ≤ hs.length ∧ vk = .int .i64 (k : Int) ∧ vm = .bool m ∧ Hid (m = mtk l hs mi k) ∧ Below wr.heap.size wr wt) (fun _ k _ => hs.length - (intOf k).toNat)
            case atStart => exact ⟨0, false, Nat.zero_le _, rfl, rfl, rfl, Below.refl _ _⟩
            case round =>
              obtain ⟨k, m, hkl2, rfl, rfl, HMM, hd⟩ := hrel
              have hds := hd.size
              have hbd := hb.trans (hd.mono hsz)
              have hwd := hw1.trans (hbd.mono hw1.size)
              by_cases hkt : k < hs.length
              · have kz1 : (k : Int) < (hs.length : Int) := by omega
                have kz0 : (0 : Int) ≤ (k : Int) := by omega
                obtain ⟨bh, oh, rfl, hhh⟩ := unhide HH _ hwd (by omega)
                have q0 := cell_bb (hhh k hkt)
                have q1 := cell_bb ((hd.cell (cell_lt qm)).trans qm)
                have c0 := cell_bb (unhide HS _ hbd)
                have HNX := hide (mtk_next (l := l) (m := mi) hkt)
                have C1 := hide (fun p : BB wr => unhide CI (hs.getD k te) mi p.W (hwd.trans (p.b.mono hwd.size)))
                clear hhh
                rw [← unhide HMM] at HNX
                generalize hs.getD k te = hk at *
                generalize isT l hk mi = z at *
                cases m
                · rw [Bool.false_or] at HNX
                  go_wp2
                  refine wp_region_below (by first | exact mx | assumption) (by kernel_rfl) ?_
                  intro nebb
                  repeat (go_big_quiet_step ((go_at_call 44; exact callsBB (unhide C1 _))))
                  refine wpQuiet_nil ?_
                  intro _ hw'
                  obtain ⟨pq, hw''⟩ := hw'
                  subst hw''
                  have bq := pq.b
                  generalize pq.W = wq at *
                  go_wp2
                  go_roundw
                  case rel => exact ⟨k + 1, z, by omega, by go_num, rfl, (unhide HNX).symm, hd.trans (bq.mono hds)⟩
                  case measure => simp [intOf]; omega
                · rw [Bool.true_or] at HNX
                  go_wp2
                  refine wp_region_below (by first | exact mx | assumption) (by kernel_rfl) ?_
                  intro nebb
                  repeat (go_big_quiet_step (fail))
                  refine wpQuiet_nil ?_
                  intro _ hw'
                  obtain ⟨pq, hw''⟩ := hw'
                  subst hw''
                  have bq := pq.b
                  generalize pq.W = wq at *
                  go_wp2
                  go_roundw
                  case rel => exact ⟨k + 1, true, by omega, by go_num, rfl, (unhide HNX).symm, hd.trans (bq.mono hds)⟩
                  case measure => simp [intOf]; omega
              · have kz1 : ¬ (k : Int) < (hs.length : Int) := by omega
                obtain rfl : k = hs.length := by omega
                rw [unhide HMK] at HMM
                cases m
                · have HR : Hid (200 = R) := (unhide HBAD (unhide HMM).symm).symm
                  clear HMM HGO HBAD
                  go_wp2
                  go_ret
                  exact ⟨ret_int (unhide HR), hwd⟩
                · have HI2 := hide (unhide HGO (unhide HMM).symm)
                  clear HMM HGO HBAD
                  go_wp2
                  go_roundw
                  case rel => exact ⟨i + 1, by omega, by go_num, unhide HI2, hbd⟩
                  case measure => simp [intOf]; omega
          · have iz1' : ¬ (i : Int) < (M.length : Int) := by omega
            obtain rfl : i = M.length := by omega
            have HOK2 := hide (unhide HOK (unhide HI))
            clear HI HOK HMB
            go_wp2
            go_loopw [16] (fun vk ws => ∃ k : Nat, k ≤ hs.length ∧ vk = .int .i64 (k : Int) ∧ Hid (∀ j, j < k → frA l M Y (hs.getD j te) = true) ∧ Below w1.heap.size w1 ws) (fun k _ => hs.length - (intOf k).toNat)
            case atStart => exact ⟨0, Nat.zero_le _, rfl, fun j hj => absurd hj (Nat.not_lt_zero _), hb⟩
            case round =>
              clear hb hbw hsz
              obtain ⟨k, hkl2, rfl, HI, hb⟩ := hrel
              have hsz := hb.size
              have hbw := hw1.trans (hb.mono hw1.size)
              by_cases hkt : k < hs.length
              · have kz1 : (k : Int) < (hs.length : Int) := by omega
                have kz0 : (0 : Int) ≤ (k : Int) := by omega
                obtain ⟨bh, oh, rfl, hhh⟩ := unhide HH _ hbw (by omega)
                have q0 := hhh k hkt
                have c0 := unhide HS _ hb
                have HBAD := hide (unhide HFB k hkt)
                have HGO : Hid (frA l M Y (hs.getD k te) = true → ∀ j, j < k + 1 → frA l M Y (hs.getD j te) = true) := fun h => next_of (p := fun j => frA l M Y (hs.getD j te) = true) (unhide HI) h
                have HFK := hide (frk_all l M Y (hs.getD k te))
                have hlen := line_len l (hs.getD k te)
                have C1 := hide (unhide CL (hs.getD k te) wr.drew hbw.drew)
                have kd : Below wr.heap.size wr wr.drew := (Below.refl _ wr).drew
                clear hhh HI CF CI CL HFB HOK2 HMC
                generalize lineT l (hs.getD k te) = L at *
                generalize frA l M Y (hs.getD k te) = fr at *
                generalize hs.getD k te = hk at *
                go_wp2
                go_region_held3 (fun W => W.cell? ⟨w.heap.size, 0, none⟩ = some (.slice aa l.length ca) ∧ W.cell? ⟨bh, oh + k, none⟩ = some (.string hk)) (first | with_reducible exact ⟨c0, q0⟩ | with_reducible exact ⟨d0, d1⟩ | assumption | go_keep)
                  (first | (go_at_call 45; refine (unhide C1).mono ?_; rintro e w4 ⟨u, rfl, hu, b4⟩; have k4 := kd.trans (b4.mono kd.size); have d0 := (k4.cell (cell_lt c0)).trans c0; have d1 := (k4.cell (cell_lt q0)).trans q0; obtain ⟨ul, uc, rfl, hu9, huc⟩ := hu.ts (by omega); have HUC := hide huc; clear huc hu))
                try simp only [Exit.then]
                go_wp2
                have hb4 := hb.trans (k4.mono hsz)
                go_loopw [18, 19] (fun vf vi wt => ∃ (i : Nat) (f : Bool), i ≤ L.length ∧ vi = .int .i64 (i : Int) ∧ vf = .bool f ∧ Hid (f = frk M Y L i) ∧ Below w4.heap.size w4 wt) (fun _ i _ => L.length - (intOf i).toNat)
                case atStart => exact ⟨0, false, Nat.zero_le _, rfl, rfl, rfl, Below.refl _ _⟩
                case round =>
                  obtain ⟨i, f, hil2, rfl, rfl, HFF, hd⟩ := hrel
                  have hds := hd.size
                  have hbd := hb4.trans (hd.mono hb4.size)
                  have hwd := hw1.trans (hbd.mono hw1.size)
                  by_cases hit2 : i < L.length
                  · have jz1 : (i : Int) < (L.length : Int) := by omega
                    have jz0 : (0 : Int) ≤ (i : Int) := by omega
                    obtain ⟨bu, ou, rfl, huu⟩ := unhide HUC (by omega)
                    have qu := cell_bb ((hd.cell (cell_lt (huu i hit2))).trans (huu i hit2))
                    have HNX := hide (frk_next (M := M) (Y := Y) hit2)
                    have CM1 := hide (fun p : BB wr => rhas_any _ M (L.getD i te) p.W ((unhide HM).below (hbd.trans (p.b.mono hbd.size))))
                    have CY1 := hide (fun p : BB wr => rhas_any _ Y (L.getD i te) p.W ((unhide HY).below (hbd.trans (p.b.mono hbd.size))))
                    clear huu
                    rw [← unhide HFF] at HNX
                    generalize L.getD i te = x at *
                    generalize hasL M x = zm at *
                    generalize hasL Y x = zy at *
                    have qp := qu ⟨wr, Below.refl _ _⟩
                    have CM2 := hide (unhide CM1 ⟨wr, Below.refl _ _⟩)
                    have CY2 := hide (unhide CY1 ⟨wr, Below.refl _ _⟩)
                    clear CM1 CY1 qu
                    cases f
                    · rw [Bool.false_or] at HNX
                      cases zm
                      · rw [Bool.false_or] at HNX
                        go_wp2_with (first
                          | (go_at_call 21; refine (unhide CM2).mono ?_; clear CM2; rintro e w6 ⟨rfl, rfl⟩)
                          | (go_at_call 21; refine (unhide CY2).mono ?_; rintro e w6 ⟨rfl, rfl⟩))
                        go_roundw
                        case rel => exact ⟨i + 1, zy, by omega, by go_num, rfl, (unhide HNX).symm, hd⟩
                        case measure => simp [intOf]; omega
                      · rw [Bool.true_or] at HNX
                        go_wp2_with (go_at_call 21; refine (unhide CM2).mono ?_; rintro e w6 ⟨rfl, rfl⟩)
                        go_roundw
                        case rel => exact ⟨i + 1, true, by omega, by go_num, rfl, (unhide HNX).symm, hd⟩
                        case measure => simp [intOf]; omega
                    · rw [Bool.true_or] at HNX
                      go_wp2
                      go_roundw
                      case rel => exact ⟨i + 1, true, by omega, by go_num, rfl, (unhide HNX).symm, hd⟩
                      case measure => simp [intOf]; omega
                  · have jz1 : ¬ (i : Int) < (L.length : Int) := by omega
                    obtain rfl : i = L.length := by omega
                    rw [unhide HFK] at HFF
                    cases f
                    · have HR : Hid (200 = R) := (unhide HBAD (unhide HFF).symm).symm
                      clear HFF HGO HBAD
                      go_wp2
                      go_ret
                      exact ⟨ret_int (unhide HR), hwd⟩
                    · have HI2 := hide (unhide HGO (unhide HFF).symm)
                      clear HFF HGO HBAD
                      go_wp2
                      go_roundw
                      case rel => exact ⟨k + 1, by omega, by go_num, unhide HI2, hbd⟩
                      case measure => simp [intOf]; omega
              · have kz1 : ¬ (k : Int) < (hs.length : Int) := by omega
                obtain rfl : k = hs.length := by omega
                have HR : Hid (0 = R) := (unhide HOK2 (unhide HI)).symm
                clear HI HOK2
                go_wp2
                go_ret
                exact ⟨ret_int (unhide HR), hbw⟩
  · have hne : (nedE l cs ns != 0) = true := by simpa using h0
    rw [fitC_ned h0]
    clear h0 CF CI CL
    generalize nedE l cs ns = R at *
    generalize nedM l cs ns = M at *
    generalize nedY l cs ns = Y at *
    go_enter Try.func18, Try.ntmps18
    go_wp2_with (go_at_call 16; refine (unhide CN _ b0).mono ?_; rintro e w1 ⟨u1, u2, rfl, hm, hy, k1⟩; have t1 := b0.trans (k1.mono b0.size))
    go_ret
    exact ⟨rfl, t1⟩
end Go.Proofs.Ytjjildpdelkejaa
