/- The landed enough, Check and Line of layer 21. -/
import Derived.Test.YtjjildpdelkejaaM19
import Derived.Test.YtjjildpdelkejaaM20
import Derived.Test.YtjjildpdelkejaaM21
namespace Go.Proofs.Ytjjildpdelkejaa
open Go.RowKit

set_option maxHeartbeats 3200000 in
theorem enough_any (v vn : Value) (cs : List Cl) (ns : List ByteArray) (w : World) (hC : ClsV w v cs) (hN : TsV w vn ns) : Calls Try.prog 31 #[v, vn] w fun e w' => e = .returned (.bool (thrC cs ns && whoC cs ns)) ∧ Below w.heap.size w w' := by
  have CF := hide (fun n W (h : Below w.heap.size w W) => cfind_any v cs n W (hC.below h))
  obtain ⟨ac, cc, rfl⟩ := hC.shape
  obtain ⟨an, cn, rfl, hn9, hcn⟩ := hN
  have HCN := hide hcn
  clear hC hcn
  go_enter Try.func31, Try.ntmps31
  go_wp2
  go_loopw [5, 12] (fun vo vi wr => ∃ k : Nat, k ≤ ns.length ∧ vi = .int .i64 (k : Int) ∧ vo = .bool (whoC cs (ns.take k)) ∧ Hid (thrC cs (ns.take k) = true) ∧ Below w.heap.size w wr) (fun _ i _ => ns.length - (intOf i).toNat)
  case atStart => exact ⟨0, Nat.zero_le _, rfl, rfl, rfl, Below.refl _ _⟩
  case round =>
    obtain ⟨k, hkl, rfl, rfl, HT, hb⟩ := hrel
    have hsz := hb.size
    by_cases hlt : k < ns.length
    · have hzl : (k : Int) < (ns.length : Int) := by omega
      have hz0 : (0 : Int) ≤ (k : Int) := by omega
      obtain ⟨bn, on, rfl, hcc⟩ := unhide HCN (by omega)
      have q0 := (hb.cell (cell_lt (hcc k hlt))).trans (hcc k hlt)
      have C1 := hide (unhide CF (ns.getD k te) wr hb)
      cases hf : fndC cs (ns.getD k te) with
      | none =>
        have HE : Hid (false = (thrC cs ns && whoC cs ns)) := by show _ = _; rw [thrC_no hlt hf]; rfl
        obtain ⟨e1, e2⟩ := fc_no hf
        rw [e1, e2] at C1
        clear hcc HCN CF hf e1 e2 HT
        generalize ns.getD k te = n at *
        generalize whoC cs (ns.take k) = z at *
        go_wp2_with (go_at_call 54; refine (unhide C1).mono ?_; rintro e w2 ⟨p1, q1, p2, q2, rfl, _, _, b2⟩; have t2 := hb.trans (b2.mono hsz))
        go_ret
        exact ⟨ret_bool (unhide HE), t2.alloc t2.size _⟩
      | some c =>
        have HW := hide (whoC_next hlt hf)
        have HT2 := hide (thrC_next hlt (unhide HT) hf)
        obtain ⟨e1, e2⟩ := fc_yes hf
        rw [e1, e2] at C1
        clear hcc HCN CF hf e1 e2 HT
        generalize ns.getD k te = n at *
        generalize whoC cs (ns.take k) = z at *
        cases z
        · rw [Bool.false_or] at HW
          go_wp2_with (go_at_call 54; refine (unhide C1).mono ?_; rintro e w2 ⟨p1, q1, p2, q2, rfl, _, _, b2⟩; have t2 := hb.trans (b2.mono hsz); have B2 : Hid (Bc w2.heap.size c (.slice p1 c.mus.length q1) (.slice p2 c.may.length q2) (w2.alloc (.cells #[.string c.nam, .string c.abv, .bool c.bar, .slice p1 c.mus.length q1, .slice p2 c.may.length q2] 49))) := heap_new w2 _; obtain ⟨z0, z1, z2, z3, z4⟩ := (unhide B2).cells)
          go_roundw
          case rel => exact ⟨k + 1, by omega, by go_num, by rw [unhide HW], unhide HT2, t2.alloc t2.size _⟩
          case measure => simp [intOf]; omega
        · rw [Bool.true_or] at HW
          go_wp2_with (go_at_call 54; refine (unhide C1).mono ?_; rintro e w2 ⟨p1, q1, p2, q2, rfl, _, _, b2⟩; have t2 := hb.trans (b2.mono hsz); have B2 : Hid (Bc w2.heap.size c (.slice p1 c.mus.length q1) (.slice p2 c.may.length q2) (w2.alloc (.cells #[.string c.nam, .string c.abv, .bool c.bar, .slice p1 c.mus.length q1, .slice p2 c.may.length q2] 49))) := heap_new w2 _; obtain ⟨z0, z1, z2, z3, z4⟩ := (unhide B2).cells)
          go_roundw
          case rel => exact ⟨k + 1, by omega, by go_num, by rw [unhide HW], unhide HT2, t2.alloc t2.size _⟩
          case measure => simp [intOf]; omega
    · have hzl : ¬ (k : Int) < (ns.length : Int) := by omega
      obtain rfl : k = ns.length := by omega
      have HE : Hid (whoC cs (ns.take ns.length) = (thrC cs ns && whoC cs ns)) := by
        have h := unhide HT
        rw [List.take_length] at h
        show _ = _
        rw [List.take_length, h, Bool.true_and]
      clear HT CF HCN
      generalize whoC cs (ns.take ns.length) = z at *
      go_wp2
      go_ret
      exact ⟨ret_bool (unhide HE), hb⟩
def smC (c : Cl) : Bool := decide (c.mus.length ≤ 20 ∧ c.may.length ≤ 20 ∧ c.nam.size ≤ 1000 ∧ c.abv.size ≤ 1000)
/-- Has a schema so few of all? -/
def fewC (l : List Ty) (cs : List Cl) : Bool := fewT l && (decide (cs.length ≤ 20) && cs.all smC)
theorem fewC_T {l : List Ty} {cs : List Cl} (h : fewC l cs = true) : fewT l = true := by
  unfold fewC at h
  rw [Bool.and_eq_true] at h
  exact h.1
set_option maxHeartbeats 1600000 in
theorem ccheck_any (va vc : Value) (l : List Ty) (cs : List Cl) (w : World) (hL : Ly w) (hF : fewC l cs = true) (hT : TysV w va l) (hC : ClsV w vc cs) : Calls Try.prog 10 #[.agg #[va, vc]] w fun e w' => e = .returned (.int .i64 (chkC l cs)) ∧ Below w.heap.size w w' := by
  have b0 := Below.one w (.cells #[va, vc] 25)
  have CA := hide (fun W (h : Below w.heap.size w W) => acheck_any va l W (hL.keep h) (fewC_T hF) (hT.below h))
  have CM := hide (fun (h : okT l = true) W (k : Below w.heap.size w W) => cmay_any va vc l cs W h (hT.below k) (hC.below k))
  obtain ⟨aa, ca, rfl⟩ := hT.shape
  obtain ⟨ac, cc, rfl⟩ := hC.shape
  have S0 : Hid (Bs w.heap.size (.slice aa l.length ca) (.slice ac cs.length cc) (w.alloc (.cells #[.slice aa l.length ca, .slice ac cs.length cc] 25))) := heap_new w _
  obtain ⟨s0, s1⟩ := (unhide S0).cells
  clear hT hC
  cases hk : okT l
  · rw [chk_bad hk] at CA
    have HE : Hid (190 = chkC l cs) := by show _ = _; unfold chkC; rw [hk]; rfl
    clear CM hk
    go_enter Try.func10, Try.ntmps10
    go_wp2_with (go_at_call 25; refine (unhide CA _ b0).mono ?_; rintro e w1 ⟨rfl, b1⟩; have t1 := b0.trans (b1.mono b0.size))
    go_ret
    exact ⟨ret_int (unhide HE), t1⟩
  · rw [chk_ok hk] at CA
    have CM2 := hide (unhide CM hk)
    have HE : Hid ((if okC l cs then 0 else 200) = chkC l cs) := by show _ = _; unfold chkC; rw [if_pos hk]
    clear CM hk
    generalize chkC l cs = E at *
    generalize okC l cs = z at *
    cases z
    · go_enter Try.func10, Try.ntmps10
      go_wp2_with (first
        | (go_at_call 26; refine (unhide CM2 _ t1).mono ?_; rintro e w2 ⟨rfl, b2⟩; have t2 := t1.trans (b2.mono t1.size))
        | (go_at_call 25; refine (unhide CA _ b0).mono ?_; rintro e w1 ⟨rfl, b1⟩; have t1 := b0.trans (b1.mono b0.size); obtain ⟨u0, u1⟩ := ((unhide S0).keep b1).cells))
      go_ret
      exact ⟨ret_int (unhide HE), t2⟩
    · go_enter Try.func10, Try.ntmps10
      go_wp2_with (first
        | (go_at_call 26; refine (unhide CM2 _ t1).mono ?_; rintro e w2 ⟨rfl, b2⟩; have t2 := t1.trans (b2.mono t1.size))
        | (go_at_call 25; refine (unhide CA _ b0).mono ?_; rintro e w1 ⟨rfl, b1⟩; have t1 := b0.trans (b1.mono b0.size); obtain ⟨u0, u1⟩ := ((unhide S0).keep b1).cells))
      go_ret
      exact ⟨ret_int (unhide HE), t2⟩
theorem nam_next {X : List Cl} {j : Nat} (h : j < X.length) : (X.take (j + 1)).map (·.nam) = (X.take j).map (·.nam) ++ [(X.getD j cl0).nam] := by
  rw [List.take_succ_eq_append_getElem h, List.map_append]
  simp [List.getD, h]
theorem nw1 (w : World) (o : Obj) (s : ByteArray) : ∀ j u, ([.string s] : List Value)[j]? = some u → ((w.alloc o).alloc (.cells #[.string s] 9)).cell? ((⟨w.heap.size + 1, 0, none⟩ : Addr).add j) = some u := by
  have hn := heap_new (w.alloc o) (.cells #[.string s] 9)
  rw [World.size_alloc] at hn
  exact World.news_of_block (cs := #[.string s]) (t := 9) (fr := (0, 0)) hn
set_option maxHeartbeats 3200000 in
set_option maxRecDepth 100000 in
theorem cline_any (va vc : Value) (l : List Ty) (cs : List Cl) (n : ByteArray) (w : World) (hL : Ly w) (hF : fewC l cs = true) (hT : TysV w va l) (hC : ClsV w vc cs) : Calls Try.prog 13 #[.agg #[va, vc], .string n] w fun e w' => ∃ u, e = .returned u ∧ TsV w' u (lineC l cs n) ∧ Below w.heap.size w w' := by
  have b0 := Below.one w (.cells #[va, vc] 25)
  have CK := hide (fun W (h : Below w.heap.size w W) => ccheck_any va vc l cs W (hL.keep h) hF (hT.below h) (hC.below h))
  have CL := hide (fun (h : okC l cs = true) W (k : Below w.heap.size w W) => lines_any vc (.slice (some ⟨W.heap.size, 0, none⟩) 1 1) l cs [n] (W.alloc (.cells #[.string n] 9)) h ((hC.below k).below (Below.one W _)) (one_ts W n _) (by simp))
  obtain ⟨i0, hi, iz0, iz1, iz2⟩ := info_parts str_info
  obtain ⟨aa, ca, rfl⟩ := hT.shape
  obtain ⟨ac, cc, rfl⟩ := hC.shape
  have S0 : Hid (Bs w.heap.size (.slice aa l.length ca) (.slice ac cs.length cc) (w.alloc (.cells #[.slice aa l.length ca, .slice ac cs.length cc] 25))) := heap_new w _
  obtain ⟨s0, s1⟩ := (unhide S0).cells
  clear hT hC
  by_cases h0 : chkC l cs = 0
  · have hok := (chkC_ok h0).2
    have CL2 := hide (unhide CL hok)
    rw [lns_one hok] at CL2
    have hlen : (linC cs n).length ≤ 14 := by have := linC_len cs n; have := okC_12 hok; omega
    have HE : Hid (lineC l cs n = (linC cs n).map (·.nam)) := by show _ = _; unfold lineC; rw [if_pos h0]
    rw [h0] at CK
    clear h0 hok CL
    generalize lineC l cs n = R at *
    generalize linC cs n = X at *
    go_enter Try.func13, Try.ntmps13
    go_wp2_with (first
      | (go_at_call 29; refine (unhide CL2 _ t1).mono ?_; rintro e w2 ⟨u, rfl, hu, b2⟩; have HU := hide hu; obtain ⟨ua, uc, rfl⟩ := hu.shape; clear hu; have k2 := (Below.one w1 (.cells #[.string n] 9)).trans (b2.mono (Below.one w1 (.cells #[.string n] 9)).size); have t2 := t1.trans (k2.mono t1.size))
      | (go_at_call 10; refine (unhide CK _ b0).mono ?_; rintro e w1 ⟨rfl, b1⟩; have t1 := b0.trans (b1.mono b0.size); obtain ⟨v0, v1⟩ := ((unhide S0).keep b1).cells))
    go_loopw [5, 17] (fun vo vi wr => ∃ k : Nat, k ≤ X.length ∧ vi = .int .i64 (k : Int) ∧ Hid (Tx w2.heap.size vo ((X.take k).map (·.nam)) wr) ∧ Below w2.heap.size w2 wr) (fun _ i _ => X.length - (intOf i).toNat)
    case atStart => exact ⟨0, Nat.zero_le _, rfl, Tx.nil _ _, Below.refl _ _⟩
    case round =>
      obtain ⟨k, hkl, rfl, HX, hb⟩ := hrel
      have hsz := hb.size
      by_cases hlt : k < X.length
      · have hzl : (k : Int) < (X.length : Int) := by omega
        have hz0 : (0 : Int) ≤ (k : Int) := by omega
        obtain ⟨ua', uc', hvv, _, hcc⟩ := (unhide HU).below hb
        cases hvv
        obtain ⟨b, off, rfl, hce⟩ := hcc (by omega)
        obtain ⟨d0, d1, d2, ⟨vm, d3, hM⟩, ⟨vy, d4, hY⟩⟩ := hce k hlt
        obtain ⟨am, cm, rfl, _⟩ := hM
        obtain ⟨ay, cy, rfl, _⟩ := hY
        have HNX := hide (nam_next hlt)
        obtain ⟨N, hN⟩ : ∃ N, N = ((X.take k).map (·.nam)).length := ⟨_, rfl⟩
        have hNk : N ≤ 14 := by rw [hN, List.length_map, List.length_take]; omega
        have HN := hide hN
        clear hcc hce hN
        generalize (X.take k).map (·.nam) = L at *
        generalize X.getD k cl0 = y at *
        have hm1 : N + 1 ≤ maxLen := by unfold maxLen; omega
        have hm2 : (N + 1) * 16 ≤ 140737488355328 := by omega
        have o1 := Below.one wr (.cells #[.string y.nam, .string y.abv, .bool y.bar, .slice am y.mus.length cm, .slice ay y.may.length cy] 49)
        have t3 := hb.trans (o1.mono hsz)
        have hs3 := t3.size
        have HX1 := hide ((unhide HX).below o1)
        have B2 : Hid (Bc wr.heap.size y (.slice am y.mus.length cm) (.slice ay y.may.length cy) (wr.alloc (.cells #[.string y.nam, .string y.abv, .bool y.bar, .slice am y.mus.length cm, .slice ay y.may.length cy] 49))) := heap_new wr _
        obtain ⟨z0, z1, z2, z3, z4⟩ := (unhide B2).cells
        have HNW := hide (nw1 wr (.cells #[.string y.nam, .string y.abv, .bool y.bar, .slice am y.mus.length cm, .slice ay y.may.length cy] 49) y.nam)
        go_wp2_with (at_builtin; refine wpList_append_lies _ rfl _ _ 32 rfl w2.heap.size 9 i0 _ 1 16 Try.underlying32 hi iz0 iz1 iz2 rfl (by omega) _ N _ rfl (World.ownsRow.alloc (Tx.own (unhide HN) (unhide HX1)) _) ⟨wr.heap.size + 1, 0, none⟩ 1 1 [.string y.nam] rfl rfl (by with_reducible exact unhide HNW) (by simp [Value.oneCell']) (by omega) hm1 hm2 (by simp; omega) (wr.heap.size + 1 + 1) (by simp) ?_; intro g9 cap9 w9 hown9 hgrow9 hat9 hlt9; have hb9 := t3.trans (below_own (grown_one hgrow9) hs3 (own_block (Tx.own (unhide HN) (unhide HX1)))); have HT9 := hide (Tx.push (unhide HN) hown9); clear hown9 hgrow9 hat9 hlt9)
        go_roundw
        case rel => exact ⟨k + 1, by omega, by go_num, by rw [unhide HNX]; exact unhide HT9, hb9⟩
        case measure => simp [intOf]; omega
      · have hzl : ¬ (k : Int) < (X.length : Int) := by omega
        obtain rfl : k = X.length := by omega
        rw [List.take_length, ← unhide HE] at HX
        have hRl : R.length ≤ 14 := by rw [unhide HE, List.length_map]; exact hlen
        have HUU := hide ((unhide HX).ts (by omega))
        clear HX HU
        go_wp2
        go_ret
        exact ⟨_, rfl, unhide HUU, t2.trans (hb.mono t2.size)⟩
  · have HE : Hid (lineC l cs n = []) := by show _ = _; unfold lineC; rw [if_neg h0]
    have hne : (chkC l cs != 0) = true := by simpa using h0
    rw [unhide HE]
    clear h0 CL HE
    generalize chkC l cs = R at *
    go_enter Try.func13, Try.ntmps13
    go_wp2_with (go_at_call 10; refine (unhide CK _ b0).mono ?_; rintro e w1 ⟨rfl, b1⟩; have t1 := b0.trans (b1.mono b0.size))
    go_ret
    exact ⟨_, rfl, nil_ts0 _ _ _, t1⟩
end Go.Proofs.Ytjjildpdelkejaa
