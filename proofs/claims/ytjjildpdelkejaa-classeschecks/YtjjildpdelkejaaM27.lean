/- The landed Fit of layer 21; with Ne21 and En21 the contracts of classes, in the laws' form. -/
import Derived.Test.YtjjildpdelkejaaM23
import Derived.Test.YtjjildpdelkejaaM24
import Derived.Test.YtjjildpdelkejaaM25
import Derived.Test.YtjjildpdelkejaaM26
namespace Go.Proofs.Ytjjildpdelkejaa
open Go.RowKit

theorem line_in {l : List Ty} (hk : okT l = true) {h n : ByteArray} (hi : isT l h n = true) : ∃ x ∈ l, x.nam = h := by
  unfold isT lineT at hi
  rw [find_ok hk] at hi
  cases hf : fndT l h with
  | none => rw [hf] at hi; cases hi
  | some a =>
    unfold fndT at hf
    exact ⟨a, List.mem_of_find?_eq_some hf, by simpa using List.find?_some hf⟩
theorem bel_has {l : List Ty} (hk : okT l = true) (ns : List ByteArray) (h : ByteArray) : hasT (belT l ns) h = ns.any fun n => isT l h n := by
  rw [Bool.eq_iff_iff]
  unfold hasT belT
  rw [List.any_eq_true, List.any_eq_true]
  constructor
  · rintro ⟨y, hy, e⟩
    obtain ⟨x, hx, rfl⟩ := List.mem_map.1 hy
    have := (List.mem_filter.1 hx).2
    rw [← (of_decide_eq_true e : h = x.nam)] at this
    exact List.any_eq_true.1 this
  · rintro ⟨n, hn, hi⟩
    obtain ⟨x, hx, e⟩ := line_in hk hi
    refine ⟨x.nam, List.mem_map.2 ⟨x, List.mem_filter.2 ⟨hx, List.any_eq_true.2 ⟨n, hn, ?_⟩⟩, rfl⟩, decide_eq_true e.symm⟩
    rw [e]
    exact hi
theorem met_bel {l : List Ty} (hk : okT l = true) (hs : List ByteArray) (m : ByteArray) : (hs.any fun x => hasT (belT l [m]) x) = mtA l hs m := by
  unfold mtA
  congr 1
  funext x
  rw [bel_has hk]
  simp
theorem fr_bel {l : List Ty} (hk : okT l = true) (M Y : List ByteArray) (h : ByteArray) : hasT (belT l (M ++ Y)) h = frA l M Y h := by
  rw [bel_has hk]
  unfold frA isT
  rw [Bool.eq_iff_iff, List.any_eq_true, List.any_eq_true]
  constructor
  · rintro ⟨n, hn, hi⟩
    obtain ⟨x, hx, e⟩ := List.any_eq_true.1 hi
    have e := of_decide_eq_true e
    refine ⟨x, hx, ?_⟩
    rw [Bool.or_eq_true, List.any_eq_true, List.any_eq_true]
    rcases List.mem_append.1 hn with q | q
    · exact .inl ⟨n, q, decide_eq_true e.symm⟩
    · exact .inr ⟨n, q, decide_eq_true e.symm⟩
  · rintro ⟨x, hx, hi⟩
    rw [Bool.or_eq_true, List.any_eq_true, List.any_eq_true] at hi
    rcases hi with ⟨n, q, e⟩ | ⟨n, q, e⟩
    · exact ⟨n, List.mem_append.2 (.inl q), List.any_eq_true.2 ⟨x, hx, decide_eq_true (of_decide_eq_true e).symm⟩⟩
    · exact ⟨n, List.mem_append.2 (.inr q), List.any_eq_true.2 ⟨x, hx, decide_eq_true (of_decide_eq_true e).symm⟩⟩
theorem ned_len {l : List Ty} {cs : List Cl} (ns : List ByteArray) (hl : ns.length ≤ 100) (h : nedE l cs ns = 0) : okT l = true ∧ (nedM l cs ns).length ≤ 20000 ∧ (nedY l cs ns).length ≤ 20000 := by
  have h0 : chkC l cs = 0 := by
    unfold nedE at h
    split at h
    · rename_i q; exact q
    · exact h
  obtain ⟨hk, hok⟩ := chkC_ok h0
  have h12 := okC_12 hok
  have hX : (allC cs ns).length ≤ 1400 := by
    have : ∀ L : List ByteArray, (allC cs L).length ≤ L.length * 14 := fun L => by
      unfold allC
      induction L with
      | nil => simp
      | cons n t ih =>
        have := linC_len cs n
        rw [List.flatMap_cons, List.length_append, List.length_cons]
        omega
    have := this ns
    omega
  have h8 : ∀ c ∈ allC cs ns, c.mus.length ≤ 8 ∧ c.may.length ≤ 8 := fun c hc => by
    obtain ⟨n, _, hn⟩ := mem_allC.1 hc
    exact okC_mus hok (linC_in c hn)
  have hM := mF_len (N := 8) (allC cs ns) [] (fun c hc => (h8 c hc).1)
  have hY := yF_len (N := 8) (allC cs ns) [] (fun c hc => (h8 c hc).2)
  rw [← musL_eq] at hM
  rw [← malL_eq] at hY
  refine ⟨hk, ?_, ?_⟩
  · unfold nedM
    rw [if_pos h]
    simp at hM
    omega
  · unfold nedY mayL
    rw [if_pos h]
    have := List.length_filter_le (fun x => !(musL cs ns).any fun y => decide (y = x)) (malL cs ns)
    simp at hY
    omega
theorem box_one {w : World} {b : Nat} {v : Value} (h : w.heap[b]? = some (.cells #[v] 32)) : w.cell? ⟨b, 0, none⟩ = some v ∧ w.frozen? ⟨b, 0, none⟩ = false := by
  constructor
  · unfold World.cell?
    rw [show w.heap[(⟨b, 0, none⟩ : Addr).block]? = w.heap[b]? from rfl, h]
    rfl
  · unfold World.frozen?
    rw [show w.heap[(⟨b, 0, none⟩ : Addr).block]? = w.heap[b]? from rfl, h]
    simp
theorem two_new (w : World) (v u : Value) : (w.alloc (.cells #[v, u] 32)).cell? ⟨w.heap.size, 0, none⟩ = some v ∧ (w.alloc (.cells #[v, u] 32)).cell? ⟨w.heap.size, 1, none⟩ = some u := by
  constructor
  · unfold World.cell?
    rw [show (w.alloc (.cells #[v, u] 32)).heap[(⟨w.heap.size, 0, none⟩ : Addr).block]? = _ from heap_new w _]
    rfl
  · unfold World.cell?
    rw [show (w.alloc (.cells #[v, u] 32)).heap[(⟨w.heap.size, 1, none⟩ : Addr).block]? = _ from heap_new w _]
    rfl
theorem ts_app {w : World} {v : Value} {M Y : List ByteArray} (h : TsV w v (M ++ Y)) : ∃ a c, v = .slice a (M.length + Y.length) c := by
  obtain ⟨a, c, e, _⟩ := h
  exact ⟨a, c, by rw [e, List.length_append]⟩
theorem fin_set {B : Nat} {w0 w : World} {b : Nat} {v : Value} {a : Option Addr} {c : Nat} {L : List ByteArray} (h : w.heap[b]? = some (.cells #[v] 32)) (hk : Below B w0 w) (hb : B ≤ b) (hV : TsV w (.slice a L.length c) L) (hn : v = .slice none 0 0 := by rfl) : (w.setCell ⟨b, 0, none⟩ (.slice a L.length c)).cell? ⟨b, 0, none⟩ = some (.slice a L.length c) ∧ TsV (w.setCell ⟨b, 0, none⟩ (.slice a L.length c)) (.slice a L.length c) L ∧ Below B w0 (w.setCell ⟨b, 0, none⟩ (.slice a L.length c)) := by
  have hc := (box_one h).1
  refine ⟨World.cell?_setCell_same' w _ _ (by rw [hc]; rfl), ?_, hk.setCell hb _⟩
  obtain ⟨a', c', e, hn', hcc⟩ := hV
  cases e
  refine ⟨a, c, rfl, hn', fun hi => ?_⟩
  obtain ⟨g, off, rfl, hce⟩ := hcc hi
  refine ⟨g, off, rfl, fun j hj => ?_⟩
  have q := hce j hj
  have hne : g ≠ b := fun e => by
    subst e
    have hl : off + j = 0 := by
      rcases Nat.eq_zero_or_pos (off + j) with r | r
      · exact r
      · exfalso
        unfold World.cell? at q
        rw [show w.heap[(⟨g, off + j, none⟩ : Addr).block]? = w.heap[g]? from rfl, h] at q
        simp at q
        have := (List.getElem?_eq_some_iff.1 (show ([v] : List Value)[off + j]? = some (.string (L.getD j te)) by simpa using q)).1
        simp at this
        omega
    rw [hl, hc, hn] at q
    cases q
  exact (World.cell?_of_block (heap_setCell_other w ⟨b, 0, none⟩ g _ hne)).trans q
theorem fin_new {w0 w : World} {T : TypeId} {a : Option Addr} {c : Nat} {L : List ByteArray} (hk : Below w0.heap.size w0 w) (hV : TsV w (.slice a L.length c) L) : (w.alloc (.cells #[.slice a L.length c] T)).cell? ⟨w.heap.size, 0, none⟩ = some (.slice a L.length c) ∧ TsV (w.alloc (.cells #[.slice a L.length c] T)) (.slice a L.length c) L ∧ Below w0.heap.size w0 (w.alloc (.cells #[.slice a L.length c] T)) :=
  ⟨cell_one w _ _, hV.below (Below.one w _), hk.alloc hk.size _⟩
set_option maxHeartbeats 25600000 in
set_option maxRecDepth 100000 in
theorem cfit_any (va vc vn vh : Value) (l : List Ty) (cs : List Cl) (ns hs : List ByteArray) (w : World) (hL : Ly w) (hF : fewC l cs = true) (hT : TysV w va l) (hC : ClsV w vc cs) (hN : TsV w vn ns) (hH : TsV w vh hs) (hl : ns.length ≤ 100) (_ : hs.length ≤ 100) : Calls Try.prog 17 #[.agg #[va, vc], vn, vh] w fun e w' => e = .returned (.int .i64 (fitC l cs ns hs)) ∧ Below w.heap.size w w' := by
  have mx : Try.prog.follows .mixedOrders = true := by kernel_rfl
  have hmf : ∀ (fn : Fn) (first cap : Array Value) (w : World), (Instr.makeFunc fn first cap).run Try.prog w = .ok (.func fn first cap) w := fun _ _ _ _ => rfl
  have b0 := Below.one w (.cells #[va, vc] 25)
  have CN := hide (fun W (h : Below w.heap.size w W) => cneed_any va vc vn l cs ns W (hL.keep h) hF (hT.below h) (hC.below h) (hN.below h) hl)
  have CE := hide (fun W (h : Below w.heap.size w W) => every_any 38 #[va] #[] (hasN l) vh hs W has_eg (hH.below h) (fun W' x k => has_any va l x W' (hT.below (h.trans (k.mono h.size)))))
  have CB := hide (fun vN N W (h : Below w.heap.size w W) (k : TsV W vN N) => abel_long va vN l N W (hL.keep h) (fewC_T hF) (hT.below h) k)
  have CM := hide (fun vB B W (h : Below w.heap.size w W) (k : TsV W vB B) => meet_any vh vB hs B W (hH.below h) k)
  have CF := hide (fun b v B W (h : Below w.heap.size w W) (k0 : W.cell? ⟨b, 0, none⟩ = some v) (k : TsV W v B) => every_any 42 #[] #[.pointer (some ⟨b, 0, none⟩)] (hasT B) vh hs W fit1_eg (hH.below h) (fun W' x q => (fit1_any b v B x W' ((q.cell (cell_lt k0)).trans k0) (k.below q)).mono fun _ _ ⟨h1, h2⟩ => ⟨h1, by rw [← h2]; exact Below.refl _ _⟩))
  obtain ⟨aa, ca, rfl⟩ := hT.shape
  obtain ⟨ac, cc, rfl⟩ := hC.shape
  obtain ⟨an, cn, rfl, _⟩ := hN
  obtain ⟨ah, ch, rfl, _⟩ := hH
  have S0 : Hid (Bs w.heap.size (.slice aa l.length ca) (.slice ac cs.length cc) (w.alloc (.cells #[.slice aa l.length ca, .slice ac cs.length cc] 25))) := heap_new w _
  obtain ⟨s0, s1⟩ := (unhide S0).cells
  clear hT hC
  by_cases h0 : nedE l cs ns = 0
  · obtain ⟨hk, hlM, hlY⟩ := ned_len ns hl h0
    have HRE : Hid (fitC l cs ns hs = if hs.all fun h => hasN l h then (if ((nedM l cs ns).all fun m => hs.any fun x => hasT (belT l [m]) x) && (hs.all fun h => hasT (belT l (nedM l cs ns ++ nedY l cs ns)) h) then 0 else 200) else 190) := by
      show _ = _
      unfold fitC
      rw [if_pos h0]
      simp only [met_bel hk, fr_bel hk, hasN_find hk]
    rw [h0] at CN
    clear h0 hk
    generalize fitC l cs ns hs = R at *
    generalize nedM l cs ns = M at *
    generalize nedY l cs ns = Y at *
    cases hz : (hs.all fun h => hasN l h)
    · rw [hz] at CE HRE
      have HR : Hid (190 = R) := by show _ = _; rw [unhide HRE]; rfl
      clear HRE hz CB CM CF
      go_enter Try.func17, Try.ntmps17
      go_wp2_with (first
        | (go_at_call 37; refine (unhide CE _ t1).mono ?_; rintro e w2 ⟨rfl, b2⟩; have t2 := t1.trans (b2.mono t1.size))
        | (go_at_call 15; refine (unhide CN _ b0).mono ?_; rintro e w1 ⟨u1, u2, rfl, h1, h2, b1⟩; have t1 := b0.trans (b1.mono b0.size); obtain ⟨a1, c1, rfl, _⟩ := h1; obtain ⟨a2, c2, rfl, _⟩ := h2; obtain ⟨v0, v1⟩ := ((unhide S0).keep b1).cells))
      go_ret
      exact ⟨ret_int (unhide HR), t2⟩
    · rw [hz] at CE HRE
      clear hz
      have HMB : Hid (∀ i, i < M.length → (hs.any fun x => hasT (belT l [M.getD i te]) x) = false → R = 200) := fun i hi h => by rw [unhide HRE, if_pos rfl, all_bad (f := fun m => hs.any fun x => hasT (belT l [m]) x) (d := te) hi h]; rfl
      have HOK : Hid ((∀ i, i < M.length → (hs.any fun x => hasT (belT l [M.getD i te]) x) = true) → R = if (hs.all fun h => hasT (belT l (M ++ Y)) h) then 0 else 200) := fun h1 => by rw [unhide HRE, if_pos rfl, all_good (f := fun m => hs.any fun x => hasT (belT l [m]) x) (d := te) h1, Bool.true_and]
      clear HRE
      go_enter Try.func17, Try.ntmps17
      go_wp2_with (first
        | (go_at_call 37; refine (unhide CE _ t1).mono ?_; rintro e w2 ⟨rfl, b2⟩; have t2 := t1.trans (b2.mono t1.size); have S2 := hide ((unhide S1).keep b2); have U1 := hide ((unhide H1).below b2); have U2 := hide ((unhide H2).below b2))
        | (go_at_call 15; refine (unhide CN _ b0).mono ?_; rintro e w1 ⟨u1, u2, rfl, h1, h2, b1⟩; have t1 := b0.trans (b1.mono b0.size); have H1 := hide h1; have H2 := hide h2; obtain ⟨a1, c1, rfl, _⟩ := h1; obtain ⟨a2, c2, rfl, _⟩ := h2; have S1 := hide ((unhide S0).keep b1); obtain ⟨v0, v1⟩ := (unhide S1).cells))
      clear CN CE H1 H2 S0 S1 s0 s1 v0 v1 b0 b1 t1 b2
      go_loopw [31] (fun vi wr => ∃ k : Nat, k ≤ M.length ∧ vi = .int .i64 (k : Int) ∧ Hid (∀ j, j < k → (hs.any fun x => hasT (belT l [M.getD j te]) x) = true) ∧ Below w2.heap.size w2 wr) (fun i _ => M.length - (intOf i).toNat)
      case atStart => exact ⟨0, Nat.zero_le _, rfl, fun j hj => absurd hj (Nat.not_lt_zero _), Below.refl _ _⟩
      case round =>
        obtain ⟨k, hkl, rfl, HK, hb⟩ := hrel
        have hsz := hb.size
        have hbw := t2.trans (hb.mono t2.size)
        obtain ⟨s0, s1⟩ := ((unhide S2).keep hb).cells
        by_cases hlt : k < M.length
        · have hzl : (k : Int) < (M.length : Int) := by omega
          have hz0 : (0 : Int) ≤ (k : Int) := by omega
          obtain ⟨a1', c1', hvv, _, hcc⟩ := (unhide U1).below hb
          cases hvv
          obtain ⟨bm, om, rfl, hcm⟩ := hcc (by omega)
          have q0 := hcm k hlt
          have HN := hide (unhide HMB k hlt)
          have HS : Hid ((hs.any fun x => hasT (belT l [M.getD k te]) x) = true → ∀ j, j < k + 1 → (hs.any fun x => hasT (belT l [M.getD j te]) x) = true) := fun h j hj => by
            by_cases e : j = k
            · rw [e]; exact h
            · exact unhide HK j (by omega)
          clear hcc hcm HMB HOK HK CF
          generalize M.getD k te = m at *
          have o1 := Below.one wr (.cells #[.string m] 9)
          have t3 := hbw.trans (o1.mono hbw.size)
          have k3 := hb.trans (o1.mono hsz)
          have C1 := hide (unhide CB _ [m] _ t3 (one_ts wr m _))
          have C2 := hide (fun vB W (h : Below w.heap.size w W) (k : TsV W vB (belT l [m])) => unhide CM vB _ W h k)
          clear CB CM
          generalize belT l [m] = B at *
          generalize (hs.any fun x => hasT B x) = z at *
          cases z
          · have HR : Hid (200 = R) := (unhide HN rfl).symm
            clear HN HS
            go_wp2_with (first
              | (go_at_call 39; refine (unhide C2 _ _ t4 (unhide HU4)).mono ?_; rintro e w5 ⟨rfl, b5⟩; have t5 := t4.trans (b5.mono t4.size))
              | (go_at_call 40; refine (unhide C1).mono ?_; rintro e w4 ⟨u4, rfl, hu4, b4⟩; have HU4 := hide hu4; obtain ⟨a4, c4, rfl, _⟩ := hu4; have t4 := t3.trans (b4.mono t3.size)))
            go_ret
            exact ⟨ret_int (unhide HR), t5⟩
          · have HS2 := hide (unhide HS rfl)
            clear HN HS
            go_wp2_with (first
              | (go_at_call 39; refine (unhide C2 _ _ t4 (unhide HU4)).mono ?_; rintro e w5 ⟨rfl, b5⟩; have k5 := k4.trans (b5.mono k4.size))
              | (go_at_call 40; refine (unhide C1).mono ?_; rintro e w4 ⟨u4, rfl, hu4, b4⟩; have HU4 := hide hu4; obtain ⟨a4, c4, rfl, _⟩ := hu4; have t4 := t3.trans (b4.mono t3.size); have k4 := k3.trans (b4.mono k3.size)))
            go_roundw
            case rel => exact ⟨k + 1, by omega, by go_num, unhide HS2, k5⟩
            case measure => simp [intOf]; omega
        · have hzl : ¬ (k : Int) < (M.length : Int) := by omega
          obtain rfl : k = M.length := by omega
          have HR := hide (unhide HOK (unhide HK))
          have T1 := hide ((unhide U1).below hb)
          have T2 := hide ((unhide U2).below hb)
          clear HK HOK HMB CM S2 U1 U2
          go_upto_region 12 with fail
          have kd : Below wr.heap.size wr wr.drew := (Below.refl _ wr).drew
          have kH : Below wr.heap.size wr (wr.alloc (.cells #[.slice none 0 0] 32)).drew := (Below.one wr _).drew
          have kE : Below wr.heap.size wr (wr.alloc (.cells #[.slice a1 M.length c1, .slice a2 Y.length c2] 32)).drew := (Below.one wr _).drew
          have kHE : Below wr.heap.size wr ((wr.alloc (.cells #[.slice none 0 0] 32)).alloc (.cells #[.slice a1 M.length c1, .slice a2 Y.length c2] 32)).drew := ((Below.one wr (.cells #[.slice none 0 0] 32)).alloc (Below.one wr (.cells #[.slice none 0 0] 32)).size _).drew
          have kEH : Below wr.heap.size wr ((wr.alloc (.cells #[.slice a1 M.length c1, .slice a2 Y.length c2] 32)).alloc (.cells #[.slice none 0 0] 32)).drew := ((Below.one wr (.cells #[.slice a1 M.length c1, .slice a2 Y.length c2] 32)).alloc (Below.one wr (.cells #[.slice a1 M.length c1, .slice a2 Y.length c2] 32)).size _).drew
          have PE : Hid ((wr.alloc (.cells #[.slice a1 M.length c1, .slice a2 Y.length c2] 32)).drew.cell? ⟨wr.heap.size, 0, none⟩ = some (.slice a1 M.length c1) ∧ (wr.alloc (.cells #[.slice a1 M.length c1, .slice a2 Y.length c2] 32)).drew.cell? ⟨wr.heap.size, 1, none⟩ = some (.slice a2 Y.length c2)) := two_new wr _ _
          have PHE : Hid (((wr.alloc (.cells #[.slice none 0 0] 32)).alloc (.cells #[.slice a1 M.length c1, .slice a2 Y.length c2] 32)).drew.cell? ⟨wr.heap.size + 1, 0, none⟩ = some (.slice a1 M.length c1) ∧ ((wr.alloc (.cells #[.slice none 0 0] 32)).alloc (.cells #[.slice a1 M.length c1, .slice a2 Y.length c2] 32)).drew.cell? ⟨wr.heap.size + 1, 1, none⟩ = some (.slice a2 Y.length c2)) := by
            have := two_new (wr.alloc (.cells #[.slice none 0 0] 32)) (.slice a1 M.length c1) (.slice a2 Y.length c2)
            rw [World.size_alloc] at this
            exact this
          have PEH : Hid (((wr.alloc (.cells #[.slice a1 M.length c1, .slice a2 Y.length c2] 32)).alloc (.cells #[.slice none 0 0] 32)).drew.cell? ⟨wr.heap.size, 0, none⟩ = some (.slice a1 M.length c1) ∧ ((wr.alloc (.cells #[.slice a1 M.length c1, .slice a2 Y.length c2] 32)).alloc (.cells #[.slice none 0 0] 32)).drew.cell? ⟨wr.heap.size, 1, none⟩ = some (.slice a2 Y.length c2)) := by
            have h := two_new wr (.slice a1 M.length c1) (.slice a2 Y.length c2)
            have o := Below.one (wr.alloc (.cells #[.slice a1 M.length c1, .slice a2 Y.length c2] 32)) (.cells #[.slice none 0 0] 32)
            exact ⟨(o.cell (cell_lt h.1)).trans h.1, (o.cell (cell_lt h.2)).trans h.2⟩
          have XHE : Hid (((wr.alloc (.cells #[.slice none 0 0] 32)).alloc (.cells #[.slice a1 M.length c1, .slice a2 Y.length c2] 32)).drew.heap[wr.heap.size]? = some (.cells #[.slice none 0 0] 32)) := ((Below.one (wr.alloc (.cells #[.slice none 0 0] 32)) (.cells #[.slice a1 M.length c1, .slice a2 Y.length c2] 32)).block _ (by simp)).trans (heap_new wr _)
          have XEH : Hid (((wr.alloc (.cells #[.slice a1 M.length c1, .slice a2 Y.length c2] 32)).alloc (.cells #[.slice none 0 0] 32)).drew.heap[wr.heap.size + 1]? = some (.cells #[.slice none 0 0] 32)) := by
            have := heap_new (wr.alloc (.cells #[.slice a1 M.length c1, .slice a2 Y.length c2] 32)) (.cells #[.slice none 0 0] 32)
            rw [World.size_alloc] at this
            exact this
          have LHE : Hid (wr.heap.size < ((wr.alloc (.cells #[.slice none 0 0] 32)).alloc (.cells #[.slice a1 M.length c1, .slice a2 Y.length c2] 32)).drew.heap.size) := by show wr.heap.size < ((wr.alloc (.cells #[.slice none 0 0] 32)).alloc (.cells #[.slice a1 M.length c1, .slice a2 Y.length c2] 32)).heap.size; rw [World.size_alloc, World.size_alloc]; omega
          have LEH : Hid (wr.heap.size + 1 < ((wr.alloc (.cells #[.slice a1 M.length c1, .slice a2 Y.length c2] 32)).alloc (.cells #[.slice none 0 0] 32)).drew.heap.size) := by show wr.heap.size + 1 < ((wr.alloc (.cells #[.slice a1 M.length c1, .slice a2 Y.length c2] 32)).alloc (.cells #[.slice none 0 0] 32)).heap.size; rw [World.size_alloc, World.size_alloc]; omega
          have HCQ : Hid (∀ W, Below wr.heap.size wr W → W.cell? ⟨w.heap.size, 0, none⟩ = some (.slice aa l.length ca)) := fun W h => (h.cell (cell_lt s0)).trans s0
          have CC := hide (fun p W (h : Below wr.heap.size wr W) (hp : W.cell? ⟨p, 0, none⟩ = some (.slice a1 M.length c1) ∧ W.cell? ⟨p, 1, none⟩ = some (.slice a2 Y.length c2)) => concatT_any p _ _ M Y W ((unhide T1).below h) ((unhide T2).below h) (by omega) (by omega) hp.1 hp.2)
          have C3 := hide (fun vN W (h : Below wr.heap.size wr W) (k : TsV W vN (M ++ Y)) => unhide CB vN (M ++ Y) W (hbw.trans (h.mono hbw.size)) k)
          clear CB
          go_cut [12] from 44 to 50 (fun v12 wx => ∃ (b : Nat) (vb : Value), v12 = .pointer (some ⟨b, 0, none⟩) ∧ wx.cell? ⟨b, 0, none⟩ = some vb ∧ TsV wx vb (belT l (M ++ Y)) ∧ Below wr.heap.size wr wx)
          case first =>
            generalize belT l (M ++ Y) = FB at *
            go_region_held3 (fun W => W.cell? ⟨w.heap.size, 0, none⟩ = some (.slice aa l.length ca)) (first | with_reducible exact unhide HCQ _ kd | with_reducible exact unhide HCQ _ kH | with_reducible exact unhide HCQ _ kE | with_reducible exact unhide HCQ _ kHE | with_reducible exact unhide HCQ _ kEH | with_reducible exact unhide HCQ _ k5 | with_reducible exact unhide HCQ _ k5b | with_reducible exact unhide HCQ _ k6 | with_reducible exact unhide HCQ _ k6b | with_reducible exact unhide HCQ _ k6p | assumption | go_keep)
              (first
                | (go_at_call 40; refine (unhide C3 _ _ (by with_reducible exact k5b) (by with_reducible exact unhide V5b)).mono ?_; rintro e w6 ⟨u6, rfl, hu6, b6⟩; have k6 := k5b.trans (b6.mono k5b.size); have X6 := hide ((b6.block _ (unhide L5b)).trans (unhide X5b)); have V6 := hide hu6; obtain ⟨a6, c6, rfl, _⟩ := hu6; obtain ⟨x0, f0⟩ := box_one (unhide X6); have FIN := hide (fin_set (unhide X6) k6 (by have := k5.size; omega) (unhide V6)); have k6p := (unhide FIN).2.2)
                | (go_at_call 40; refine (unhide C3 _ _ (by with_reducible exact k5) (by with_reducible exact unhide V5)).mono ?_; rintro e w6 ⟨u6, rfl, hu6, b6⟩; have k6 := k5.trans (b6.mono k5.size); have X6 := hide ((b6.block _ (unhide L5)).trans (unhide X5)); have V6 := hide hu6; obtain ⟨a6, c6, rfl, _⟩ := hu6; obtain ⟨x0, f0⟩ := box_one (unhide X6); have FIN := hide (fin_set (unhide X6) k6 (by omega) (unhide V6)); have k6p := (unhide FIN).2.2)
                | (go_at_call 40; refine (unhide C3 _ _ (by with_reducible exact k5) (by with_reducible exact unhide V5)).mono ?_; rintro e w6 ⟨u6, rfl, hu6, b6⟩; have k6 := k5.trans (b6.mono k5.size); have V6 := hide hu6; obtain ⟨a6, c6, rfl, _⟩ := hu6; have k6b := k6.trans ((Below.one w6 (.cells #[.slice none 0 0] 32)).mono k6.size); have FIN := hide (fin_new (T := 32) k6 (unhide V6)); have k6p := (unhide FIN).2.2)
                | (go_at_call 41; refine (unhide CC _ _ (by with_reducible exact kE) (by with_reducible exact unhide PE)).mono ?_; rintro e w5 ⟨u5, rfl, hu5, b5⟩; have k5 := kE.trans (b5.mono kE.size); have V5 := hide hu5; have k5b := k5.trans ((Below.one w5 (.cells #[.slice none 0 0] 32)).mono k5.size); have V5b := hide (hu5.below (Below.one w5 (.cells #[.slice none 0 0] 32))); have L5b : Hid (w5.heap.size < (w5.alloc (.cells #[.slice none 0 0] 32)).heap.size) := (by show _ < _; simp); have X5b : Hid ((w5.alloc (.cells #[.slice none 0 0] 32)).heap[w5.heap.size]? = some (.cells #[.slice none 0 0] 32)) := heap_new w5 _; obtain ⟨a5, c5, rfl⟩ := ts_app hu5)
                | (go_at_call 41; refine (unhide CC _ _ (by with_reducible exact kHE) (by with_reducible exact unhide PHE)).mono ?_; rintro e w5 ⟨u5, rfl, hu5, b5⟩; have k5 := kHE.trans (b5.mono kHE.size); have V5 := hide hu5; have X5 := hide ((b5.block _ (unhide LHE)).trans (unhide XHE)); have L5 : Hid (wr.heap.size < w5.heap.size) := Nat.lt_of_lt_of_le (unhide LHE) b5.size; obtain ⟨a5, c5, rfl⟩ := ts_app hu5)
                | (go_at_call 41; refine (unhide CC _ _ (by with_reducible exact kEH) (by with_reducible exact unhide PEH)).mono ?_; rintro e w5 ⟨u5, rfl, hu5, b5⟩; have k5 := kEH.trans (b5.mono kEH.size); have V5 := hide hu5; have X5 := hide ((b5.block _ (unhide LEH)).trans (unhide XEH)); have L5 : Hid (wr.heap.size + 1 < w5.heap.size) := Nat.lt_of_lt_of_le (unhide LEH) b5.size; obtain ⟨a5, c5, rfl⟩ := ts_app hu5))
            all_goals
              go_wp2
              go_meet
              exact ⟨_, _, rfl, (unhide FIN).1, (unhide FIN).2.1, (unhide FIN).2.2⟩
          case rest =>
            obtain ⟨bb, vb, rfl, hc0, hV, hkx⟩ := hcut
            have hwx := hbw.trans (hkx.mono hbw.size)
            have C4 := hide (unhide CF bb vb _ wc hwx hc0 hV)
            clear CF C3 CC HCQ hV hc0 kd kH kE kHE kEH PE PHE PEH XHE XEH LHE LEH
            have HZ : Hid ((hs.all fun h => hasT (belT l (M ++ Y)) h) = hs.all (hasT (belT l (M ++ Y)))) := rfl
            rw [unhide HZ] at HR
            clear HZ
            generalize hs.all (hasT (belT l (M ++ Y))) = z at *
            cases z
            · have HR2 : Hid (200 = R) := (unhide HR).symm
              clear HR
              go_wp2_with (go_at_call 37; refine (unhide C4).mono ?_; rintro e w9 ⟨rfl, b9⟩)
              go_ret
              exact ⟨ret_int (unhide HR2), hwx.trans (b9.mono hwx.size)⟩
            · have HR2 : Hid (0 = R) := (unhide HR).symm
              clear HR
              go_wp2_with (go_at_call 37; refine (unhide C4).mono ?_; rintro e w9 ⟨rfl, b9⟩)
              go_ret
              exact ⟨ret_int (unhide HR2), hwx.trans (b9.mono hwx.size)⟩
  · have HE : Hid (nedE l cs ns = fitC l cs ns hs) := by show _ = _; unfold fitC; rw [if_neg h0]
    have hne : (nedE l cs ns != 0) = true := by simpa using h0
    clear h0 CE CB CM CF
    generalize nedE l cs ns = E at *
    generalize fitC l cs ns hs = R at *
    go_enter Try.func17, Try.ntmps17
    go_wp2_with (go_at_call 15; refine (unhide CN _ b0).mono ?_; rintro e w1 ⟨u1, u2, rfl, h1, h2, b1⟩; have t1 := b0.trans (b1.mono b0.size); obtain ⟨a1, c1, rfl, _⟩ := h1; obtain ⟨a2, c2, rfl, _⟩ := h2)
    go_ret
    exact ⟨ret_int (unhide HE), t1⟩
end Go.Proofs.Ytjjildpdelkejaa
