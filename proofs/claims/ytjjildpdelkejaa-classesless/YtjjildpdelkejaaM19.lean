/- Rows of classes of a call's own; the landed lines of layer 21. -/
import Derived.Test.YtjjildpdelkejaaM17
import Derived.Test.YtjjildpdelkejaaM18
namespace Go.Proofs.Ytjjildpdelkejaa
open Go.RowKit

/-- A class with its two slices. -/
structure Ck where
  c : Cl
  a1 : Option Addr
  c1 : Nat
  a2 : Option Addr
  c2 : Nat
def cellsK : List Ck → List Value
  | [] => []
  | k :: t => .string k.c.nam :: .string k.c.abv :: .bool k.c.bar :: .slice k.a1 k.c.mus.length k.c1 :: .slice k.a2 k.c.may.length k.c2 :: cellsK t
theorem cellsK_len : ∀ r : List Ck, (cellsK r).length = r.length * 5
  | [] => rfl
  | p :: t => by simp [cellsK, cellsK_len t]; omega
theorem cellsK_app : ∀ a b : List Ck, cellsK (a ++ b) = cellsK a ++ cellsK b
  | [], _ => rfl
  | p :: t, b => by simp [cellsK, cellsK_app t b]
theorem cellsK_at : ∀ (r : List Ck) (j : Nat) (h : j < r.length), (cellsK r)[j * 5]? = some (.string r[j].c.nam) ∧ (cellsK r)[j * 5 + 1]? = some (.string r[j].c.abv) ∧ (cellsK r)[j * 5 + 2]? = some (.bool r[j].c.bar) ∧ (cellsK r)[j * 5 + 3]? = some (.slice r[j].a1 r[j].c.mus.length r[j].c1) ∧ (cellsK r)[j * 5 + 4]? = some (.slice r[j].a2 r[j].c.may.length r[j].c2)
  | [], j, h => by simp at h
  | p :: t, 0, _ => by simp [cellsK]
  | p :: t, j + 1, h => by
    have := cellsK_at t j (by simpa using h)
    rw [show (j + 1) * 5 = j * 5 + 1 + 1 + 1 + 1 + 1 by omega, show j * 5 + 1 + 1 + 1 + 1 + 1 + 1 = (j * 5 + 1) + 1 + 1 + 1 + 1 + 1 by omega, show j * 5 + 1 + 1 + 1 + 1 + 1 + 2 = (j * 5 + 2) + 1 + 1 + 1 + 1 + 1 by omega, show j * 5 + 1 + 1 + 1 + 1 + 1 + 3 = (j * 5 + 3) + 1 + 1 + 1 + 1 + 1 by omega, show j * 5 + 1 + 1 + 1 + 1 + 1 + 4 = (j * 5 + 4) + 1 + 1 + 1 + 1 + 1 by omega]
    simpa [cellsK] using this
/-- A row of classes of the call's own; their slices lie below. -/
def Cx (B : Nat) (w0 : World) (v : Value) (A : List Cl) (w : World) : Prop :=
  ∃ ks : List Ck, ks.map (·.c) = A ∧ w.ownsRow B 49 5 v A.length (cellsK ks) ∧ ∀ k ∈ ks, TsV w0 (.slice k.a1 k.c.mus.length k.c1) k.c.mus ∧ TsV w0 (.slice k.a2 k.c.may.length k.c2) k.c.may
theorem Cx.nil (B : Nat) (w0 w : World) : Cx B w0 (.slice none 0 0) [] w := ⟨[], rfl, ⟨rfl, .inl ⟨rfl, rfl⟩⟩, fun k hk => by cases hk⟩
theorem Cx.below {B : Nat} {w0 w w2 : World} {v : Value} {A : List Cl} (h : Cx B w0 v A w) (hb : Below w.heap.size w w2) : Cx B w0 v A w2 := by
  obtain ⟨ks, h1, h2, h3⟩ := h
  exact ⟨ks, h1, own_below h2 hb, h3⟩
theorem Cx.kept {B : Nat} {w0 w w2 : World} {v : Value} {A : List Cl} {g : Nat} (h : Cx B w0 v A w) (hg : w.grownBy w2 (some g)) (hne : v.ownBlock ≠ some g) : Cx B w0 v A w2 := by
  obtain ⟨ks, h1, h2, h3⟩ := h
  exact ⟨ks, h1, h2.kept hg (.inr hne), h3⟩
theorem Cx.cls {B : Nat} {w0 w : World} {v : Value} {A : List Cl} (h : Cx B w0 v A w) (hb : Below w0.heap.size w0 w) (hl : A.length ≤ 9223372036854775807) : ClsV w v A := by
  obtain ⟨ks, h1, h2, h3⟩ := h
  have hlen : ks.length = A.length := by rw [← h1, List.length_map]
  rcases h2.2 with ⟨hv, h0⟩ | ⟨g, cap, cur, hv, _, _, hcap, _⟩
  · exact ⟨none, 0, by rw [hv, h0], ⟨by omega, hl⟩, fun hi => by omega⟩
  · refine ⟨some ⟨g, 0, none⟩, cap, hv, ⟨hcap, hl⟩, fun hi => ⟨g, 0, rfl, fun j hj => ?_⟩⟩
    have hjk : j < ks.length := by omega
    have e : A.getD j cl0 = ks[j].c := by simp [← h1, List.getD, hjk]
    obtain ⟨c0, c1, c2, c3, c4⟩ := cellsK_at ks j hjk
    have k0 := World.ownsRow.cells h2 (g := g) (by rw [hv]; rfl) _ _ c0
    have k1 := World.ownsRow.cells h2 (g := g) (by rw [hv]; rfl) _ _ c1
    have k2 := World.ownsRow.cells h2 (g := g) (by rw [hv]; rfl) _ _ c2
    have k3 := World.ownsRow.cells h2 (g := g) (by rw [hv]; rfl) _ _ c3
    have k4 := World.ownsRow.cells h2 (g := g) (by rw [hv]; rfl) _ _ c4
    rw [add_zero3] at k0 k1 k2 k3 k4
    obtain ⟨t1, t2⟩ := h3 ks[j] (List.getElem_mem _)
    rw [e, Nat.zero_add]
    exact ⟨k0, k1, k2, ⟨_, k3, t1.below hb⟩, ⟨_, k4, t2.below hb⟩⟩
/-- A class more. -/
theorem Cx.push {B : Nat} {w0 w : World} {v : Value} {A : List Cl} {ks : List Ck} {k : Ck} (h1 : ks.map (·.c) = A) (h3 : ∀ k ∈ ks, TsV w0 (.slice k.a1 k.c.mus.length k.c1) k.c.mus ∧ TsV w0 (.slice k.a2 k.c.may.length k.c2) k.c.may) (hk : TsV w0 (.slice k.a1 k.c.mus.length k.c1) k.c.mus ∧ TsV w0 (.slice k.a2 k.c.may.length k.c2) k.c.may) {N : Nat} (hN : N = A.length) (h : w.ownsRow B 49 5 v (N + 1) (cellsK ks ++ [.string k.c.nam, .string k.c.abv, .bool k.c.bar, .slice k.a1 k.c.mus.length k.c1, .slice k.a2 k.c.may.length k.c2])) : Cx B w0 v (A ++ [k.c]) w := by
  refine ⟨ks ++ [k], by rw [List.map_append, h1]; rfl, ?_, fun q hq => ?_⟩
  · rw [List.length_append, cellsK_app]
    subst hN
    exact h
  · rcases List.mem_append.1 hq with hq | hq
    · exact h3 q hq
    · rw [List.mem_singleton] at hq
      rw [hq]
      exact hk
theorem cls_info : (Try.prog.info? 49).map (fun i => (i.zero, i.size, i.bytes)) = some (some (.agg #[.string ⟨#[]⟩, .string ⟨#[]⟩, .bool false, .slice none 0 0, .slice none 0 0]), 5, 88) := by kernel_rfl
theorem putC_grown (w : World) (b : Nat) (c : Cl) (vm vy : Value) : w.grownBy (putC w b c vm vy) (some b) := by
  have hb : Below 0 w (putC w b c vm vy) := putC_below (Below.refl 0 w) (Nat.zero_le _) c vm vy
  refine ⟨hb.os, hb.tape, hb.output, ?_, fun k _ hne => putC_heap c vm vy fun e => hne (by rw [e])⟩
  unfold putC
  simp
theorem nw3 (w : World) (c d : Cl) (p1 p2 r1 r2 : Option Addr) (q1 q2 s1 s2 : Nat) : ∀ j u, ([.string c.nam, .string c.abv, .bool c.bar, .slice p1 c.mus.length q1, .slice p2 c.may.length q2] : List Value)[j]? = some u → ((w.alloc (.cells #[.string d.nam, .string d.abv, .bool d.bar, .slice r1 d.mus.length s1, .slice r2 d.may.length s2] 49)).alloc (.cells #[.string c.nam, .string c.abv, .bool c.bar, .slice p1 c.mus.length q1, .slice p2 c.may.length q2] 49)).cell? ((⟨w.heap.size + 1, 0, none⟩ : Addr).add j) = some u := by
  have hn := heap_new (w.alloc (.cells #[.string d.nam, .string d.abv, .bool d.bar, .slice r1 d.mus.length s1, .slice r2 d.may.length s2] 49)) (.cells #[.string c.nam, .string c.abv, .bool c.bar, .slice p1 c.mus.length q1, .slice p2 c.may.length q2] 49)
  rw [World.size_alloc] at hn
  exact World.news_of_block (cs := #[.string c.nam, .string c.abv, .bool c.bar, .slice p1 c.mus.length q1, .slice p2 c.may.length q2]) (t := 49) (fr := (0, 0)) hn
def lnV : Value → Nat
  | .slice _ n _ => n
  | _ => 0
theorem gl_next {c : Cl} {R A : List Cl} (h : fcB A c.nam = false) : gl (c :: R) A = gl R (A ++ [c]) := by rw [gl, h]; rfl
theorem gl_stop {c : Cl} {R A : List Cl} (h : fcB A c.nam = true) : gl (c :: R) A = A := by rw [gl, if_pos h]
set_option maxHeartbeats 12800000 in
set_option maxRecDepth 100000 in
theorem lines_at (v vn : Value) (l : List Ty) (cs : List Cl) (ns : List ByteArray) (w0 w : World) (hk : okC l cs = true) (hC : ClsV w0 v cs) (hw0 : Below w0.heap.size w0 w) (hN : TsV w vn ns) (hl : ns.length ≤ 100) : Calls Try.prog 29 #[v, vn] w fun e w' => ∃ u, e = .returned u ∧ Cx w.heap.size w0 u (lnsC cs ns) w' ∧ Below w.heap.size w w' := by
  have h12 := okC_12 hk
  obtain ⟨i0, hi, iz0, iz1, iz2⟩ := info_parts cls_info
  have CF := hide (fun n W (h : Below w.heap.size w W) => cfind_at v cs n w0 W hC (hw0.trans (h.mono hw0.size)))
  have HW0 : Hid (∀ W, Below w.heap.size w W → Below w0.heap.size w0 W) := fun W h => hw0.trans (h.mono hw0.size)
  have CA := hide (fun u A n W (h : ClsV W u A) => cfind_any u A n W h)
  have HUP : Hid (∀ n, fcB cs n = true → linC cs n = fcA cs n :: linC cs (fcA cs n).abv) := fun n h => by
    unfold fcB at h
    obtain ⟨c, hc⟩ := Option.isSome_iff_exists.1 h
    rw [(fc_yes hc).1]
    exact lin_up hk hc
  have HNO : Hid (∀ n, fcB cs n = false → linC cs n = []) := fun n h => lin_none (by unfold fcB at h; simpa using h)
  have HLL : Hid (∀ k, k ≤ ns.length → (lnsC cs (ns.take k)).length ≤ k * 14) := fun k hk => by
    have := lns_len cs ns k hk
    have h2 : k * (cs.length + 2) ≤ k * 14 := Nat.mul_le_mul_left k (by omega)
    omega
  have HL1 : Hid (∀ n, (linC cs n).length ≤ 14) := fun n => by have := linC_len cs n; omega
  obtain ⟨ac, cc, rfl⟩ := hC.shape
  obtain ⟨an, cn, rfl, hn9, hcn⟩ := hN
  have HCN := hide hcn
  clear hC hcn hk h12 hw0
  go_enter Try.func29, Try.ntmps29
  go_wp2
  go_loopw [5, 14] (fun vo vi wr => ∃ k : Nat, k ≤ ns.length ∧ vi = .int .i64 (k : Int) ∧ Hid (Cx w.heap.size w0 vo (lnsC cs (ns.take k)) wr) ∧ Below w.heap.size w wr) (fun _ i _ => ns.length - (intOf i).toNat)
  case atStart => exact ⟨0, Nat.zero_le _, rfl, Cx.nil _ w0 w, Below.refl _ _⟩
  case round =>
    obtain ⟨k, hkl, rfl, HX, hb⟩ := hrel
    have hsz := hb.size
    by_cases hlt : k < ns.length
    · have hzl : (k : Int) < (ns.length : Int) := by omega
      have hz0 : (0 : Int) ≤ (k : Int) := by omega
      obtain ⟨bn, on, rfl, hcc⟩ := unhide HCN (by omega)
      have q0 := (hb.cell (cell_lt (hcc k hlt))).trans (hcc k hlt)
      have HNX := hide (lns_next (cs := cs) hlt)
      have hA := unhide HLL k hkl
      have C1 := hide (unhide CF (ns.getD k te) wr hb)
      have hR := unhide HL1 (ns.getD k te)
      clear hcc HCN HLL
      generalize lnsC cs (ns.take k) = A0 at *
      obtain ⟨G, hG⟩ : ∃ G, lnsC cs (ns.take (k + 1)) = G := ⟨_, rfl⟩
      rw [hG] at HNX
      have HGE := hide hG
      clear hG
      generalize ns.getD k te = n0 at *
      have HD : Hid (∀ g, u5.ownBlock = some g → g < wr.heap.size) := by
        obtain ⟨ks, _, ho, _⟩ := unhide HX
        exact fun g hg => (ho.lt g hg).2
      obtain ⟨K, hK⟩ : ∃ K, A0.length + (linC cs n0).length = K := ⟨_, rfl⟩
      have hK2 : K ≤ 2000 := by omega
      have hlv : lnV u5 = A0.length := by
        obtain ⟨ks, _, ho, _⟩ := unhide HX
        rcases ho.2 with ⟨hv, h0⟩ | ⟨g, cap, cur, hv, _⟩
        · rw [hv, h0]; rfl
        · rw [hv]; rfl
      have HLV := hide hlv
      have HKK := hide hK
      clear hR hA hlv hK
      go_wp2_with (go_at_call 54; refine (unhide C1).mono ?_; rintro e w1 ⟨p1, q1, p2, q2, rfl, hM1, hY1, b1⟩; have HTS := hide (And.intro hM1 hY1); clear hM1 hY1)
      have t1 := hb.trans (b1.mono hsz)
      have o1 := Below.one w1 (.cells #[.string (fcA cs n0).nam, .string (fcA cs n0).abv, .bool (fcA cs n0).bar, .slice p1 (fcA cs n0).mus.length q1, .slice p2 (fcA cs n0).may.length q2] 49)
      have t2 := t1.trans (o1.mono t1.size)
      have HX2 := hide (((unhide HX).below b1).below o1)
      have HB2 : Hid (Bc w1.heap.size (fcA cs n0) (.slice p1 (fcA cs n0).mus.length q1) (.slice p2 (fcA cs n0).may.length q2) (w1.alloc (.cells #[.string (fcA cs n0).nam, .string (fcA cs n0).abv, .bool (fcA cs n0).bar, .slice p1 (fcA cs n0).mus.length q1, .slice p2 (fcA cs n0).may.length q2] 49))) := heap_new w1 _
      have HD2 : Hid (u5.ownBlock ≠ some w1.heap.size) := fun e => by have := unhide HD _ e; have := b1.size; omega
      have hs2 : w1.heap.size < (w1.alloc (.cells #[.string (fcA cs n0).nam, .string (fcA cs n0).abv, .bool (fcA cs n0).bar, .slice p1 (fcA cs n0).mus.length q1, .slice p2 (fcA cs n0).may.length q2] 49)).heap.size := by simp
      have hbx := t1.size
      have HGG : Hid (gl (linC cs n0) A0 = G) := (unhide HNX).symm
      clear HX HD C1 HNX q0 b1 t1 o1
      go_loopw [5, 9] (fun vo vk wr => ∃ (n : ByteArray) (A : List Cl) (p1 p2 : Option Addr) (q1 q2 : Nat), vk = .bool (fcB cs n) ∧ Hid (gl (linC cs n) A = G) ∧ Hid (A.length + (linC cs n).length ≤ K) ∧ Hid (lnV vo = A.length) ∧ Hid (Cx w.heap.size w0 vo A wr) ∧ Hid (vo.ownBlock ≠ some w1.heap.size) ∧ Hid (Bc w1.heap.size (fcA cs n) (.slice p1 (fcA cs n).mus.length q1) (.slice p2 (fcA cs n).may.length q2) wr) ∧ Hid (TsV w0 (.slice p1 (fcA cs n).mus.length q1) (fcA cs n).mus ∧ TsV w0 (.slice p2 (fcA cs n).may.length q2) (fcA cs n).may) ∧ Below w.heap.size w wr ∧ w1.heap.size < wr.heap.size) (fun vo _ _ => K - lnV vo)
      case atStart => exact ⟨n0, A0, p1, p2, q1, q2, rfl, unhide HGG, Nat.le_of_eq (unhide HKK), unhide HLV, unhide HX2, unhide HD2, unhide HB2, unhide HTS, t2, hs2⟩
      case round =>
        clear HX2 HD2 HB2 HTS t2 hs2 HGG HKK HLV hb hsz
        obtain ⟨n, A, p1, p2, q1, q2, rfl, HG, HKA, HLV, HX, HD, HB, HTS, hb, hw1⟩ := hrel
        have hsz := hb.size
        obtain ⟨x0, x1, x2, x3, x4⟩ := (unhide HB).cells
        cases hf : fcB cs n
        · have HE : Hid (A = G) := by show _ = _; rw [← unhide HG, unhide HNO n hf]; rfl
          rw [unhide HE] at HX
          clear HE HG HKA HLV HD HB HTS x0 x1 x2 x3 x4 hf
          go_wp2
          go_roundw
          case rel => exact ⟨k + 1, by omega, by go_num, by have h := unhide HX; rw [← unhide HGE] at h; exact h, hb⟩
          case measure => simp [intOf]; omega
        have HU := hide (unhide HUP n hf)
        have CF2 := hide (unhide CF (fcA cs n).abv)
        have hAl : A.length + 1 ≤ K := by have := unhide HKA; rw [unhide HU, List.length_cons] at this; omega
        have CA1 := hide (unhide CA u5 A (fcA cs n).nam wr ((unhide HX).cls (unhide HW0 _ hb) (by omega)))
        have HK2 : Hid ((A ++ [fcA cs n]).length + (linC cs (fcA cs n).abv).length ≤ K) := by
          have := unhide HKA
          rw [unhide HU, List.length_cons] at this
          show _ ≤ _
          rw [List.length_append, List.length_singleton]
          omega
        rw [unhide HU] at HG
        clear HKA HU hf CF CA
        generalize fcA cs n = c at *
        generalize fcA A c.nam = d at *
        cases hq : fcB A c.nam <;> rw [hq] at CA1
        · rw [gl_next hq] at HG
          obtain ⟨ks, hks, hown, hts⟩ := unhide HX
          have HKS := hide hks
          have HTK := hide hts
          have HOW := hide hown
          have HLB : Hid (∀ g, u5.ownBlock = some g → w.heap.size ≤ g) := own_block hown
          obtain ⟨N, hN⟩ : ∃ N, N = A.length := ⟨_, rfl⟩
          have HN := hide hN
          rw [← hN] at HOW HLV hAl
          have hm1 : N + 1 ≤ maxLen := by unfold maxLen; omega
          have hm2 : (N + 1) * 88 ≤ 140737488355328 := by omega
          clear hq hks hts hown HX hN
          go_wp2_with (first
            | (go_at_call 54; refine (unhide CF2 _ t9).mono ?_; rintro e w10 ⟨r1, s1, r2, s2, rfl, hM9, hY9, b10⟩; have HT10 := hide (And.intro hM9 hY9); clear hM9 hY9; have t10 := t9.trans (b10.mono t9.size); have HX10 := hide ((unhide HX9).below b10); have HB10 := hide ((unhide HB9).keep b10); have hs10 := Nat.lt_of_lt_of_le hs9 b10.size; obtain ⟨z0, z1, z2, z3, z4⟩ := (unhide HB10).cells; have f0 := (unhide HB10).free 0; have f1 := (unhide HB10).free 1; have f2 := (unhide HB10).free 2; have f3 := (unhide HB10).free 3; have f4 := (unhide HB10).free 4)
            | (at_builtin; refine wpList_append_lies _ rfl _ _ 23 rfl w.heap.size 49 i0 _ 5 88 Try.underlying23 hi iz0 iz1 iz2 rfl (by omega) _ N _ rfl (World.ownsRow.alloc (World.ownsRow.alloc (own_below (unhide HOW) b3) _) _) ⟨w3.heap.size + 1, 0, none⟩ 1 1 [.string c.nam, .string c.abv, .bool c.bar, .slice p1 c.mus.length q1, .slice p2 c.may.length q2] rfl rfl (by with_reducible exact unhide HNW) (by simp [Value.oneCell']) (by omega) hm1 hm2 (by simp; omega) (w3.heap.size + 1 + 1) (by simp) ?_; intro g9 cap9 w9 hown9 hgrow9 hat9 hlt9; have g3 := grown_one (grown_one hgrow9); have t9 := t3.trans (below_own g3 t3.size (unhide HLB)); have HX9 := hide (Cx.push (k := ⟨c, p1, q1, p2, q2⟩) (unhide HKS) (unhide HTK) (unhide HTS) (unhide HN) hown9); have HB9 : Hid (Bc w1.heap.size c (.slice p1 c.mus.length q1) (.slice p2 c.may.length q2) w9) := (g3.block _ (bt_lt (unhide HB3)) (Ne.symm (unhide HD))).trans (unhide HB3); have HD9 : Hid ((Value.slice (some ⟨g9, 0, none⟩) (N + 1) cap9).ownBlock ≠ some w1.heap.size) := (fun e => by rcases hat9 with h | h; exact unhide HD (h.trans e); have hge : g9 = w1.heap.size := (by simpa [Value.ownBlock] using e); have := b3.size; omega); have hs9 := Nat.lt_of_lt_of_le hs3 g3.size; have e1 := (unhide HB9).cells.2.1; clear hown9 hgrow9 hat9 hlt9 g3)
            | (go_at_call 54; refine (unhide CA1).mono ?_; rintro e w3 ⟨r1, s1, r2, s2, rfl, _, _, b3⟩; have t3 := hb.trans (b3.mono hsz); have HB3 := hide ((unhide HB).keep b3); have hs3 := Nat.lt_of_lt_of_le hw1 b3.size; have HNW := hide (nw3 w3 c d p1 p2 r1 r2 q1 q2 s1 s2); have o3 := Below.one w3 (.cells #[.string d.nam, .string d.abv, .bool d.bar, .slice r1 d.mus.length s1, .slice r2 d.may.length s2] 49); obtain ⟨y0, y1, y2, y3, y4⟩ := ((unhide HB3).keep o3).cells))
          go_roundw
          case rel => exact ⟨c.abv, A ++ [c], r1, r2, s1, s2, rfl, unhide HG, unhide HK2, by show _ = _; rw [List.length_append, ← unhide HN]; rfl, (unhide HX10).kept (putC_grown _ _ _ _ _) (unhide HD9), unhide HD9, (unhide HB10).put _ _ _, unhide HT10, putC_below t10 hbx _ _ _, Nat.lt_of_lt_of_le hs10 (putC_grown _ _ _ _ _).size⟩
          case measure => rw [unhide HLV]; simp [lnV]; omega
        · rw [gl_stop hq] at HG
          rw [unhide HG] at HX
          clear HG HLV HD HTS hq
          go_wp2_with (go_at_call 54; refine (unhide CA1).mono ?_; rintro e w3 ⟨r1, s1, r2, s2, rfl, _, _, b3⟩; have o3 := Below.one w3 (.cells #[.string d.nam, .string d.abv, .bool d.bar, .slice r1 d.mus.length s1, .slice r2 d.may.length s2] 49); have k3 := b3.trans (o3.mono b3.size); have t3 := hb.trans (k3.mono hsz); have HX3 := hide ((unhide HX).below k3))
          go_roundw
          case rel => exact ⟨k + 1, by omega, by go_num, by have h := unhide HX3; rw [← unhide HGE] at h; exact h, t3⟩
          case measure => simp [intOf]; omega
    · have hzl : ¬ (k : Int) < (ns.length : Int) := by omega
      obtain rfl : k = ns.length := by omega
      have hlen := unhide HLL ns.length (Nat.le_refl _)
      rw [List.take_length] at HX hlen
      clear CF CA HUP HNO HLL
      go_wp2
      go_ret
      exact ⟨_, rfl, unhide HX, hb⟩
theorem lines_any (v vn : Value) (l : List Ty) (cs : List Cl) (ns : List ByteArray) (w : World) (hk : okC l cs = true) (hC : ClsV w v cs) (hN : TsV w vn ns) (hl : ns.length ≤ 100) : Calls Try.prog 29 #[v, vn] w fun e w' => ∃ u, e = .returned u ∧ ClsV w' u (lnsC cs ns) ∧ Below w.heap.size w w' :=
  (lines_at v vn l cs ns w w hk hC (Below.refl _ _) hN hl).mono fun _ _ ⟨u, h1, h2, h3⟩ => ⟨u, h1, h2.cls h3 (by
    have h12 := okC_12 hk
    have := lns_len cs ns ns.length (Nat.le_refl _)
    rw [List.take_length] at this
    have h4 : ns.length * (cs.length + 2) ≤ 100 * 14 := Nat.mul_le_mul hl (by omega)
    omega), h3⟩
end Go.Proofs.Ytjjildpdelkejaa
