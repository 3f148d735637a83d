/- The document's Line of layer 21. -/
import Derived.Test.YtjjildpdelkejaaM10
import Derived.Test.YtjjildpdelkejaaM11
import Derived.Test.YtjjildpdelkejaaM01
import Derived.Maps.AppendAt
import Derived.Deep.RegionHeld3
import Derived.Laws.OwnMore
namespace Go.Proofs.Ytjjildpdelkejaa
open Go.RowKit

theorem chkC_ok {l : List Ty} {cs : List Cl} (h : chkC l cs = 0) : okT l = true ∧ okC l cs = true := by
  unfold chkC at h
  cases h1 : okT l <;> cases h2 : okC l cs <;> simp [h1, h2] at h ⊢
theorem lnC_stop {l : List Ty} {cs : List Cl} (h : okC l cs = true) {a : Cl} (e : a.abv = te) : ∀ k, lnC cs k a = [a]
  | 0 => rfl
  | k + 1 => by rw [lnC, e, fndC_empty h]
theorem lineC_step {l : List Ty} {cs : List Cl} (h : okC l cs = true) {k j : Nat} (hu : upC cs k (cs.getD j cl0) = true) :
    (ixC cs (cs.getD j cl0).abv = -1 ∧ lnC cs k (cs.getD j cl0) = [cs.getD j cl0]) ∨ ∃ m i : Nat, k = m + 1 ∧ i < cs.length ∧ ixC cs (cs.getD j cl0).abv = (i : Int) ∧ upC cs m (cs.getD i cl0) = true ∧ lnC cs k (cs.getD j cl0) = cs.getD j cl0 :: lnC cs m (cs.getD i cl0) := by
  generalize cs.getD j cl0 = y at *
  by_cases e : y.abv = te
  · left
    refine ⟨?_, lnC_stop h e k⟩
    rcases ixC_fnd cs y.abv with ⟨_, hi⟩ | ⟨i, _, _, hf⟩
    · exact hi
    · rw [e, fndC_empty h] at hf
      cases hf
  · right
    cases k with
    | zero => exact absurd (of_decide_eq_true hu) e
    | succ m =>
      rcases ixC_fnd cs y.abv with ⟨hf, _⟩ | ⟨i, hi, hx, hf⟩
      · rw [upC_none e hf] at hu; cases hu
      · rw [upC_more e hf] at hu
        exact ⟨m, i, rfl, hi, hx, hu, by rw [lnC, hf]⟩
theorem okC_12 {l : List Ty} {cs : List Cl} (h : okC l cs = true) : cs.length ≤ 12 := by
  unfold okC at h
  rw [Bool.and_eq_true] at h
  exact of_decide_eq_true h.1
set_option maxHeartbeats 6400000 in
theorem rlin21_any (va vc : Value) (l : List Ty) (cs : List Cl) (n : ByteArray) (w : World) (hT : TysV w va l) (hC : ClsV w vc cs) : Calls Try.prog 14 #[.agg #[va, vc], .string n] w fun e w' => ∃ u, e = .returned u ∧ Tx w.heap.size u (lineC l cs n) w' ∧ Below w.heap.size w w' := by
  have mx : Try.prog.follows .mixedOrders = true := by kernel_rfl
  obtain ⟨i0, hi, hz0, hz1, hz2⟩ := info_parts str_info
  have CK := hide (fun W (h : Below w.heap.size w W) => rchk21_any va vc l cs W (hT.below h) (hC.below h))
  have CA := hide (fun m W (h : Below w.heap.size w W) => rcat_any va vc cs m W (hC.below h))
  have HC := hide hC
  obtain ⟨aa, ca, rfl⟩ := hT.shape
  obtain ⟨ac, cc, rfl⟩ := hC.shape
  clear hT hC
  have b0 := Below.one w (.cells #[.slice aa l.length ca, .slice ac cs.length cc] 25)
  have S0 : Hid (Bs w.heap.size (.slice aa l.length ca) (.slice ac cs.length cc) (w.alloc (.cells #[.slice aa l.length ca, .slice ac cs.length cc] 25))) := heap_new w _
  obtain ⟨s0, s1⟩ := (unhide S0).cells
  by_cases h0 : chkC l cs = 0
  · rw [h0] at CK
    obtain ⟨_, hk⟩ := chkC_ok h0
    have h12 := okC_12 hk
    have HL : Hid (lineC l cs n = (linC cs n).map (·.nam)) := by show _ = _; unfold lineC; rw [if_pos h0]
    have HK := hide hk
    have C0 := hide (unhide CA n)
    have HS : Hid ((ixC cs n = -1 ∧ lineC l cs n = []) ∨ ∃ j : Nat, j < cs.length ∧ ixC cs n = (j : Int) ∧ upC cs (cs.length + 1) (cs.getD j cl0) = true ∧ lineC l cs n = (lnC cs (cs.length + 1) (cs.getD j cl0)).map (·.nam)) := by
      rw [unhide HL]
      unfold linC
      rcases ixC_fnd cs n with ⟨hf, hx⟩ | ⟨j, hj, hx, hf⟩
      · exact .inl ⟨hx, by rw [hf]; rfl⟩
      · exact .inr ⟨j, hj, hx, okC_up hk (by simp [List.getD, hj]), by rw [hf]⟩
    clear h0 hk HL
    generalize lineC l cs n = L at *
    generalize ixC cs n = i9 at *
    go_enter Try.func14, Try.ntmps14
    go_wp2_with (first
      | (go_at_call 30; refine (unhide C0 _ t1).mono ?_; rintro e w2 ⟨rfl, b2⟩; have k2 := k1.trans (b2.mono k1.size); have S2 := hide ((unhide S1).keep b2))
      | (go_at_call 11; refine (unhide CK _ b0).mono ?_; rintro e w1 ⟨rfl, k1⟩; have t1 := b0.trans (k1.mono b0.size); have S1 := hide ((unhide S0).keep k1); obtain ⟨u0, u1⟩ := (unhide S1).cells))
    clear u0 u1 s0 s1 CK C0 S1 t1 k1 b2
    obtain ⟨w0, hw0⟩ : ∃ w0, w.alloc (.cells #[.slice aa l.length ca, .slice ac cs.length cc] 25) = w0 := ⟨_, rfl⟩
    rw [hw0] at b0 S0 k2
    have hs0 : w0.heap.size = w.heap.size + 1 := by rw [← hw0]; simp
    clear hw0
    go_loopg [5, 6] (cs.length + 2) (fun g vo vi wr => ∃ out : List ByteArray, Hid (Tx w0.heap.size vo out wr) ∧ Below w0.heap.size w0 wr ∧ ((vi = .int .i64 (-1) ∧ Hid (out = L)) ∨ ∃ k j : Nat, vi = .int .i64 (j : Int) ∧ j < cs.length ∧ g = k + 1 ∧ out.length + k ≤ cs.length + 1 ∧ Hid (upC cs k (cs.getD j cl0) = true) ∧ Hid (out ++ (lnC cs k (cs.getD j cl0)).map (·.nam) = L)))
    case atStart =>
      refine ⟨[], Tx.nil _ _, k2, ?_⟩
      rcases unhide HS with ⟨h1, h2⟩ | ⟨j, h1, h2, h3, h4⟩
      · exact .inl ⟨by rw [h1], h2.symm⟩
      · exact .inr ⟨cs.length + 1, j, by rw [h2], h1, rfl, by simp, h3, by show _ = _; rw [List.nil_append]; exact h4.symm⟩
    case round =>
      clear HS S2 k2
      obtain ⟨out, HTX, hb, hrel⟩ := hrel
      have hsz := hb.size
      have hbw := b0.trans (hb.mono b0.size)
      rcases hrel with ⟨rfl, HL⟩ | ⟨k, j, rfl, hj, rfl, hol, HU, HL⟩
      · go_wp2
        go_ret
        refine ⟨_, rfl, ?_, hbw⟩
        rw [← unhide HL]
        exact tx_low (by omega) (unhide HTX)
      · have hj1 : (j : Int) < (cs.length : Int) := by omega
        have hj2 : (0 : Int) ≤ (j : Int) := by omega
        obtain ⟨ac', cc', hvv, _, hcc⟩ := unhide HC
        cases hvv
        obtain ⟨b, off, rfl, hce⟩ := hcc (by omega)
        obtain ⟨e0, e1, _⟩ := hce j hj
        have d0 := (hbw.cell (cell_lt e0)).trans e0
        have HE1 := hide e1
        obtain ⟨s0, s1⟩ := ((unhide S0).keep hb).cells
        clear e0 e1
        have HST := hide (lineC_step (unhide HK) (unhide HU))
        obtain ⟨N, hN⟩ : ∃ N, N = out.length := ⟨_, rfl⟩
        have HN := hide hN
        rw [← hN] at hol
        have hm1 : N + 1 ≤ maxLen := by unfold maxLen; omega
        have hm2 : (N + 1) * 16 ≤ 140737488355328 := by omega
        clear hcc hce hN HU
        have CX := hide (unhide CA (cs.getD j cl0).abv)
        generalize cs.getD j cl0 = y at *
        rcases unhide HST with ⟨hx, hln⟩ | ⟨m, i, rfl, hi', hx, hu, hln⟩
        · rw [hx] at CX
          rw [hln] at HL
          clear HST hx hln CA
          go_wp2_with (at_builtin; refine wpList_append_lies _ rfl _ _ 32 rfl w0.heap.size 9 i0 _ 1 16 Try.underlying32 hi hz0 hz1 hz2 rfl (by omega) _ N _ rfl (World.ownsRow.alloc (Tx.own (unhide HN) (unhide HTX)) _) ⟨wr.heap.size, 0, none⟩ 1 1 [.string _] rfl rfl (World.news_of_block (cs := #[.string _]) (t := 9) (fr := (0, 0)) (heap_new wr _)) (by simp [Value.oneCell']) (by omega) hm1 hm2 (by simp; omega) (wr.heap.size + 1) (by simp) ?_; intro g9 cap9 w9 hown9 hgrow9 hat9 hlt9; have hb9 := hb.trans (below_own (grown_one hgrow9) hsz (own_block (Tx.own (unhide HN) (unhide HTX)))); have d9 := ((b0.trans (hb9.mono b0.size)).cell (cell_lt (unhide HE1))).trans (unhide HE1); obtain ⟨v0, v1⟩ := ((unhide S0).keep hb9).cells; have HT9 := hide (Tx.push (unhide HN) hown9); clear hown9 hgrow9 hat9 hlt9)
          have hbx := b0.trans (hb9.mono b0.size)
          have C9 := hide (fun p : BB w9 => unhide CX p.W (hbx.trans (p.b.mono hbx.size)))
          replace d9 := cell_bb d9
          replace v0 := cell_bb v0
          replace v1 := cell_bb v1
          refine wp_region_below (by first | exact mx | assumption) (by kernel_rfl) ?_
          intro nebb
          repeat (go_big_quiet_step ((go_at_call 30; exact callsBB (unhide C9 _))))
          refine wpQuiet_nil ?_
          intro _ hw'
          obtain ⟨pq, hw''⟩ := hw'
          subst hw''
          have bq := pq.b
          generalize pq.W = wq at *
          go_wp2
          have t3 := hb9.trans (bq.mono hb9.size)
          have HT3 := hide ((unhide HT9).below bq)
          go_roundg k
          case measure => omega
          case rel => exact ⟨out ++ [y.nam], unhide HT3, t3, .inl ⟨rfl, unhide HL⟩⟩
        · rw [hx] at CX
          rw [hln] at HL
          have HUU := hide hu
          clear HST hx hln CA hu
          go_wp2_with (at_builtin; refine wpList_append_lies _ rfl _ _ 32 rfl w0.heap.size 9 i0 _ 1 16 Try.underlying32 hi hz0 hz1 hz2 rfl (by omega) _ N _ rfl (World.ownsRow.alloc (Tx.own (unhide HN) (unhide HTX)) _) ⟨wr.heap.size, 0, none⟩ 1 1 [.string _] rfl rfl (World.news_of_block (cs := #[.string _]) (t := 9) (fr := (0, 0)) (heap_new wr _)) (by simp [Value.oneCell']) (by omega) hm1 hm2 (by simp; omega) (wr.heap.size + 1) (by simp) ?_; intro g9 cap9 w9 hown9 hgrow9 hat9 hlt9; have hb9 := hb.trans (below_own (grown_one hgrow9) hsz (own_block (Tx.own (unhide HN) (unhide HTX)))); have d9 := ((b0.trans (hb9.mono b0.size)).cell (cell_lt (unhide HE1))).trans (unhide HE1); obtain ⟨v0, v1⟩ := ((unhide S0).keep hb9).cells; have HT9 := hide (Tx.push (unhide HN) hown9); clear hown9 hgrow9 hat9 hlt9)
          have hbx := b0.trans (hb9.mono b0.size)
          have C9 := hide (fun p : BB w9 => unhide CX p.W (hbx.trans (p.b.mono hbx.size)))
          replace d9 := cell_bb d9
          replace v0 := cell_bb v0
          replace v1 := cell_bb v1
          refine wp_region_below (by first | exact mx | assumption) (by kernel_rfl) ?_
          intro nebb
          repeat (go_big_quiet_step ((go_at_call 30; exact callsBB (unhide C9 _))))
          refine wpQuiet_nil ?_
          intro _ hw'
          obtain ⟨pq, hw''⟩ := hw'
          subst hw''
          have bq := pq.b
          generalize pq.W = wq at *
          go_wp2
          have t3 := hb9.trans (bq.mono hb9.size)
          have HT3 := hide ((unhide HT9).below bq)
          go_roundg (m + 1)
          case measure => omega
          case rel => exact ⟨out ++ [y.nam], unhide HT3, t3, .inr ⟨m, i, rfl, hi', rfl, by rw [List.length_append, ← unhide HN]; simp; omega, unhide HUU, by show _ = _; rw [← unhide HL]; simp⟩⟩
  · have HL : Hid (lineC l cs n = []) := by show _ = _; unfold lineC; rw [if_neg h0]
    have hne : (chkC l cs != 0) = true := by simpa using h0
    rw [unhide HL]
    clear h0 HL CA
    generalize chkC l cs = R at *
    go_enter Try.func14, Try.ntmps14
    go_wp2_with (go_at_call 11; refine (unhide CK _ b0).mono ?_; rintro e w1 ⟨rfl, k1⟩; have t1 := b0.trans (k1.mono b0.size))
    go_ret
    exact ⟨_, rfl, Tx.nil _ _, t1⟩
end Go.Proofs.Ytjjildpdelkejaa
/- append, of any row or none, at a step of a region that draws: the new value a letter. -/
namespace Go.Proofs.Ytjjildpdelkejaa
open Go.RowKit

theorem wp_append_at {P : Program} (w : World) {o : Oper} {a : Act} {K : Act → World → Prop} {Q : Exit → Act → World → Prop} (s x : Operand) (t : TypeId)
    (ho : o.op = .call { callee := .builtin .append, args := #[s, x], argTypes := #[t, t] })
    (base : Nat) (e : TypeId) (i : TypeInfo) (z : Value) (size bytes : Nat) (ht : P.underlying t = some (.slice e)) (hi : P.info? e = some i) (hz : i.zero = some z)
    (hsize : i.size = size) (hby : i.bytes = bytes) (hzs : z.cells.size = size) (hsz : 0 < size)
    (v : Value) (n : Nat) (xs : List Value) (hs : a.eval s = v) (hown : w.ownsRow base e size v n xs)
    (ad : Addr) (m c : Nat) (news : List Value) (hx : a.eval x = .slice (some ad) m c) (hl : news.length = m * size) (hnews : ∀ j u, news[j]? = some u → w.cell? (ad.add j) = some u) (h1 : ∀ u ∈ news, u.oneCell' = true)
    (h63 : n + m ≤ maxLen) (hbytes : (n + m) * bytes ≤ 140737488355328) (hbase : base ≤ w.heap.size)
    (h : ∀ v' w', w'.ownsRow base e size v' (n + m) (xs ++ news) → w.grownBy w' v.ownBlock → K (a.put o.dst v') w') : o.wp P a w K Q := by
  obtain ⟨v', w', hr, h2, h3, _, _⟩ := run_append_own_at (P := P) w base t o.type e i z size bytes ht hi hz hsize hby hzs hsz v n xs hown ad m c news hl hnews h1 h63 hbytes hbase
  unfold Oper.wp execOp
  simp only [ho, resolve, invoke, builtin, Sem.run_bind, Sem.run_pure, Result.andThen_ok, List.map_toArray, List.map_cons, List.map_nil, hs, hx, hr]
  exact h v' w' h2 h3

theorem step_append_at {P : Program} (w : World) {ops : Array Oper} {o : Oper} {a : Act} {K : Act → World → Prop} {Q : Exit → Act → World → Prop} {E : Prop} (hgd : o.guard = none) (s x : Operand) (t : TypeId)
    (ho : o.op = .call { callee := .builtin .append, args := #[s, x], argTypes := #[t, t] })
    (base : Nat) (e : TypeId) (i : TypeInfo) (z : Value) (size bytes : Nat) (ht : P.underlying t = some (.slice e)) (hi : P.info? e = some i) (hz : i.zero = some z)
    (hsize : i.size = size) (hby : i.bytes = bytes) (hzs : z.cells.size = size) (hsz : 0 < size)
    (v : Value) (n : Nat) (xs : List Value) (hs : a.eval s = v) (hown : w.ownsRow base e size v n xs)
    (ad : Addr) (m c : Nat) (news : List Value) (hx : a.eval x = .slice (some ad) m c) (hl : news.length = m * size) (hnews : ∀ j u, news[j]? = some u → w.cell? (ad.add j) = some u) (h1 : ∀ u ∈ news, u.oneCell' = true)
    (h63 : n + m ≤ maxLen) (hbytes : (n + m) * bytes ≤ 140737488355328) (hbase : base ≤ w.heap.size)
    (h : ∀ v' w', w'.ownsRow base e size v' (n + m) (xs ++ news) → w.grownBy w' v.ownBlock → K (a.put o.dst v') w') :
    if Region.wanted o (yielded ops a.tmps) = true then Oper.wp P o a w K Q else E := by
  have hw : Region.wanted o (yielded ops a.tmps) = true := by simp [Region.wanted, hgd]
  rw [if_pos hw]
  exact wp_append_at w s x t ho base e i z size bytes ht hi hz hsize hby hzs hsz v n xs hs hown ad m c news hx hl hnews h1 h63 hbytes hbase h

end Go.Proofs.Ytjjildpdelkejaa
/- The document's put of layer 21. -/
namespace Go.Proofs.Ytjjildpdelkejaa
open Go.RowKit

theorem putS_at {s : ByteArray} : ∀ (L : List ByteArray) (k : Nat), k ≤ L.length → (∀ j, j < k → lsT (L.getD j te) s = true) → (k < L.length → lsT (L.getD k te) s = false) → putS L s = if k < L.length ∧ L.getD k te = s then L else L.take k ++ s :: L.drop k
  | [], k, hk, _, _ => by
    obtain rfl : k = 0 := by simpa using hk
    simp [putS]
  | x :: t, 0, _, _, h => by
    have h0 : lsT x s = false := by simpa using h (by simp)
    rw [putS, if_neg (by rw [h0]; decide)]
    by_cases e : x = s
    · rw [if_pos e, if_pos ⟨by simp, by simpa using e⟩]
    · rw [if_neg e, if_neg (fun q => e (by simpa using q.2))]
      rfl
  | x :: t, k + 1, hk, hj, h => by
    have h0 : lsT x s = true := by simpa using hj 0 (by omega)
    rw [putS, if_pos h0, putS_at t k (by simpa using hk) (fun j hj' => by simpa using hj (j + 1) (by omega)) (fun q => by simpa using h (by simpa using q))]
    by_cases e : k < t.length ∧ t.getD k te = s
    · rw [if_pos e, if_pos ⟨by simp; omega, by simpa using e.2⟩]
    · rw [if_neg e, if_neg (fun q => e ⟨by simpa using q.1, by simpa using q.2⟩)]
      rfl
theorem putS_len (s : ByteArray) : ∀ (L : List ByteArray), (putS L s).length ≤ L.length + 1
  | [] => by simp [putS]
  | x :: t => by
    have := putS_len s t
    rw [putS]
    split
    · simp; omega
    · split <;> simp
theorem own_nilT (w : World) (B : Nat) (hB : B ≤ w.heap.size) : (w.alloc (.cells #[] 9)).ownsRow B 9 1 (.slice (some ⟨w.heap.size, 0, none⟩) 0 0) 0 [] :=
  ⟨rfl, .inr ⟨w.heap.size, 0, #[], rfl, hB, heap_new w _, Nat.le_refl _, by unfold maxLen; omega, rfl, rfl⟩⟩
theorem texts_one (L : List ByteArray) : ∀ u ∈ L.map Value.string, u.oneCell' = true := fun u hu => by
  obtain ⟨x, _, rfl⟩ := List.mem_map.1 hu
  rfl
/-- Nothing is appended. -/
theorem step_append_none {P : Program} (w : World) {ops : Array Oper} {o : Oper} {a : Act} {K : Act → World → Prop} {Q : Exit → Act → World → Prop} {E : Prop} (hgd : o.guard = none) (s x : Operand) (t : TypeId)
    (ho : o.op = .call { callee := .builtin .append, args := #[s, x], argTypes := #[t, t] })
    (base : Nat) (e : TypeId) (i : TypeInfo) (size : Nat) (ht : P.underlying t = some (.slice e)) (hi : P.info? e = some i)
    (v : Value) (n : Nat) (xs : List Value) (hs : a.eval s = v) (hown : w.ownsRow base e size v n xs) (hx : a.eval x = .slice none 0 0) (h : K (a.put o.dst v) w) :
    if Region.wanted o (yielded ops a.tmps) = true then Oper.wp P o a w K Q else E := by
  have hw : Region.wanted o (yielded ops a.tmps) = true := by simp [Region.wanted, hgd]
  rw [if_pos hw]
  have hr := run_append_owned_none (w := w) (P := P) base t o.type e i size ht hi v n xs hown
  unfold Oper.wp execOp
  simp only [ho, resolve, invoke, builtin, Sem.run_bind, Sem.run_pure, Result.andThen_ok, List.map_toArray, List.map_cons, List.map_nil, hs, hx, hr]
  exact h
theorem news_of_cellsT {W : World} {L : List ByteArray} {b off : Nat} (h : ∀ j, j < L.length → W.cell? ⟨b, off + j, none⟩ = some (.string (L.getD j te))) : ∀ j u, (L.map Value.string)[j]? = some u → W.cell? ((⟨b, off, none⟩ : Addr).add j) = some u := fun j u hu => by
  have hadd : (⟨b, off, none⟩ : Addr).add j = ⟨b, off + j, none⟩ := by unfold Addr.add; split <;> simp_all
  rw [List.getElem?_map] at hu
  cases hq : L[j]? with
  | none => rw [hq] at hu; cases hu
  | some x =>
    rw [hq] at hu
    cases hu
    have hj := (List.getElem?_eq_some_iff.1 hq).1
    rw [hadd, h j hj]
    simp [List.getD, hq]
set_option maxHeartbeats 12800000 in
theorem rput_any (B : Nat) (v : Value) (L : List ByteArray) (s : ByteArray) (w : World) (hX : Tx B v L w) (hB : B ≤ w.heap.size) (hl : L.length ≤ 100000) : Calls Try.prog 36 #[v, .string s] w fun e w' => ∃ u, e = .returned u ∧ Tx B u (putS L s) w' ∧ Below w.heap.size w w' := by
  have mx : Try.prog.follows .mixedOrders = true := by kernel_rfl
  obtain ⟨i0, hi, iz0, iz1, iz2⟩ := info_parts str_info
  have HX := hide hX
  have hlow : Hid (∀ u W, Tx w.heap.size u (putS L s) W → Tx B u (putS L s) W) := fun u W h => tx_low hB h
  rcases hX.2 with ⟨rfl, h0⟩ | ⟨g, cap, cur, rfl, hg, hgc, hcap, hmx, _⟩
  · obtain rfl : L = [] := List.eq_nil_of_length_eq_zero h0
    have hp : putS [] s = [s] := rfl
    rw [hp]
    clear hp HX hlow hX h0
    go_enter Try.func36, Try.ntmps36
    go_wp2
    go_loop [5] (fun i => i = .int .i64 0) (fun _ => 0)
    case atStart => rfl
    case round =>
      subst hrel
      go_wp2
      have G1 : Hid (Gr w (w.alloc (.cells #[] 9)).drew) := ((Gr.refl _).alloc _).drew
      have G2 : Hid (Gr w ((w.alloc (.cells #[] 9)).alloc (.cells #[.string s] 9)).drew) := (((Gr.refl _).alloc _).alloc _).drew
      have G3 : Hid (Gr w ((w.alloc (.cells #[.string s] 9)).alloc (.cells #[] 9)).drew) := (((Gr.refl _).alloc _).alloc _).drew
      have O1 : Hid ((w.alloc (.cells #[] 9)).drew.ownsRow w.heap.size 9 1 (.slice (some ⟨w.heap.size, 0, none⟩) 0 0) 0 []) := own_below (own_nilT w _ (Nat.le_refl _)) ((Gr.refl _).drew).below
      have O2 : Hid (((w.alloc (.cells #[] 9)).alloc (.cells #[.string s] 9)).drew.ownsRow w.heap.size 9 1 (.slice (some ⟨w.heap.size, 0, none⟩) 0 0) 0 []) := own_below (own_nilT w _ (Nat.le_refl _)) ((Gr.one _ _).drew).below
      have O3 : Hid (((w.alloc (.cells #[.string s] 9)).alloc (.cells #[] 9)).drew.ownsRow w.heap.size 9 1 (.slice (some ⟨w.heap.size + 1, 0, none⟩) 0 0) 0 []) := by
        have h9 := own_below (own_nilT (w.alloc (.cells #[.string s] 9)) w.heap.size (by simp)) ((Gr.refl _).drew).below
        rw [World.size_alloc] at h9
        exact h9
      have N2 : Hid (((w.alloc (.cells #[] 9)).alloc (.cells #[.string s] 9)).drew.heap[w.heap.size + 1]? = some (.cells #[.string s] 9)) := by
        have h9 := heap_new (w.alloc (.cells #[] 9)) (.cells #[.string s] 9)
        rw [World.size_alloc] at h9; exact h9
      have N3 : Hid (((w.alloc (.cells #[.string s] 9)).alloc (.cells #[] 9)).drew.heap[w.heap.size]? = some (.cells #[.string s] 9)) :=
        ((Gr.one (w.alloc (.cells #[.string s] 9)) (.cells #[] 9)).below.block _ (by simp)).trans (heap_new w _)
      have mm3 : 0 + 1 ≤ maxLen := by unfold maxLen; omega
      have mm4 : (0 + 1) * 16 ≤ 140737488355328 := by omega
      go_region_held3 (fun _ => True) (trivial)
        (first
          | (refine step_append_none _ (by rfl) _ _ _ (by rfl) w.heap.size 9 i0 1 Try.underlying32 hi _ 0 [] (by rfl) (unhide O1) (by rfl) ?_)
          | (refine step_append_none _ (by rfl) _ _ _ (by rfl) w.heap.size 9 i0 1 Try.underlying32 hi _ 0 [] (by rfl) (unhide O2) (by rfl) ?_)
          | (refine step_append_none _ (by rfl) _ _ _ (by rfl) w.heap.size 9 i0 1 Try.underlying32 hi _ 0 [] (by rfl) (unhide O3) (by rfl) ?_)
          | (refine step_append_lies _ (by rfl) _ _ _ (by rfl) w.heap.size 9 i0 _ 1 16 Try.underlying32 hi iz0 iz1 iz2 rfl (by omega) _ 0 [] (by rfl) (unhide O2) ⟨w.heap.size + 1, 0, none⟩ 1 1 [.string s] (by rfl) (by rfl) (World.news_of_block (B := w.heap.size + 1) (cs := #[.string s]) (t := 9) (fr := (0, 0)) (unhide N2)) (by simp [Value.oneCell']) (by omega) mm3 mm4 (unhide G2).size (w.heap.size + 1 + 1) (by simp) ?_; intro g8 cap8 w8 hown8 hgrow8 hat8 hlt8; have b8 : Below w.heap.size w w8 := (unhide G2).below.trans (below_own hgrow8 (unhide G2).size (own_block (unhide O2))); have hs8 := b8.size)
          | (refine step_append_lies _ (by rfl) _ _ _ (by rfl) w.heap.size 9 i0 _ 1 16 Try.underlying32 hi iz0 iz1 iz2 rfl (by omega) _ 0 [] (by rfl) (unhide O3) ⟨w.heap.size, 0, none⟩ 1 1 [.string s] (by rfl) (by rfl) (World.news_of_block (B := w.heap.size) (cs := #[.string s]) (t := 9) (fr := (0, 0)) (unhide N3)) (by simp [Value.oneCell']) (by omega) mm3 mm4 (unhide G3).size (w.heap.size + 1 + 1) (by simp) ?_; intro g8 cap8 w8 hown8 hgrow8 hat8 hlt8; have b8 : Below w.heap.size w w8 := (unhide G3).below.trans (below_own hgrow8 (unhide G3).size (own_block (unhide O3))); have hs8 := b8.size)
          | (refine step_append_none _ (by rfl) _ _ _ (by rfl) w.heap.size 9 i0 1 Try.underlying32 hi _ (0 + 1) _ (by rfl) hown8 (by rfl) ?_))
      all_goals
        have r9 : Tx w.heap.size _ [s] _ := (by unfold Tx; exact hown8)
        have HR9 := hide (tx_low hB r9)
        try simp only [Exit.then]
        go_wp2
        go_ret
        exact ⟨_, rfl, unhide HR9, b8⟩
  have hc9 := hX.ts (by omega)
  obtain ⟨a', cap', hvv, hlc, hcc⟩ := hc9
  cases hvv
  have HC : Hid (∀ j, j < L.length → w.cell? ⟨g, j, none⟩ = some (.string (L.getD j te))) := fun j hj => by
    obtain ⟨b, off, e, hce⟩ := hcc (by omega)
    cases e
    have := hce j hj
    rwa [Nat.zero_add] at this
  have HPP : Hid (∀ k, k ≤ L.length → (∀ j, j < k → lsT (L.getD j te) s = true) → (k < L.length → lsT (L.getD k te) s = false) → putS L s = if k < L.length ∧ L.getD k te = s then L else L.take k ++ s :: L.drop k) := fun k h1 h2 h3 => putS_at L k h1 h2 h3
  clear hcc hX hlow hgc
  generalize hPS : putS L s = PS at *
  clear hPS
  go_enter Try.func36, Try.ntmps36
  go_wp2
  go_loop [5] (fun i => ∃ k : Nat, k ≤ L.length ∧ i = .int .i64 (k : Int) ∧ Hid (∀ j, j < k → lsT (L.getD j te) s = true)) (fun i => L.length - (intOf i).toNat)
  case atStart => exact ⟨0, Nat.zero_le _, rfl, fun j hj => absurd hj (Nat.not_lt_zero _)⟩
  case round =>
    obtain ⟨k, hk, rfl, HK⟩ := hrel
    have hz0 : (0 : Int) ≤ (k : Int) := by omega
    have hkc : (k : Int) ≤ (cap : Int) := by omega
    have hkc2 : (L.length : Int) ≤ (cap : Int) := by omega
    have hkc4 : (k : Int) ≤ (L.length : Int) := by omega
    have hkn : k ≤ cap := by omega
    by_cases hlt : k < L.length
    · have hzl : (k : Int) < (L.length : Int) := by omega
      have q0 := unhide HC k hlt

      have HY : Hid (lsT (L.getD k te) s = true → ∀ j, j < k + 1 → lsT (L.getD j te) s = true) := fun h j hj => by
        by_cases e : j = k
        · rw [e]; exact h
        · exact unhide HK j (by omega)
      have HN : Hid (lsT (L.getD k te) s = false → PS = if k < L.length ∧ L.getD k te = s then L else L.take k ++ s :: L.drop k) := fun h => unhide HPP k hk (unhide HK) (fun _ => h)
      clear HPP HK
      generalize L.getD k te = x at *
      have hls : Op.bytesLess x.toList s.toList = lsT x s := rfl
      cases hq : lsT x s <;> rw [hq] at hls
      · have HP := hide (unhide HN hq)
        have hbq := txt_beq x s
        clear hq HY HN
        by_cases e : x = s
        · rw [decide_eq_true e] at hbq
          rw [if_pos ⟨hlt, e⟩] at HP
          clear e
          go_wp2
          go_ret
          exact ⟨_, rfl, by rw [unhide HP]; exact unhide HX, Below.refl _ _⟩
        · rw [decide_eq_false e] at hbq
          rw [if_neg (fun q => e q.2)] at HP
          have HPS := HP
          have hkc3 : ¬ cap = k := by omega
          clear e HP
          go_wp2
          have PC : Hid (∀ (W : World), Below w.heap.size w W → ∀ j u, ((L.take k).map Value.string)[j]? = some u → W.cell? ((⟨g, 0, none⟩ : Addr).add j) = some u) := fun W gg => news_of_cellsT fun j hj => by
            have hj' : j < L.length := by rw [List.length_take] at hj; omega
            have h := unhide HC j hj'
            rw [Nat.zero_add, (gg.cell (p := ⟨g, j, none⟩) (by exact cell_lt h)), h]
            have hjk : j < k := by rw [List.length_take] at hj; omega
            simp [List.getD, hjk]
          have QC : Hid (∀ (W : World), Below w.heap.size w W → ∀ j u, ((L.drop k).map Value.string)[j]? = some u → W.cell? ((⟨g, k, none⟩ : Addr).add j) = some u) := fun W gg => news_of_cellsT fun j hj => by
            have hj' : k + j < L.length := by rw [List.length_drop] at hj; omega
            have h := unhide HC (k + j) hj'
            rw [(gg.cell (p := ⟨g, k + j, none⟩) (by exact cell_lt h)), h]
            simp [List.getD]
          have G1 : Hid (Gr w (w.alloc (.cells #[] 9)).drew) := ((Gr.refl _).alloc _).drew
          have G2 : Hid (Gr w ((w.alloc (.cells #[] 9)).alloc (.cells #[.string s] 9)).drew) := (((Gr.refl _).alloc _).alloc _).drew
          have G3 : Hid (Gr w ((w.alloc (.cells #[.string s] 9)).alloc (.cells #[] 9)).drew) := (((Gr.refl _).alloc _).alloc _).drew
          have O1 : Hid ((w.alloc (.cells #[] 9)).drew.ownsRow w.heap.size 9 1 (.slice (some ⟨w.heap.size, 0, none⟩) 0 0) 0 []) := own_below (own_nilT w _ (Nat.le_refl _)) ((Gr.refl _).drew).below
          have O2 : Hid (((w.alloc (.cells #[] 9)).alloc (.cells #[.string s] 9)).drew.ownsRow w.heap.size 9 1 (.slice (some ⟨w.heap.size, 0, none⟩) 0 0) 0 []) := own_below (own_nilT w _ (Nat.le_refl _)) ((Gr.one _ _).drew).below
          have O3 : Hid (((w.alloc (.cells #[.string s] 9)).alloc (.cells #[] 9)).drew.ownsRow w.heap.size 9 1 (.slice (some ⟨w.heap.size + 1, 0, none⟩) 0 0) 0 []) := by
            have h9 := own_below (own_nilT (w.alloc (.cells #[.string s] 9)) w.heap.size (by simp)) ((Gr.refl _).drew).below
            rw [World.size_alloc] at h9
            exact h9
          have N2 : Hid (((w.alloc (.cells #[] 9)).alloc (.cells #[.string s] 9)).drew.heap[w.heap.size + 1]? = some (.cells #[.string s] 9)) := by
            have h9 := heap_new (w.alloc (.cells #[] 9)) (.cells #[.string s] 9)
            rw [World.size_alloc] at h9; exact h9
          have N3 : Hid (((w.alloc (.cells #[.string s] 9)).alloc (.cells #[] 9)).drew.heap[w.heap.size]? = some (.cells #[.string s] 9)) :=
            ((Gr.one (w.alloc (.cells #[.string s] 9)) (.cells #[] 9)).below.block _ (by simp)).trans (heap_new w _)
          have mm1 : 0 + k ≤ maxLen := by unfold maxLen; omega
          have mm2 : (0 + k) * 16 ≤ 140737488355328 := by omega
          have mm3 : 0 + k + 1 ≤ maxLen := by unfold maxLen; omega
          have mm4 : (0 + k + 1) * 16 ≤ 140737488355328 := by omega
          have mm5 : 0 + k + 1 + (L.length - k) ≤ maxLen := by unfold maxLen; omega
          have mm6 : (0 + k + 1 + (L.length - k)) * 16 ≤ 140737488355328 := by omega
          have HRW : Hid (∀ (v9 : Value) (w9 : World), w9.ownsRow w.heap.size 9 1 v9 (0 + k + 1 + (L.length - k)) ([] ++ (L.take k).map Value.string ++ [.string s] ++ (L.drop k).map Value.string) → Tx w.heap.size v9 (L.take k ++ s :: L.drop k) w9) := fun v9 w9 h => by
            unfold Tx
            have e1 : (L.take k ++ s :: L.drop k).length = 0 + k + 1 + (L.length - k) := by rw [List.length_append, List.length_cons, List.length_take, List.length_drop]; omega
            rw [e1]
            simpa using h
          have HPL : Hid (((L.take k).map Value.string).length = k * 1) := by show _ = _; rw [List.length_map, List.length_take, Nat.mul_one]; omega
          have HBL : Hid (((L.drop k).map Value.string).length = (L.length - k) * 1) := by show _ = _; rw [List.length_map, List.length_drop, Nat.mul_one]
          have HP1 := hide (texts_one (L.take k))
          have HB1 := hide (texts_one (L.drop k))
          generalize (L.take k).map Value.string = pre at *
          generalize (L.drop k).map Value.string = beh at *
          generalize hMR : L.take k ++ s :: L.drop k = MORE at *
          clear hMR
          generalize hln : L.length = ln at *
          go_region_held3 (fun _ => True) (trivial)
            (first
              | (refine step_append_at _ (by rfl) _ _ _ (by rfl) w.heap.size 9 i0 _ 1 16 Try.underlying32 hi iz0 iz1 iz2 rfl (by omega) _ 0 [] (by rfl) (unhide O1) ⟨g, 0, none⟩ k cap pre (by rfl) (unhide HPL) (unhide PC _ (unhide G1).below) (unhide HP1) mm1 mm2 (unhide G1).size ?_; intro v7 w7 hown7 hgrow7; have b7 : Below w.heap.size w w7 := ((unhide G1).below.trans (below_own hgrow7 (unhide G1).size (own_block (unhide O1)))); have hs7 := b7.size; try dsimp only)
              | (refine step_append_at _ (by rfl) _ _ _ (by rfl) w.heap.size 9 i0 _ 1 16 Try.underlying32 hi iz0 iz1 iz2 rfl (by omega) _ 0 [] (by rfl) (unhide O2) ⟨g, 0, none⟩ k cap pre (by rfl) (unhide HPL) (unhide PC _ (unhide G2).below) (unhide HP1) mm1 mm2 (unhide G2).size ?_; intro v7 w7 hown7 hgrow7; have b7 : Below w.heap.size w w7 := ((unhide G2).below.trans (below_own hgrow7 (unhide G2).size (own_block (unhide O2)))); have hs7 := b7.size; have hN7 : w7.heap[w.heap.size + 1]? = some (.cells #[.string s] 9) := ((hgrow7.block (w.heap.size + 1) (by simp) (by simp [Value.ownBlock])).trans (unhide N2)); try dsimp only)
              | (refine step_append_at _ (by rfl) _ _ _ (by rfl) w.heap.size 9 i0 _ 1 16 Try.underlying32 hi iz0 iz1 iz2 rfl (by omega) _ 0 [] (by rfl) (unhide O3) ⟨g, 0, none⟩ k cap pre (by rfl) (unhide HPL) (unhide PC _ (unhide G3).below) (unhide HP1) mm1 mm2 (unhide G3).size ?_; intro v7 w7 hown7 hgrow7; have b7 : Below w.heap.size w w7 := ((unhide G3).below.trans (below_own hgrow7 (unhide G3).size (own_block (unhide O3)))); have hs7 := b7.size; have hN7 : w7.heap[w.heap.size]? = some (.cells #[.string s] 9) := ((hgrow7.block (w.heap.size) (by simp; omega) (by simp [Value.ownBlock])).trans (unhide N3)); try dsimp only)
              | (refine step_append_lies _ (by rfl) _ _ _ (by rfl) w.heap.size 9 i0 _ 1 16 Try.underlying32 hi iz0 iz1 iz2 rfl (by omega) _ (0 + k) _ (by rfl) (hown7.alloc _) ⟨w7.heap.size, 0, none⟩ 1 1 [.string s] (by rfl) (by rfl) (World.news_of_block (B := w7.heap.size) (cs := #[.string s]) (t := 9) (fr := (0, 0)) (heap_new w7 _)) (by simp [Value.oneCell']) (by omega) mm3 mm4 (by rw [World.size_alloc]; omega) (w7.heap.size + 1) (by simp) ?_; intro g8 cap8 w8 hown8 hgrow8 hat8 hlt8; have b8 : Below w.heap.size w w8 := ((b7.alloc hs7 _).trans (below_own hgrow8 (by rw [World.size_alloc]; omega) (own_block hown7))); have hs8 := b8.size)
              | (refine step_append_lies _ (by rfl) _ _ _ (by rfl) w.heap.size 9 i0 _ 1 16 Try.underlying32 hi iz0 iz1 iz2 rfl (by omega) _ (0 + k) _ (by rfl) hown7 ⟨w.heap.size + 1, 0, none⟩ 1 1 [.string s] (by rfl) (by rfl) (World.news_of_block (B := w.heap.size + 1) (cs := #[.string s]) (t := 9) (fr := (0, 0)) hN7) (by simp [Value.oneCell']) (by omega) mm3 mm4 hs7 w7.heap.size (by simp) ?_; intro g8 cap8 w8 hown8 hgrow8 hat8 hlt8; have b8 : Below w.heap.size w w8 := (b7.trans (below_own hgrow8 hs7 (own_block hown7))); have hs8 := b8.size)
              | (refine step_append_lies _ (by rfl) _ _ _ (by rfl) w.heap.size 9 i0 _ 1 16 Try.underlying32 hi iz0 iz1 iz2 rfl (by omega) _ (0 + k) _ (by rfl) hown7 ⟨w.heap.size, 0, none⟩ 1 1 [.string s] (by rfl) (by rfl) (World.news_of_block (B := w.heap.size) (cs := #[.string s]) (t := 9) (fr := (0, 0)) hN7) (by simp [Value.oneCell']) (by omega) mm3 mm4 hs7 w7.heap.size (by simp) ?_; intro g8 cap8 w8 hown8 hgrow8 hat8 hlt8; have b8 : Below w.heap.size w w8 := (b7.trans (below_own hgrow8 hs7 (own_block hown7))); have hs8 := b8.size)
              | (refine step_append_at _ (by rfl) _ _ _ (by rfl) w.heap.size 9 i0 _ 1 16 Try.underlying32 hi iz0 iz1 iz2 rfl (by omega) _ (0 + k + 1) _ (by rfl) hown8 ⟨g, k, none⟩ (ln - k) (cap - k) beh (by first | rfl | (simp; done)) (unhide HBL) (unhide QC _ b8) (unhide HB1) mm5 mm6 hs8 ?_; intro v9 w9 hown9 hgrow9; have b9 : Below w.heap.size w w9 := (b8.trans (below_own hgrow9 hs8 (own_block hown8))); try dsimp only))
          all_goals
            have r9 := unhide HRW _ _ hown9
            have HR9 := hide (tx_low hB r9)
            clear hown9 hgrow9 r9
            try simp only [Exit.then]
            go_wp2
            go_ret
            exact ⟨_, rfl, by rw [unhide HPS]; exact unhide HR9, b9⟩
      · have HK2 := hide (unhide HY hq)
        clear hq HY HN
        go_wp2
        go_round
        case rel => exact ⟨k + 1, by omega, by go_num, unhide HK2⟩
        case measure => simp [intOf]; omega
    · have hzl : ¬ (k : Int) < (L.length : Int) := by omega
      have HPS : Hid (PS = L.take k ++ s :: L.drop k) := by
        have := unhide HPP k hk (unhide HK) (fun q => absurd q hlt)
        rwa [if_neg (fun q => hlt q.1)] at this
      clear HPP HK
      by_cases hkc3 : cap = k
      · go_wp2
        have PC : Hid (∀ (W : World), Below w.heap.size w W → ∀ j u, ((L.take k).map Value.string)[j]? = some u → W.cell? ((⟨g, 0, none⟩ : Addr).add j) = some u) := fun W gg => news_of_cellsT fun j hj => by
          have hj' : j < L.length := by rw [List.length_take] at hj; omega
          have h := unhide HC j hj'
          rw [Nat.zero_add, (gg.cell (p := ⟨g, j, none⟩) (by exact cell_lt h)), h]
          have hjk : j < k := by rw [List.length_take] at hj; omega
          simp [List.getD, hjk]
        have QC : Hid (∀ (W : World), Below w.heap.size w W → ∀ j u, ((L.drop k).map Value.string)[j]? = some u → W.cell? ((⟨g, 0, none⟩ : Addr).add j) = some u) := fun W gg j u hu => by
          rw [List.drop_eq_nil_of_le (by omega)] at hu
          simp at hu
        have G1 : Hid (Gr w (w.alloc (.cells #[] 9)).drew) := ((Gr.refl _).alloc _).drew
        have G2 : Hid (Gr w ((w.alloc (.cells #[] 9)).alloc (.cells #[.string s] 9)).drew) := (((Gr.refl _).alloc _).alloc _).drew
        have G3 : Hid (Gr w ((w.alloc (.cells #[.string s] 9)).alloc (.cells #[] 9)).drew) := (((Gr.refl _).alloc _).alloc _).drew
        have O1 : Hid ((w.alloc (.cells #[] 9)).drew.ownsRow w.heap.size 9 1 (.slice (some ⟨w.heap.size, 0, none⟩) 0 0) 0 []) := own_below (own_nilT w _ (Nat.le_refl _)) ((Gr.refl _).drew).below
        have O2 : Hid (((w.alloc (.cells #[] 9)).alloc (.cells #[.string s] 9)).drew.ownsRow w.heap.size 9 1 (.slice (some ⟨w.heap.size, 0, none⟩) 0 0) 0 []) := own_below (own_nilT w _ (Nat.le_refl _)) ((Gr.one _ _).drew).below
        have O3 : Hid (((w.alloc (.cells #[.string s] 9)).alloc (.cells #[] 9)).drew.ownsRow w.heap.size 9 1 (.slice (some ⟨w.heap.size + 1, 0, none⟩) 0 0) 0 []) := by
          have h9 := own_below (own_nilT (w.alloc (.cells #[.string s] 9)) w.heap.size (by simp)) ((Gr.refl _).drew).below
          rw [World.size_alloc] at h9
          exact h9
        have N2 : Hid (((w.alloc (.cells #[] 9)).alloc (.cells #[.string s] 9)).drew.heap[w.heap.size + 1]? = some (.cells #[.string s] 9)) := by
          have h9 := heap_new (w.alloc (.cells #[] 9)) (.cells #[.string s] 9)
          rw [World.size_alloc] at h9; exact h9
        have N3 : Hid (((w.alloc (.cells #[.string s] 9)).alloc (.cells #[] 9)).drew.heap[w.heap.size]? = some (.cells #[.string s] 9)) :=
          ((Gr.one (w.alloc (.cells #[.string s] 9)) (.cells #[] 9)).below.block _ (by simp)).trans (heap_new w _)
        have mm1 : 0 + k ≤ maxLen := by unfold maxLen; omega
        have mm2 : (0 + k) * 16 ≤ 140737488355328 := by omega
        have mm3 : 0 + k + 1 ≤ maxLen := by unfold maxLen; omega
        have mm4 : (0 + k + 1) * 16 ≤ 140737488355328 := by omega
        have mm5 : 0 + k + 1 + (L.length - k) ≤ maxLen := by unfold maxLen; omega
        have mm6 : (0 + k + 1 + (L.length - k)) * 16 ≤ 140737488355328 := by omega
        have HRW : Hid (∀ (v9 : Value) (w9 : World), w9.ownsRow w.heap.size 9 1 v9 (0 + k + 1 + (L.length - k)) ([] ++ (L.take k).map Value.string ++ [.string s] ++ (L.drop k).map Value.string) → Tx w.heap.size v9 (L.take k ++ s :: L.drop k) w9) := fun v9 w9 h => by
          unfold Tx
          have e1 : (L.take k ++ s :: L.drop k).length = 0 + k + 1 + (L.length - k) := by rw [List.length_append, List.length_cons, List.length_take, List.length_drop]; omega
          rw [e1]
          simpa using h
        have HPL : Hid (((L.take k).map Value.string).length = k * 1) := by show _ = _; rw [List.length_map, List.length_take, Nat.mul_one]; omega
        have HBL : Hid (((L.drop k).map Value.string).length = (L.length - k) * 1) := by show _ = _; rw [List.length_map, List.length_drop, Nat.mul_one]
        have HP1 := hide (texts_one (L.take k))
        have HB1 := hide (texts_one (L.drop k))
        generalize (L.take k).map Value.string = pre at *
        generalize (L.drop k).map Value.string = beh at *
        generalize hMR : L.take k ++ s :: L.drop k = MORE at *
        clear hMR
        generalize hln : L.length = ln at *
        go_region_held3 (fun _ => True) (trivial)
          (first
            | (refine step_append_at _ (by rfl) _ _ _ (by rfl) w.heap.size 9 i0 _ 1 16 Try.underlying32 hi iz0 iz1 iz2 rfl (by omega) _ 0 [] (by rfl) (unhide O1) ⟨g, 0, none⟩ k k pre (by rfl) (unhide HPL) (unhide PC _ (unhide G1).below) (unhide HP1) mm1 mm2 (unhide G1).size ?_; intro v7 w7 hown7 hgrow7; have b7 : Below w.heap.size w w7 := ((unhide G1).below.trans (below_own hgrow7 (unhide G1).size (own_block (unhide O1)))); have hs7 := b7.size; try dsimp only)
            | (refine step_append_at _ (by rfl) _ _ _ (by rfl) w.heap.size 9 i0 _ 1 16 Try.underlying32 hi iz0 iz1 iz2 rfl (by omega) _ 0 [] (by rfl) (unhide O2) ⟨g, 0, none⟩ k k pre (by rfl) (unhide HPL) (unhide PC _ (unhide G2).below) (unhide HP1) mm1 mm2 (unhide G2).size ?_; intro v7 w7 hown7 hgrow7; have b7 : Below w.heap.size w w7 := ((unhide G2).below.trans (below_own hgrow7 (unhide G2).size (own_block (unhide O2)))); have hs7 := b7.size; have hN7 : w7.heap[w.heap.size + 1]? = some (.cells #[.string s] 9) := ((hgrow7.block (w.heap.size + 1) (by simp) (by simp [Value.ownBlock])).trans (unhide N2)); try dsimp only)
            | (refine step_append_at _ (by rfl) _ _ _ (by rfl) w.heap.size 9 i0 _ 1 16 Try.underlying32 hi iz0 iz1 iz2 rfl (by omega) _ 0 [] (by rfl) (unhide O3) ⟨g, 0, none⟩ k k pre (by rfl) (unhide HPL) (unhide PC _ (unhide G3).below) (unhide HP1) mm1 mm2 (unhide G3).size ?_; intro v7 w7 hown7 hgrow7; have b7 : Below w.heap.size w w7 := ((unhide G3).below.trans (below_own hgrow7 (unhide G3).size (own_block (unhide O3)))); have hs7 := b7.size; have hN7 : w7.heap[w.heap.size]? = some (.cells #[.string s] 9) := ((hgrow7.block (w.heap.size) (by simp; omega) (by simp [Value.ownBlock])).trans (unhide N3)); try dsimp only)
            | (refine step_append_lies _ (by rfl) _ _ _ (by rfl) w.heap.size 9 i0 _ 1 16 Try.underlying32 hi iz0 iz1 iz2 rfl (by omega) _ (0 + k) _ (by rfl) (hown7.alloc _) ⟨w7.heap.size, 0, none⟩ 1 1 [.string s] (by rfl) (by rfl) (World.news_of_block (B := w7.heap.size) (cs := #[.string s]) (t := 9) (fr := (0, 0)) (heap_new w7 _)) (by simp [Value.oneCell']) (by omega) mm3 mm4 (by rw [World.size_alloc]; omega) (w7.heap.size + 1) (by simp) ?_; intro g8 cap8 w8 hown8 hgrow8 hat8 hlt8; have b8 : Below w.heap.size w w8 := ((b7.alloc hs7 _).trans (below_own hgrow8 (by rw [World.size_alloc]; omega) (own_block hown7))); have hs8 := b8.size)
            | (refine step_append_lies _ (by rfl) _ _ _ (by rfl) w.heap.size 9 i0 _ 1 16 Try.underlying32 hi iz0 iz1 iz2 rfl (by omega) _ (0 + k) _ (by rfl) hown7 ⟨w.heap.size + 1, 0, none⟩ 1 1 [.string s] (by rfl) (by rfl) (World.news_of_block (B := w.heap.size + 1) (cs := #[.string s]) (t := 9) (fr := (0, 0)) hN7) (by simp [Value.oneCell']) (by omega) mm3 mm4 hs7 w7.heap.size (by simp) ?_; intro g8 cap8 w8 hown8 hgrow8 hat8 hlt8; have b8 : Below w.heap.size w w8 := (b7.trans (below_own hgrow8 hs7 (own_block hown7))); have hs8 := b8.size)
            | (refine step_append_lies _ (by rfl) _ _ _ (by rfl) w.heap.size 9 i0 _ 1 16 Try.underlying32 hi iz0 iz1 iz2 rfl (by omega) _ (0 + k) _ (by rfl) hown7 ⟨w.heap.size, 0, none⟩ 1 1 [.string s] (by rfl) (by rfl) (World.news_of_block (B := w.heap.size) (cs := #[.string s]) (t := 9) (fr := (0, 0)) hN7) (by simp [Value.oneCell']) (by omega) mm3 mm4 hs7 w7.heap.size (by simp) ?_; intro g8 cap8 w8 hown8 hgrow8 hat8 hlt8; have b8 : Below w.heap.size w w8 := (b7.trans (below_own hgrow8 hs7 (own_block hown7))); have hs8 := b8.size)
            | (refine step_append_at _ (by rfl) _ _ _ (by rfl) w.heap.size 9 i0 _ 1 16 Try.underlying32 hi iz0 iz1 iz2 rfl (by omega) _ (0 + k + 1) _ (by rfl) hown8 ⟨g, 0, none⟩ (ln - k) 0 beh (by first | rfl | (simp; done)) (unhide HBL) (unhide QC _ b8) (unhide HB1) mm5 mm6 hs8 ?_; intro v9 w9 hown9 hgrow9; have b9 : Below w.heap.size w w9 := (b8.trans (below_own hgrow9 hs8 (own_block hown8))); try dsimp only))
        all_goals
          have r9 := unhide HRW _ _ hown9
          have HR9 := hide (tx_low hB r9)
          clear hown9 hgrow9 r9
          try simp only [Exit.then]
          go_wp2
          go_ret
          exact ⟨_, rfl, by rw [unhide HPS]; exact unhide HR9, b9⟩
      · go_wp2
        have PC : Hid (∀ (W : World), Below w.heap.size w W → ∀ j u, ((L.take k).map Value.string)[j]? = some u → W.cell? ((⟨g, 0, none⟩ : Addr).add j) = some u) := fun W gg => news_of_cellsT fun j hj => by
          have hj' : j < L.length := by rw [List.length_take] at hj; omega
          have h := unhide HC j hj'
          rw [Nat.zero_add, (gg.cell (p := ⟨g, j, none⟩) (by exact cell_lt h)), h]
          have hjk : j < k := by rw [List.length_take] at hj; omega
          simp [List.getD, hjk]
        have QC : Hid (∀ (W : World), Below w.heap.size w W → ∀ j u, ((L.drop k).map Value.string)[j]? = some u → W.cell? ((⟨g, k, none⟩ : Addr).add j) = some u) := fun W gg => news_of_cellsT fun j hj => by
          have hj' : k + j < L.length := by rw [List.length_drop] at hj; omega
          have h := unhide HC (k + j) hj'
          rw [(gg.cell (p := ⟨g, k + j, none⟩) (by exact cell_lt h)), h]
          simp [List.getD]
        have G1 : Hid (Gr w (w.alloc (.cells #[] 9)).drew) := ((Gr.refl _).alloc _).drew
        have G2 : Hid (Gr w ((w.alloc (.cells #[] 9)).alloc (.cells #[.string s] 9)).drew) := (((Gr.refl _).alloc _).alloc _).drew
        have G3 : Hid (Gr w ((w.alloc (.cells #[.string s] 9)).alloc (.cells #[] 9)).drew) := (((Gr.refl _).alloc _).alloc _).drew
        have O1 : Hid ((w.alloc (.cells #[] 9)).drew.ownsRow w.heap.size 9 1 (.slice (some ⟨w.heap.size, 0, none⟩) 0 0) 0 []) := own_below (own_nilT w _ (Nat.le_refl _)) ((Gr.refl _).drew).below
        have O2 : Hid (((w.alloc (.cells #[] 9)).alloc (.cells #[.string s] 9)).drew.ownsRow w.heap.size 9 1 (.slice (some ⟨w.heap.size, 0, none⟩) 0 0) 0 []) := own_below (own_nilT w _ (Nat.le_refl _)) ((Gr.one _ _).drew).below
        have O3 : Hid (((w.alloc (.cells #[.string s] 9)).alloc (.cells #[] 9)).drew.ownsRow w.heap.size 9 1 (.slice (some ⟨w.heap.size + 1, 0, none⟩) 0 0) 0 []) := by
          have h9 := own_below (own_nilT (w.alloc (.cells #[.string s] 9)) w.heap.size (by simp)) ((Gr.refl _).drew).below
          rw [World.size_alloc] at h9
          exact h9
        have N2 : Hid (((w.alloc (.cells #[] 9)).alloc (.cells #[.string s] 9)).drew.heap[w.heap.size + 1]? = some (.cells #[.string s] 9)) := by
          have h9 := heap_new (w.alloc (.cells #[] 9)) (.cells #[.string s] 9)
          rw [World.size_alloc] at h9; exact h9
        have N3 : Hid (((w.alloc (.cells #[.string s] 9)).alloc (.cells #[] 9)).drew.heap[w.heap.size]? = some (.cells #[.string s] 9)) :=
          ((Gr.one (w.alloc (.cells #[.string s] 9)) (.cells #[] 9)).below.block _ (by simp)).trans (heap_new w _)
        have mm1 : 0 + k ≤ maxLen := by unfold maxLen; omega
        have mm2 : (0 + k) * 16 ≤ 140737488355328 := by omega
        have mm3 : 0 + k + 1 ≤ maxLen := by unfold maxLen; omega
        have mm4 : (0 + k + 1) * 16 ≤ 140737488355328 := by omega
        have mm5 : 0 + k + 1 + (L.length - k) ≤ maxLen := by unfold maxLen; omega
        have mm6 : (0 + k + 1 + (L.length - k)) * 16 ≤ 140737488355328 := by omega
        have HRW : Hid (∀ (v9 : Value) (w9 : World), w9.ownsRow w.heap.size 9 1 v9 (0 + k + 1 + (L.length - k)) ([] ++ (L.take k).map Value.string ++ [.string s] ++ (L.drop k).map Value.string) → Tx w.heap.size v9 (L.take k ++ s :: L.drop k) w9) := fun v9 w9 h => by
          unfold Tx
          have e1 : (L.take k ++ s :: L.drop k).length = 0 + k + 1 + (L.length - k) := by rw [List.length_append, List.length_cons, List.length_take, List.length_drop]; omega
          rw [e1]
          simpa using h
        have HPL : Hid (((L.take k).map Value.string).length = k * 1) := by show _ = _; rw [List.length_map, List.length_take, Nat.mul_one]; omega
        have HBL : Hid (((L.drop k).map Value.string).length = (L.length - k) * 1) := by show _ = _; rw [List.length_map, List.length_drop, Nat.mul_one]
        have HP1 := hide (texts_one (L.take k))
        have HB1 := hide (texts_one (L.drop k))
        generalize (L.take k).map Value.string = pre at *
        generalize (L.drop k).map Value.string = beh at *
        generalize hMR : L.take k ++ s :: L.drop k = MORE at *
        clear hMR
        generalize hln : L.length = ln at *
        go_region_held3 (fun _ => True) (trivial)
          (first
            | (refine step_append_at _ (by rfl) _ _ _ (by rfl) w.heap.size 9 i0 _ 1 16 Try.underlying32 hi iz0 iz1 iz2 rfl (by omega) _ 0 [] (by rfl) (unhide O1) ⟨g, 0, none⟩ k cap pre (by rfl) (unhide HPL) (unhide PC _ (unhide G1).below) (unhide HP1) mm1 mm2 (unhide G1).size ?_; intro v7 w7 hown7 hgrow7; have b7 : Below w.heap.size w w7 := ((unhide G1).below.trans (below_own hgrow7 (unhide G1).size (own_block (unhide O1)))); have hs7 := b7.size; try dsimp only)
            | (refine step_append_at _ (by rfl) _ _ _ (by rfl) w.heap.size 9 i0 _ 1 16 Try.underlying32 hi iz0 iz1 iz2 rfl (by omega) _ 0 [] (by rfl) (unhide O2) ⟨g, 0, none⟩ k cap pre (by rfl) (unhide HPL) (unhide PC _ (unhide G2).below) (unhide HP1) mm1 mm2 (unhide G2).size ?_; intro v7 w7 hown7 hgrow7; have b7 : Below w.heap.size w w7 := ((unhide G2).below.trans (below_own hgrow7 (unhide G2).size (own_block (unhide O2)))); have hs7 := b7.size; have hN7 : w7.heap[w.heap.size + 1]? = some (.cells #[.string s] 9) := ((hgrow7.block (w.heap.size + 1) (by simp) (by simp [Value.ownBlock])).trans (unhide N2)); try dsimp only)
            | (refine step_append_at _ (by rfl) _ _ _ (by rfl) w.heap.size 9 i0 _ 1 16 Try.underlying32 hi iz0 iz1 iz2 rfl (by omega) _ 0 [] (by rfl) (unhide O3) ⟨g, 0, none⟩ k cap pre (by rfl) (unhide HPL) (unhide PC _ (unhide G3).below) (unhide HP1) mm1 mm2 (unhide G3).size ?_; intro v7 w7 hown7 hgrow7; have b7 : Below w.heap.size w w7 := ((unhide G3).below.trans (below_own hgrow7 (unhide G3).size (own_block (unhide O3)))); have hs7 := b7.size; have hN7 : w7.heap[w.heap.size]? = some (.cells #[.string s] 9) := ((hgrow7.block (w.heap.size) (by simp; omega) (by simp [Value.ownBlock])).trans (unhide N3)); try dsimp only)
            | (refine step_append_lies _ (by rfl) _ _ _ (by rfl) w.heap.size 9 i0 _ 1 16 Try.underlying32 hi iz0 iz1 iz2 rfl (by omega) _ (0 + k) _ (by rfl) (hown7.alloc _) ⟨w7.heap.size, 0, none⟩ 1 1 [.string s] (by rfl) (by rfl) (World.news_of_block (B := w7.heap.size) (cs := #[.string s]) (t := 9) (fr := (0, 0)) (heap_new w7 _)) (by simp [Value.oneCell']) (by omega) mm3 mm4 (by rw [World.size_alloc]; omega) (w7.heap.size + 1) (by simp) ?_; intro g8 cap8 w8 hown8 hgrow8 hat8 hlt8; have b8 : Below w.heap.size w w8 := ((b7.alloc hs7 _).trans (below_own hgrow8 (by rw [World.size_alloc]; omega) (own_block hown7))); have hs8 := b8.size)
            | (refine step_append_lies _ (by rfl) _ _ _ (by rfl) w.heap.size 9 i0 _ 1 16 Try.underlying32 hi iz0 iz1 iz2 rfl (by omega) _ (0 + k) _ (by rfl) hown7 ⟨w.heap.size + 1, 0, none⟩ 1 1 [.string s] (by rfl) (by rfl) (World.news_of_block (B := w.heap.size + 1) (cs := #[.string s]) (t := 9) (fr := (0, 0)) hN7) (by simp [Value.oneCell']) (by omega) mm3 mm4 hs7 w7.heap.size (by simp) ?_; intro g8 cap8 w8 hown8 hgrow8 hat8 hlt8; have b8 : Below w.heap.size w w8 := (b7.trans (below_own hgrow8 hs7 (own_block hown7))); have hs8 := b8.size)
            | (refine step_append_lies _ (by rfl) _ _ _ (by rfl) w.heap.size 9 i0 _ 1 16 Try.underlying32 hi iz0 iz1 iz2 rfl (by omega) _ (0 + k) _ (by rfl) hown7 ⟨w.heap.size, 0, none⟩ 1 1 [.string s] (by rfl) (by rfl) (World.news_of_block (B := w.heap.size) (cs := #[.string s]) (t := 9) (fr := (0, 0)) hN7) (by simp [Value.oneCell']) (by omega) mm3 mm4 hs7 w7.heap.size (by simp) ?_; intro g8 cap8 w8 hown8 hgrow8 hat8 hlt8; have b8 : Below w.heap.size w w8 := (b7.trans (below_own hgrow8 hs7 (own_block hown7))); have hs8 := b8.size)
            | (refine step_append_at _ (by rfl) _ _ _ (by rfl) w.heap.size 9 i0 _ 1 16 Try.underlying32 hi iz0 iz1 iz2 rfl (by omega) _ (0 + k + 1) _ (by rfl) hown8 ⟨g, k, none⟩ (ln - k) (cap - k) beh (by first | rfl | (simp; done)) (unhide HBL) (unhide QC _ b8) (unhide HB1) mm5 mm6 hs8 ?_; intro v9 w9 hown9 hgrow9; have b9 : Below w.heap.size w w9 := (b8.trans (below_own hgrow9 hs8 (own_block hown8))); try dsimp only))
        all_goals
          have r9 := unhide HRW _ _ hown9
          have HR9 := hide (tx_low hB r9)
          clear hown9 hgrow9 r9
          try simp only [Exit.then]
          go_wp2
          go_ret
          exact ⟨_, rfl, by rw [unhide HPS]; exact unhide HR9, b9⟩
end Go.Proofs.Ytjjildpdelkejaa
/- What classes need, step by step, plainly. -/
namespace Go.Proofs.Ytjjildpdelkejaa
open Go.RowKit

/-- What classes must, may have, on top of what there is. -/
def mF (X : List Cl) (L : List ByteArray) : List ByteArray := X.foldl (fun L c => c.mus.foldl putS L) L
def yF (X : List Cl) (L : List ByteArray) : List ByteArray := X.foldl (fun L c => c.may.foldl putS L) L
theorem srt_flat (f : Cl → List ByteArray) : ∀ (X : List Cl) (L : List ByteArray), (X.flatMap f).foldl putS L = X.foldl (fun L c => (f c).foldl putS L) L
  | [], _ => rfl
  | c :: t, L => by rw [List.flatMap_cons, List.foldl_append, List.foldl_cons, srt_flat f t]
theorem musL_eq (cs : List Cl) (ns : List ByteArray) : musL cs ns = mF (allC cs ns) [] := srt_flat _ _ _
theorem malL_eq (cs : List Cl) (ns : List ByteArray) : malL cs ns = yF (allC cs ns) [] := srt_flat _ _ _
theorem allC_next {cs : List Cl} {ns : List ByteArray} {k : Nat} (h : k < ns.length) : allC cs (ns.take (k + 1)) = allC cs (ns.take k) ++ linC cs (ns.getD k te) := by
  unfold allC
  rw [List.take_succ_eq_append_getElem h, List.flatMap_append]
  simp [List.getD, h]
theorem mF_app (X Y : List Cl) (L : List ByteArray) : mF (X ++ Y) L = mF Y (mF X L) := List.foldl_append ..
theorem yF_app (X Y : List Cl) (L : List ByteArray) : yF (X ++ Y) L = yF Y (yF X L) := List.foldl_append ..
theorem mF_next {X : List Cl} {j : Nat} (h : j < X.length) (L : List ByteArray) : mF (X.take (j + 1)) L = (X.getD j cl0).mus.foldl putS (mF (X.take j) L) := by
  rw [List.take_succ_eq_append_getElem h, mF_app]
  simp [mF, List.getD, h]
theorem yF_next {X : List Cl} {j : Nat} (h : j < X.length) (L : List ByteArray) : yF (X.take (j + 1)) L = (X.getD j cl0).may.foldl putS (yF (X.take j) L) := by
  rw [List.take_succ_eq_append_getElem h, yF_app]
  simp [yF, List.getD, h]
theorem pF_next {M : List ByteArray} {m : Nat} (h : m < M.length) (L : List ByteArray) : (M.take (m + 1)).foldl putS L = putS ((M.take m).foldl putS L) (M.getD m te) := by
  rw [List.take_succ_eq_append_getElem h, List.foldl_append]
  simp [List.getD, h]
theorem pF_len : ∀ (M L : List ByteArray), (M.foldl putS L).length ≤ L.length + M.length
  | [], _ => by simp
  | x :: t, L => by
    have h1 := pF_len t (putS L x)
    have h2 := putS_len x L
    rw [List.foldl_cons, List.length_cons]
    omega
theorem mF_len {N : Nat} : ∀ (X : List Cl) (L : List ByteArray), (∀ c ∈ X, c.mus.length ≤ N) → (mF X L).length ≤ L.length + N * X.length
  | [], L, _ => by simp [mF]
  | c :: t, L, h => by
    have h1 := mF_len t (c.mus.foldl putS L) (fun d hd => h d (by simp [hd]))
    have h2 := pF_len c.mus L
    have h3 := h c (by simp)
    show (mF t (c.mus.foldl putS L)).length ≤ _
    rw [List.length_cons, Nat.mul_succ]
    omega
theorem yF_len {N : Nat} : ∀ (X : List Cl) (L : List ByteArray), (∀ c ∈ X, c.may.length ≤ N) → (yF X L).length ≤ L.length + N * X.length
  | [], L, _ => by simp [yF]
  | c :: t, L, h => by
    have h1 := yF_len t (c.may.foldl putS L) (fun d hd => h d (by simp [hd]))
    have h2 := pF_len c.may L
    have h3 := h c (by simp)
    show (yF t (c.may.foldl putS L)).length ≤ _
    rw [List.length_cons, Nat.mul_succ]
    omega
theorem lnC_len (cs : List Cl) : ∀ (k : Nat) (a : Cl), (lnC cs k a).length ≤ k + 1
  | 0, _ => by simp [lnC]
  | k + 1, a => by
    rw [lnC]
    cases fndC cs a.abv with
    | none => simp
    | some b =>
      have := lnC_len cs k b
      simp
      omega
theorem linC_len (cs : List Cl) (n : ByteArray) : (linC cs n).length ≤ cs.length + 2 := by
  unfold linC
  cases fndC cs n with
  | none => simp
  | some a => exact lnC_len cs _ a
theorem okC_mus {l : List Ty} {cs : List Cl} (h : okC l cs = true) {c : Cl} (hc : c ∈ cs) : c.mus.length ≤ 8 ∧ c.may.length ≤ 8 := by
  have := okC_one h hc
  unfold oneC namT at this
  simp only [Bool.and_eq_true] at this
  exact ⟨of_decide_eq_true this.1.1.2.2, of_decide_eq_true this.1.2.2⟩
theorem whoC_next {cs : List Cl} {ns : List ByteArray} {k : Nat} (h : k < ns.length) {c : Cl} (hf : fndC cs (ns.getD k te) = some c) : whoC cs (ns.take (k + 1)) = (whoC cs (ns.take k) || !c.bar) := by
  unfold whoC
  rw [List.take_succ_eq_append_getElem h, List.any_append]
  have e : ns.getD k te = ns[k] := by simp [List.getD, h]
  rw [e] at hf
  simp [hf]
theorem thrC_next {cs : List Cl} {ns : List ByteArray} {k : Nat} (h : k < ns.length) {c : Cl} (ht : thrC cs (ns.take k) = true) (hf : fndC cs (ns.getD k te) = some c) : thrC cs (ns.take (k + 1)) = true := by
  unfold thrC at ht ⊢
  rw [List.take_succ_eq_append_getElem h, List.all_append, ht]
  have e : ns.getD k te = ns[k] := by simp [List.getD, h]
  rw [e] at hf
  simp [hf]
theorem thrC_no {cs : List Cl} {ns : List ByteArray} {k : Nat} (h : k < ns.length) (hf : fndC cs (ns.getD k te) = none) : thrC cs ns = false := by
  unfold thrC
  rw [List.all_eq_false]
  have e : ns.getD k te = ns[k] := by simp [List.getD, h]
  rw [e] at hf
  exact ⟨ns[k], List.getElem_mem _, by rw [hf]; simp⟩
/-- The may of all, but what must be, up to a place. -/
def mayTo (A M : List ByteArray) (i : Nat) : List ByteArray := (A.take i).filter fun x => !hasL M x
theorem mayTo_next {A M : List ByteArray} {i : Nat} (h : i < A.length) : mayTo A M (i + 1) = if hasL M (A.getD i te) = true then mayTo A M i else mayTo A M i ++ [A.getD i te] := by
  unfold mayTo
  rw [List.take_succ_eq_append_getElem h, List.filter_append]
  have e : A.getD i te = A[i] := by simp [List.getD, h]
  rw [e]
  cases hq : hasL M A[i] <;> simp [hq]
theorem mayTo_all (cs : List Cl) (ns : List ByteArray) : mayTo (malL cs ns) (musL cs ns) (malL cs ns).length = mayL cs ns := by
  unfold mayTo mayL hasL
  rw [List.take_length]
theorem mayTo_len (A M : List ByteArray) (i : Nat) : (mayTo A M i).length ≤ i := by
  unfold mayTo
  exact Nat.le_trans (List.length_filter_le _ _) (by rw [List.length_take]; omega)
end Go.Proofs.Ytjjildpdelkejaa
