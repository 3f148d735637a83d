/- P21.5, plainly; turned and within of the laws. -/
import Derived.Test.YtjjildpdelkejaaM32
namespace Go.Proofs.Ytjjildpdelkejaa
open Go.RowKit

theorem ned_split {l : List Ty} {cs : List Cl} {ns : List ByteArray} (h : nedE l cs ns = 0) : chkC l cs = 0 ∧ thrC cs ns = true ∧ whoC cs ns = true := by
  unfold nedE at h
  split at h
  · rename_i hc
    split at h
    · rename_i hq
      rw [Bool.and_eq_true] at hq
      exact ⟨hc, hq⟩
    · cases h
  · rename_i hc
    exact absurd h hc
theorem thr_sub {cs : List Cl} {ns ms : List ByteArray} (h : thrC cs ns = true) (hs : ∀ x ∈ ms, x ∈ ns) : thrC cs ms = true := by
  unfold thrC at h ⊢
  rw [List.all_eq_true] at h ⊢
  exact fun x hx => h x (hs x hx)
theorem who_sub {cs : List Cl} {ns ms : List ByteArray} (h : whoC cs ns = true) (hs : ∀ x ∈ ns, x ∈ ms) : whoC cs ms = true := by
  unfold whoC at h ⊢
  rw [List.any_eq_true] at h ⊢
  obtain ⟨x, hx, q⟩ := h
  exact ⟨x, hs x hx, q⟩
theorem ned_set {l : List Ty} {cs : List Cl} {ns ms : List ByteArray} (h : nedE l cs ns = 0) (hs : ∀ x, x ∈ ns ↔ x ∈ ms) : nedE l cs ms = 0 ∧ nedM l cs ms = nedM l cs ns ∧ nedY l cs ms = nedY l cs ns := by
  obtain ⟨h1, h2, h3⟩ := ned_split h
  obtain ⟨_, a2, a3⟩ := ned_yes h1 (ns := ns) (by rw [h2, h3]; rfl)
  obtain ⟨b1, b2, b3⟩ := ned_yes h1 (ns := ms) (by rw [thr_sub h2 (fun x hx => (hs x).2 hx), who_sub h3 (fun x hx => (hs x).1 hx)]; rfl)
  have e := mus_ext (cs := cs) (ns := ms) (ms := ns) (fun c => by
    rw [mem_allC, mem_allC]
    exact ⟨fun ⟨n, hn, q⟩ => ⟨n, (hs n).2 hn, q⟩, fun ⟨n, hn, q⟩ => ⟨n, (hs n).1 hn, q⟩⟩)
  exact ⟨b1, by rw [b2, a2, e.1], by rw [b3, a3, e.2]⟩
theorem ned_two {l : List Ty} {cs : List Cl} {ns : List ByteArray} (h : nedE l cs ns = 0) (ms : List ByteArray) : nedE l cs ms = 0 ∨ nedE l cs ms = 200 := by
  obtain ⟨h1, _, _⟩ := ned_split h
  unfold nedE
  rw [if_pos h1]
  split
  · exact .inl rfl
  · exact .inr rfl
/-- More classes need no less. -/
theorem ned_more {l : List Ty} {cs : List Cl} {ns ms : List ByteArray} (h : nedE l cs ns = 0) (k : nedE l cs ms = 0) (hs : ∀ x ∈ ns, x ∈ ms) : (nedM l cs ns).all (hasL (nedM l cs ms)) = true ∧ (nedY l cs ns).all (hasL (nedM l cs ms ++ nedY l cs ms)) = true := by
  obtain ⟨h1, h2, h3⟩ := ned_split h
  obtain ⟨_, k2, k3⟩ := ned_split k
  obtain ⟨_, a2, a3⟩ := ned_yes h1 (ns := ns) (by rw [h2, h3]; rfl)
  obtain ⟨_, b2, b3⟩ := ned_yes h1 (ns := ms) (by rw [k2, k3]; rfl)
  have hA : ∀ c, c ∈ allC cs ns → c ∈ allC cs ms := fun c hc => by
    rw [mem_allC] at hc ⊢
    obtain ⟨n, hn, q⟩ := hc
    exact ⟨n, hs n hn, q⟩
  have hin : ∀ (L : List ByteArray) (x : ByteArray), x ∈ L → hasL L x = true := fun L x hx => by
    unfold hasL
    rw [List.any_eq_true]
    exact ⟨x, hx, by simp⟩
  rw [a2, a3, b2, b3]
  refine ⟨?_, ?_⟩
  · rw [List.all_eq_true]
    intro x hx
    obtain ⟨c, hc, q⟩ := mem_musL.1 hx
    exact hin _ _ (mem_musL.2 ⟨c, hA c hc, q⟩)
  · rw [List.all_eq_true]
    intro x hx
    obtain ⟨hx, _⟩ := mem_mayL.1 hx
    obtain ⟨c, hc, q⟩ := mem_malL.1 hx
    have hm : x ∈ malL cs ms := mem_malL.2 ⟨c, hA c hc, q⟩
    refine hin _ _ ?_
    rw [List.mem_append]
    by_cases e : x ∈ musL cs ms
    · exact .inl e
    · exact .inr (mem_mayL.2 ⟨hm, e⟩)
/-- A class of the line of another one adds nothing to it. -/
theorem ned_line {l : List Ty} {cs : List Cl} {ns : List ByteArray} {m n : ByteArray} (h : nedE l cs ns = 0) (k : nedE l cs (m :: ns) = 0) (hn : n ∈ ns) (hm : hasL (lineC l cs n) m = true) : nedM l cs (m :: ns) = nedM l cs ns ∧ nedY l cs (m :: ns) = nedY l cs ns := by
  obtain ⟨h1, h2, h3⟩ := ned_split h
  obtain ⟨_, k2, k3⟩ := ned_split k
  obtain ⟨_, a2, a3⟩ := ned_yes h1 (ns := ns) (by rw [h2, h3]; rfl)
  obtain ⟨_, b2, b3⟩ := ned_yes h1 (ns := m :: ns) (by rw [k2, k3]; rfl)
  have hk := (chkC_ok h1).2
  have hsub : ∀ c, c ∈ linC cs m → c ∈ linC cs n := fun c hc => by
    unfold hasL lineC at hm
    rw [if_pos h1, List.any_eq_true] at hm
    obtain ⟨x, hx, e⟩ := hm
    have e : x = m := of_decide_eq_true e
    subst e
    obtain ⟨d, hd, rfl⟩ := List.mem_map.1 hx
    exact linC_all hk hd c hc
  have e := mus_ext (cs := cs) (ns := m :: ns) (ms := ns) (fun c => by
    rw [mem_allC, mem_allC]
    constructor
    · rintro ⟨x, hx, q⟩
      rcases List.mem_cons.1 hx with rfl | hx
      · exact ⟨n, hn, hsub c q⟩
      · exact ⟨x, hx, q⟩
    · rintro ⟨x, hx, q⟩
      exact ⟨x, List.mem_cons_of_mem _ hx, q⟩)
  exact ⟨by rw [b2, a2, e.1], by rw [b3, a3, e.2]⟩
theorem ned_some {l : List Ty} {cs : List Cl} {ns : List ByteArray} (h : nedE l cs ns = 0) : 0 < ns.length := by
  obtain ⟨_, _, h3⟩ := ned_split h
  cases ns with
  | nil => cases h3
  | cons _ _ => simp
theorem allC_len {cs : List Cl} (h : cs.length ≤ 12) : ∀ ns : List ByteArray, (allC cs ns).length ≤ 14 * ns.length
  | [] => by simp [allC]
  | n :: t => by
    have h1 := linC_len cs n
    have h2 := allC_len h t
    unfold allC at h2 ⊢
    rw [List.flatMap_cons, List.length_append, List.length_cons]
    omega
theorem ned_lens {l : List Ty} {cs : List Cl} {ns : List ByteArray} (hn : ns.length ≤ 100) : (nedM l cs ns).length ≤ 11200 ∧ (nedY l cs ns).length ≤ 11200 := by
  by_cases h : nedE l cs ns = 0
  · obtain ⟨h1, h2, h3⟩ := ned_split h
    obtain ⟨_, a2, a3⟩ := ned_yes h1 (ns := ns) (by rw [h2, h3]; rfl)
    have hk := (chkC_ok h1).2
    have h12 := okC_12 hk
    have hall : ∀ c ∈ allC cs ns, c ∈ cs := fun c hc => by
      obtain ⟨n, _, q⟩ := mem_allC.1 hc
      exact linC_in c q
    have hlen := allC_len h12 ns
    have m1 := mF_len (N := 8) (allC cs ns) [] (fun c hc => (okC_mus hk (hall c hc)).1)
    have y1 := yF_len (N := 8) (allC cs ns) [] (fun c hc => (okC_mus hk (hall c hc)).2)
    rw [a2, a3, musL_eq]
    have y2 : (mayL cs ns).length ≤ (malL cs ns).length := List.length_filter_le _ _
    rw [malL_eq] at y2
    simp at m1 y1
    omega
  · have e1 : nedM l cs ns = [] := by unfold nedM; rw [if_neg h]
    have e2 : nedY l cs ns = [] := by unfold nedY; rw [if_neg h]
    rw [e1, e2]
    simp
set_option maxHeartbeats 1600000 in
theorem within_any (u v : Value) (A B : List ByteArray) (w : World) (hA : TsV w u A) (hB : TsV w v B) : Calls Try.prog 20 #[u, v] w fun e w' => e = .returned (.bool (A.all (hasL B))) ∧ w = w' := by
  have CH := hide (fun x => rhas_any v B x w hB)
  obtain ⟨a, cap, rfl, hn, hc⟩ := hA
  have HC := hide hc
  obtain ⟨bv, cv, rfl, _⟩ := hB
  have HNO : Hid (∀ k, k < A.length → hasL B (A.getD k te) = false → A.all (hasL B) = false) := fun k hk h => all_bad (d := te) hk h
  have HYE : Hid ((∀ k, k < A.length → hasL B (A.getD k te) = true) → A.all (hasL B) = true) := fun h => all_good (d := te) h
  clear hc
  generalize A.all (hasL B) = R at *
  go_enter Try.func20, Try.ntmps20
  go_wp2
  go_loop [5] (fun i => ∃ k : Nat, k ≤ A.length ∧ i = .int .i64 (k : Int) ∧ Hid (∀ j, j < k → hasL B (A.getD j te) = true)) (fun i => A.length - (intOf i).toNat)
  case atStart => exact ⟨0, Nat.zero_le _, rfl, fun j hj => absurd hj (Nat.not_lt_zero _)⟩
  case round =>
    obtain ⟨k, hk, rfl, HK⟩ := hrel
    by_cases hlt : k < A.length
    · have hzl : (k : Int) < (A.length : Int) := by omega
      have hz0 : (0 : Int) ≤ (k : Int) := by omega
      obtain ⟨b, off, rfl, hcc⟩ := unhide HC (by omega)
      have q0 := hcc k hlt
      have HN := hide (unhide HNO k hlt)
      have HG : Hid (hasL B (A.getD k te) = true → ∀ j, j < k + 1 → hasL B (A.getD j te) = true) := fun h => next_of (p := fun j => hasL B (A.getD j te) = true) (unhide HK) h
      have C1 := hide (unhide CH (A.getD k te))
      clear hcc HC HK HNO HYE CH
      generalize hasL B (A.getD k te) = z at *
      generalize A.getD k te = x at *
      cases z
      · have HE : Hid (false = R) := (unhide HN rfl).symm
        go_wp2_with (go_at_call 21; refine (unhide C1).mono ?_; rintro e w2 ⟨rfl, rfl⟩)
        go_ret
        exact ⟨ret_bool (unhide HE), rfl⟩
      · have HK2 := hide (unhide HG rfl)
        go_wp2_with (go_at_call 21; refine (unhide C1).mono ?_; rintro e w2 ⟨rfl, rfl⟩)
        go_round
        case rel => exact ⟨k + 1, by omega, by go_num, unhide HK2⟩
        case measure => simp [intOf]; omega
    · have hzl : ¬ (k : Int) < (A.length : Int) := by omega
      obtain rfl : k = A.length := by omega
      have HE : Hid (true = R) := (unhide HYE (unhide HK)).symm
      clear HK HC
      go_wp2
      go_ret
      exact ⟨ret_bool (unhide HE), rfl⟩
theorem rev_next {L : List ByteArray} {k : Nat} (h : k < L.length) : (L.drop k).reverse = (L.drop (k + 1)).reverse ++ [L.getD k te] := by
  rw [List.drop_eq_getElem_cons h, List.reverse_cons]
  simp [List.getD, h]
set_option maxHeartbeats 3200000 in
theorem turned_any (v : Value) (L : List ByteArray) (w : World) (hV : TsV w v L) (hl : L.length ≤ 100) : Calls Try.prog 19 #[v] w fun e w' => ∃ u, e = .returned u ∧ Tx w.heap.size u L.reverse w' ∧ Below w.heap.size w w' := by
  obtain ⟨i0, hi, iz0, iz1, iz2⟩ := info_parts str_info
  obtain ⟨a, cap, rfl, hn, hc⟩ := hV
  have HC := hide hc
  clear hc
  go_enter Try.func19, Try.ntmps19
  go_wp2
  go_loopw [3, 4] (fun vo vi wr => ∃ k : Nat, k ≤ L.length ∧ vi = .int .i64 ((k : Int) - 1) ∧ Hid (Tx w.heap.size vo (L.drop k).reverse wr) ∧ Below w.heap.size w wr) (fun _ i _ => (intOf i + 1).toNat)
  case atStart => exact ⟨L.length, Nat.le_refl _, rfl, by show Tx _ _ _ _; rw [List.drop_length]; exact Tx.nil _ _, Below.refl _ _⟩
  case round =>
    obtain ⟨k, hk, rfl, HT, hb⟩ := hrel
    have hsz := hb.size
    cases k with
    | zero =>
      have z : ¬ (0 : Int) ≤ ((0 : Nat) : Int) - 1 := by omega
      rw [List.drop_zero] at HT
      go_wp2
      go_ret
      exact ⟨_, rfl, unhide HT, hb⟩
    | succ m =>
      have e0 : ((m + 1 : Nat) : Int) - 1 = (m : Int) := by omega
      have hzl : (m : Int) < (L.length : Int) := by omega
      have hz0 : (0 : Int) ≤ (m : Int) := by omega
      rw [e0]
      obtain ⟨b, off, rfl, hcc⟩ := unhide HC (by omega)
      have q0 := (hb.cell (cell_lt (hcc m (by omega)))).trans (hcc m (by omega))
      have HRN := hide (rev_next (L := L) (k := m) (by omega))
      have hxl : (L.drop (m + 1)).reverse.length ≤ 100 := by rw [List.length_reverse, List.length_drop]; omega
      clear hcc
      generalize (L.drop (m + 1)).reverse = X at *
      generalize L.getD m te = x at *
      obtain ⟨N, hN⟩ : ∃ N, N = X.length := ⟨_, rfl⟩
      have HN := hide hN
      rw [← hN] at hxl
      have hm1 : N + 1 ≤ maxLen := by unfold maxLen; omega
      have hm2 : (N + 1) * 16 ≤ 140737488355328 := by omega
      clear hN
      go_wp2_with (at_builtin; refine wpList_append_lies _ rfl _ _ 32 rfl w.heap.size 9 i0 _ 1 16 Try.underlying32 hi iz0 iz1 iz2 rfl (by omega) _ N _ rfl (World.ownsRow.alloc (Tx.own (unhide HN) (unhide HT)) _) ⟨wr.heap.size, 0, none⟩ 1 1 [.string _] rfl rfl (World.news_of_block (cs := #[.string _]) (t := 9) (fr := (0, 0)) (heap_new wr _)) (by simp [Value.oneCell']) (by omega) hm1 hm2 (by simp; omega) (wr.heap.size + 1) (by simp) ?_; intro g9 cap9 w9 hown9 hgrow9 hat9 hlt9; have hb9 := hb.trans (below_own (grown_one hgrow9) hsz (own_block (Tx.own (unhide HN) (unhide HT)))); have HT9 := hide (Tx.push (unhide HN) hown9); clear hown9 hgrow9 hat9 hlt9)
      go_roundw
      case rel => exact ⟨m, by omega, by go_num, by rw [unhide HRN]; exact unhide HT9, hb9⟩
      case measure => simp [intOf]
/-- Texts that lie somewhere, none maybe, on a row of the call's own. -/
theorem wp_append_ts {P : Program} (w : World) {o : Oper} {a : Act} {K : Act → World → Prop} {Q : Exit → Act → World → Prop} (s x : Operand) (t : TypeId)
    (ho : o.op = .call { callee := .builtin .append, args := #[s, x], argTypes := #[t, t] })
    (base : Nat) (e : TypeId) (i : TypeInfo) (z : Value) (bytes : Nat) (ht : P.underlying t = some (.slice e)) (hi : P.info? e = some i) (hz : i.zero = some z)
    (hsize : i.size = 1) (hby : i.bytes = bytes) (hzs : z.cells.size = 1)
    (v : Value) (n : Nat) (xs : List Value) (hs : a.eval s = v) (hown : w.ownsRow base e 1 v n xs)
    (vx : Value) (L : List ByteArray) (hx : a.eval x = vx) (hL : TsV w vx L)
    (h63 : n + L.length ≤ maxLen) (hbytes : (n + L.length) * bytes ≤ 140737488355328) (hbase : base ≤ w.heap.size)
    (h : ∀ v' w', w'.ownsRow base e 1 v' (n + L.length) (xs ++ L.map Value.string) → Below base w w' → K (a.put o.dst v') w') : o.wp P a w K Q := by
  obtain ⟨ad, c, rfl, _, hc⟩ := hL
  cases ad with
  | none =>
    have h0 : L.length = 0 := by
      rcases Nat.eq_zero_or_pos L.length with h0 | h0
      · exact h0
      · obtain ⟨b, off, e, _⟩ := hc h0
        cases e
    obtain rfl : L = [] := List.eq_nil_of_length_eq_zero h0
    have hr : (Builtin.append_ #[t, t] o.type #[v, .slice none 0 c]).run P w = .ok v w := by
      rcases hown.2 with ⟨rfl, rfl⟩ | ⟨g, cap, cur, rfl, _, _, hnc, _⟩
      · simp [Builtin.append_, run_underlying ht, sizeOf, typeInfo, hi, Builtin.lenOf, Builtin.firstCells]
      · simp [Builtin.append_, run_underlying ht, sizeOf, typeInfo, hi, Builtin.lenOf, Builtin.firstCells, hnc, storeCells]
    unfold Oper.wp execOp
    simp only [ho, resolve, invoke, builtin, Sem.run_bind, Sem.run_pure, Result.andThen_ok, List.map_toArray, List.map_cons, List.map_nil, hs, hx, List.length_nil, hr]
    exact h v w (by simpa using hown) (Below.refl _ _)
  | some ad =>
    refine wp_append_at w s x t ho base e i z 1 bytes ht hi hz hsize hby hzs (by omega) v n xs hs hown ad L.length c (L.map Value.string) hx (by simp) (fun j u hu => ?_) (texts_one L) h63 hbytes hbase fun v' w' h1 h2 => h v' w' h1 (below_own h2 hbase (own_block hown))
    have hj : j < L.length := by
      have := (List.getElem?_eq_some_iff.1 hu).1
      simpa using this
    obtain ⟨b, off, e, hcc⟩ := hc (by omega)
    cases e
    exact news_of_cellsT hcc j u hu
/-- The same at a step of a region that draws; in a plain region, with a guard that says yes. -/
theorem step_append_ts {P : Program} (w : World) {ops : Array Oper} {o : Oper} {a : Act} {K : Act → World → Prop} {Q : Exit → Act → World → Prop} {E : Prop} (hgd : o.guard = none) (s x : Operand) (t : TypeId)
    (ho : o.op = .call { callee := .builtin .append, args := #[s, x], argTypes := #[t, t] })
    (base : Nat) (e : TypeId) (i : TypeInfo) (z : Value) (bytes : Nat) (ht : P.underlying t = some (.slice e)) (hi : P.info? e = some i) (hz : i.zero = some z)
    (hsize : i.size = 1) (hby : i.bytes = bytes) (hzs : z.cells.size = 1)
    (v : Value) (n : Nat) (xs : List Value) (hs : a.eval s = v) (hown : w.ownsRow base e 1 v n xs)
    (vx : Value) (L : List ByteArray) (hx : a.eval x = vx) (hL : TsV w vx L)
    (h63 : n + L.length ≤ maxLen) (hbytes : (n + L.length) * bytes ≤ 140737488355328) (hbase : base ≤ w.heap.size)
    (h : ∀ v' w', w'.ownsRow base e 1 v' (n + L.length) (xs ++ L.map Value.string) → Below base w w' → K (a.put o.dst v') w') :
    if Region.wanted o (yielded ops a.tmps) = true then Oper.wp P o a w K Q else E := by
  have hw : Region.wanted o (yielded ops a.tmps) = true := by simp [Region.wanted, hgd]
  rw [if_pos hw]
  exact wp_append_ts w s x t ho base e i z bytes ht hi hz hsize hby hzs v n xs hs hown vx L hx hL h63 hbytes hbase h
theorem wpList_append_ts {P : Program} (w : World) {ops : Array Oper} {rest : List Oper} {o : Oper} {a : Act} {Q : Exit → Act → World → Prop} (hgd : Region.wanted o (yielded ops a.tmps) = true) (s x : Operand) (t : TypeId)
    (ho : o.op = .call { callee := .builtin .append, args := #[s, x], argTypes := #[t, t] })
    (base : Nat) (e : TypeId) (i : TypeInfo) (z : Value) (bytes : Nat) (ht : P.underlying t = some (.slice e)) (hi : P.info? e = some i) (hz : i.zero = some z)
    (hsize : i.size = 1) (hby : i.bytes = bytes) (hzs : z.cells.size = 1)
    (v : Value) (n : Nat) (xs : List Value) (hs : a.eval s = v) (hown : w.ownsRow base e 1 v n xs)
    (vx : Value) (L : List ByteArray) (hx : a.eval x = vx) (hL : TsV w vx L)
    (h63 : n + L.length ≤ maxLen) (hbytes : (n + L.length) * bytes ≤ 140737488355328) (hbase : base ≤ w.heap.size)
    (h : ∀ v' w', w'.ownsRow base e 1 v' (n + L.length) (xs ++ L.map Value.string) → Below base w w' → wpList P ops Q rest (a.put o.dst v') w') : wpList P ops Q (o :: rest) a w :=
  BigFrame.wpList_want hgd fun _ hK => wp_append_ts w s x t ho base e i z bytes ht hi hz hsize hby hzs v n xs hs hown vx L hx hL h63 hbytes hbase fun v' w' h1 h2 => hK _ _ (h v' w' h1 h2)
theorem own_ts {w : World} {B n : Nat} {v : Value} {L : List ByteArray} {xs : List Value} (h : w.ownsRow B 9 1 v n xs) (hn : n = L.length) (hx : xs = L.map Value.string) (hl : L.length ≤ 9223372036854775807) : TsV w v L := by
  subst hn hx
  exact Tx.ts h hl
end Go.Proofs.Ytjjildpdelkejaa
