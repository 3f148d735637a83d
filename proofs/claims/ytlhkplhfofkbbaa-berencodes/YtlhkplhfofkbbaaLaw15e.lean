/- Stage 15: BerParts, over the contracts. -/
import Derived.Test.YtlhkplhfofkbbaaLaw15d
import Derived.Maps.AppendAt
import Derived.Laws.OwnMore
import Derived.BigFrame
namespace Go.Proofs.Ytlhkplhfofkbbaa
open Go.RowKit

/-- append of any row, or none, to an own row: the new value a letter. -/
theorem run_append_els {P : Program} (w : World) (base : Nat) (t ty e : TypeId) (i : TypeInfo) (z : Value) (size bytes : Nat) (ht : P.underlying t = some (.slice e)) (hi : P.info? e = some i) (hz : i.zero = some z)
    (hsize : i.size = size) (hby : i.bytes = bytes) (hzs : z.cells.size = size) (hsz : 0 < size)
    (v : Value) (n : Nat) (xs : List Value) (hown : w.ownsRow base e size v n xs)
    (ad : Option Addr) (m c : Nat) (news : List Value) (hl : news.length = m * size) (hnews : m = 0 ∨ ∃ a, ad = some a ∧ ∀ j u, news[j]? = some u → w.cell? (a.add j) = some u) (h1 : ∀ u ∈ news, u.oneCell' = true)
    (h63 : n + m ≤ maxLen) (hbytes : (n + m) * bytes ≤ 140737488355328) (hbase : base ≤ w.heap.size) :
    ∃ v' w', (Builtin.append_ #[t, t] ty #[v, .slice ad m c]).run P w = .ok v' w' ∧ w'.ownsRow base e size v' (n + m) (xs ++ news) ∧ w.grownBy w' v.ownBlock ∧ (v'.ownBlock = v.ownBlock ∨ v'.ownBlock = some w.heap.size) := by
  by_cases hm : m = 0
  · subst hm
    have hn : news = [] := List.eq_nil_of_length_eq_zero (by omega)
    subst hn
    refine ⟨v, w, ?_, by simpa using hown, World.grownBy.refl _ _, .inl rfl⟩
    rcases hown.2 with ⟨rfl, rfl⟩ | ⟨g, cap, cur, rfl, _, _, hnc, _⟩
    · cases ad <;> simp [Builtin.append_, run_underlying ht, sizeOf, typeInfo, hi, Builtin.lenOf, Builtin.firstCells, loadCells, loadCellsFrom]
    · cases ad <;> simp [Builtin.append_, run_underlying ht, sizeOf, typeInfo, hi, Builtin.lenOf, Builtin.firstCells, hnc, storeCells, loadCells, loadCellsFrom]
  · obtain ⟨a, rfl, hc⟩ := hnews.resolve_left hm
    obtain ⟨v', w', hr, ho, hg, _, hb⟩ := run_append_own_at (P := P) w base t ty e i z size bytes ht hi hz hsize hby hzs hsz v n xs hown a m c news hl hc h1 h63 hbytes hbase
    exact ⟨v', w', hr, ho, hg, hb⟩
theorem wpList_append_els {P : Program} (w : World) {ops : Array Oper} {rest : List Oper} {o : Oper} {a : Act} {Q : Exit → Act → World → Prop} (hgd : Region.wanted o (yielded ops a.tmps) = true) (s x : Operand) (t : TypeId)
    (ho : o.op = .call { callee := .builtin .append, args := #[s, x], argTypes := #[t, t] })
    (base : Nat) (e : TypeId) (i : TypeInfo) (z : Value) (size bytes : Nat) (ht : P.underlying t = some (.slice e)) (hi : P.info? e = some i) (hz : i.zero = some z)
    (hsize : i.size = size) (hby : i.bytes = bytes) (hzs : z.cells.size = size) (hsz : 0 < size)
    (v : Value) (n : Nat) (xs : List Value) (hs : a.eval s = v) (hown : w.ownsRow base e size v n xs)
    (ad : Option Addr) (m c : Nat) (news : List Value) (hx : a.eval x = .slice ad m c) (hl : news.length = m * size) (hnews : m = 0 ∨ ∃ a, ad = some a ∧ ∀ j u, news[j]? = some u → w.cell? (a.add j) = some u) (h1 : ∀ u ∈ news, u.oneCell' = true)
    (h63 : n + m ≤ maxLen) (hbytes : (n + m) * bytes ≤ 140737488355328) (hbase : base ≤ w.heap.size)
    (h : ∀ v' w', w'.ownsRow base e size v' (n + m) (xs ++ news) → w.grownBy w' v.ownBlock → (v'.ownBlock = v.ownBlock ∨ v'.ownBlock = some w.heap.size) → wpList P ops Q rest (a.put o.dst v') w') : wpList P ops Q (o :: rest) a w := by
  refine BigFrame.wpList_want hgd fun K hK => ?_
  obtain ⟨v', w', hr, h2, h3, h4⟩ := run_append_els (P := P) w base t o.type e i z size bytes ht hi hz hsize hby hzs hsz v n xs hown ad m c news hl hnews h1 h63 hbytes hbase
  unfold Oper.wp execOp
  simp only [ho, resolve, invoke, builtin, Sem.run_bind, Sem.run_pure, Result.andThen_ok, List.map_toArray, List.map_cons, List.map_nil, hs, hx, hr]
  exact hK _ _ (h v' w' h2 h3 h4)
/-- The cells of a row. -/
theorem flat_of {P : Nat → Prop} {w : World} {g : Nat} : ∀ (l : List El) (off : Nat), ElP.L P w l g off → ∃ cs : List Value, cs.length = l.length * 5 ∧ Flat P w l cs ∧ (∀ j u, cs[j]? = some u → w.cell? ⟨g, off + j, none⟩ = some u) ∧ ∀ u ∈ cs, u.oneCell' = true
  | [], _, _ => ⟨[], rfl, rfl, by simp, by simp⟩
  | e :: t, off, h => by
    simp only [ElP.L] at h
    obtain ⟨⟨a0, a1, a2, a3, a4, h0, h1, h2, h3, h4, hv⟩, ht⟩ := h
    obtain ⟨cs, hl, hf, hc, ho⟩ := flat_of t (off + 5) ht
    obtain ⟨ad, cap, hs⟩ := hv.shape
    cases hs
    refine ⟨_ :: _ :: _ :: _ :: _ :: cs, by simp [hl]; omega, ⟨_, _, _, _, _, cs, rfl, hv, hf⟩, ?_, ?_⟩
    · intro j u hu
      match j, hu with
      | 0, hu => cases hu; exact h0
      | 1, hu => cases hu; exact h1
      | 2, hu => cases hu; exact h2
      | 3, hu => cases hu; exact h3
      | 4, hu => cases hu; exact h4
      | j + 5, hu =>
        have := hc j u (by simpa using hu)
        rwa [show off + 5 + j = off + (j + 5) by omega] at this
    · intro u hu
      simp only [List.mem_cons] at hu
      rcases hu with rfl | rfl | rfl | rfl | rfl | hu
      · rfl
      · rfl
      · rfl
      · rfl
      · rfl
      · exact ho u hu
theorem add_off (g off j : Nat) : (⟨g, off, none⟩ : Addr).add j = ⟨g, off + j, none⟩ := by simp [Addr.add]
theorem es_flat {P : Nat → Prop} {w : World} {ad : Option Addr} {cap : Nat} {l : List El} (h : EsP P w (.slice ad l.length cap) l) : ∃ cs : List Value, cs.length = l.length * 5 ∧ Flat P w l cs ∧ (l.length = 0 ∨ ∃ a : Addr, ad = some a ∧ P a.block ∧ ∀ j u, cs[j]? = some u → w.cell? (a.add j) = some u) ∧ ∀ u ∈ cs, u.oneCell' = true := by
  obtain ⟨ad', cap', hv, _, hc⟩ := h
  cases hv
  rcases hc with h0 | ⟨g, off, rfl, hg, hl⟩
  · have : l = [] := List.eq_nil_of_length_eq_zero h0
    subst this
    exact ⟨[], rfl, rfl, .inl rfl, by simp⟩
  · obtain ⟨cs, h1, h2, h3, h4⟩ := flat_of l off hl
    exact ⟨cs, h1, h2, .inr ⟨⟨g, off, none⟩, rfl, hg, fun j u hu => by rw [add_off]; exact h3 j u hu⟩, h4⟩
theorem Flat.append {P : Nat → Prop} {w : World} : ∀ (l m : List El) (cs ds : List Value), Flat P w l cs → Flat P w m ds → Flat P w (l ++ m) (cs ++ ds)
  | [], m, cs, ds, h, h2 => by
    have : cs = [] := h
    subst this
    exact h2
  | e :: t, m, cs, ds, h, h2 => by
    obtain ⟨a0, a1, a2, a3, a4, r, rfl, hv, ht⟩ := h
    exact ⟨a0, a1, a2, a3, a4, r ++ ds, rfl, hv, Flat.append t m r ds ht h2⟩
theorem els_own {P : Nat → Prop} {B : Nat} {w : World} {v : Value} {l : List El} {cs : List Value} {n : Nat} (hn : n = l.length) (hl : l.length ≤ 9223372036854775807) (ho : w.ownsRow B 26 5 v n cs) (hf : Flat P w l cs) : ElsV w v l := by
  subst hn
  have hf2 : Flat (fun _ => True) w l cs := Flat.kept (fun _ _ => trivial) (fun _ _ _ _ hc => hc) l cs hf
  rcases ho.2 with ⟨hv, h0⟩ | ⟨g, cap, cur, hv, hB, hg, _⟩
  · exact ⟨none, 0, by rw [hv, h0], hl, .inl h0⟩
  · refine ⟨some ⟨g, 0, none⟩, cap, hv, hl, .inr ⟨g, 0, rfl, ElP.L.toV (P := fun _ => True) l g 0 ?_⟩⟩
    refine Flat.at l cs 0 hf2 fun j u hu => ?_
    have := World.ownsRow.cells ho (g := g) (by rw [hv]; rfl) j u hu
    rw [add_zero3] at this
    rwa [Nat.zero_add]
theorem allT_small {s : ByteArray} (h : s.size ≤ 4000) : allT (nums s) = allB 11 (nums s) := by
  unfold allT; rw [if_neg (by rw [nums_length]; omega)]
theorem all_lay {k : Nat} {s : List Int} {l : List El} (hb : Byt s) (h : allB k s = (l, 0)) : s = layE.L l ∧ ∀ e, e ∈ l → Good k e := by
  obtain ⟨h1, h2⟩ := allG_back (k := k) (tk := takeB k) (take_back k) s.length s l hb (Nat.le_refl _) h
  exact ⟨h1.symm, h2⟩
theorem layL_ge : ∀ l : List El, l.length ≤ (layE.L l).length
  | [] => by simp [layE.L]
  | e :: t => by
    have h1 := layL_ge t
    have h2 := List.length_pos_iff.2 (lay_ne e)
    simp only [layE.L, List.length_append, List.length_cons]
    omega
theorem allB_nil1 (k : Nat) (s : List Int) (h : (allB k s).2 ≠ 0) : (allB k s).1 = [] := allG_nil _ _ h
theorem add_block (a : Addr) (j : Nat) : (a.add j).block = a.block := by unfold Addr.add; split <;> rfl
/-- A row of elements whose blocks lie below Q, as a source of append. -/
structure Src (Q : Nat) (w : World) (ad : Option Addr) (n : Nat) (l : List El) (cs : List Value) : Prop where
  len : cs.length = n * 5
  flat : Flat (fun g => g < Q) w l cs
  cells : n = 0 ∨ ∃ a : Addr, ad = some a ∧ a.block < Q ∧ ∀ j u, cs[j]? = some u → w.cell? (a.add j) = some u
  one : ∀ u ∈ cs, u.oneCell' = true
theorem Src.below {Q : Nat} {w w2 : World} {ad : Option Addr} {n : Nat} {l : List El} {cs : List Value} (h : Src Q w ad n l cs) (hb : Below Q w w2) : Src Q w2 ad n l cs := by
  refine ⟨h.len, Flat.kept (fun _ hg => hg) (fun g off v hg hc => (hb.cell (p := ⟨g, off, none⟩) hg).trans hc) l cs h.flat, ?_, h.one⟩
  rcases h.cells with h0 | ⟨a, h1, h2, h3⟩
  · exact .inl h0
  · exact .inr ⟨a, h1, h2, fun j u hu => (hb.cell (by rw [add_block]; exact h2)).trans (h3 j u hu)⟩
theorem Src.news {Q : Nat} {w : World} {ad : Option Addr} {n : Nat} {l : List El} {cs : List Value} (h : Src Q w ad n l cs) : n = 0 ∨ ∃ a : Addr, ad = some a ∧ ∀ j u, cs[j]? = some u → w.cell? (a.add j) = some u := by
  rcases h.cells with h0 | ⟨a, h1, _, h3⟩
  · exact .inl h0
  · exact .inr ⟨a, h1, h3⟩
theorem src_of {B : Nat} {w w2 : World} {ad : Option Addr} {n cap : Nat} {l : List El} (hn : n = l.length) (h : EsP (In B w) w (.slice ad n cap) l) (hb : Below w.heap.size w w2) : ∃ cs, Src w2.heap.size w2 ad n l cs := by
  subst hn
  have := hb.size
  obtain ⟨cs, h1, h2, h3, h4⟩ := es_flat (h.below hb (Q := fun g => g < w2.heap.size) (fun g hg => Nat.lt_of_lt_of_le hg.2 this))
  exact ⟨cs, h1, h2, h3, h4⟩
theorem own_empty15 (w : World) : (w.alloc (.cells #[] 26)).ownsRow w.heap.size 26 5 (.slice (some ⟨w.heap.size, 0, none⟩) 0 0) 0 [] :=
  ⟨rfl, .inr ⟨w.heap.size, 0, #[], rfl, Nat.le_refl _, heap_new w _, Nat.le_refl _, Nat.zero_le _, rfl, rfl⟩⟩
set_option maxHeartbeats 3200000 in
theorem parts15_law (s t : ByteArray) (w : World) (hL : Ly w) : Calls Try.prog 8 #[.string s, .string t] w fun e w' => e = .returned (.bool true) ∧ Below w.heap.size w w' := by
  have HA := hide awake15
  have HL := hide hL
  by_cases h1 : 2000 < s.size
  · have z1 : (2000 : Int) < (s.size : Int) := by omega
    go_enter Try.func8, Try.ntmps8
    go_wp2_with (go_at_call 9; refine (unhide HA _ (unhide HL)).mono ?_; rintro r w1 ⟨rfl, b1⟩)
    go_ret
    exact ⟨rfl, b1⟩
  have z1 : ¬ (2000 : Int) < (s.size : Int) := by omega
  by_cases h2 : 2000 < t.size
  · have z2 : (2000 : Int) < (t.size : Int) := by omega
    go_enter Try.func8, Try.ntmps8
    go_wp2_with (go_at_call 9; refine (unhide HA _ (unhide HL)).mono ?_; rintro r w1 ⟨rfl, b1⟩)
    go_ret
    exact ⟨rfl, b1⟩
  have z2 : ¬ (2000 : Int) < (t.size : Int) := by omega
  have hst : (s ++ t).size ≤ 4000 := by rw [ByteArray.size_append]; omega
  have H1 := hide (ball_any s w hL (by omega))
  have H2 := hide (fun w2 (h : Ly w2) => ball_any t w2 h (by omega))
  have H3 := hide (fun w2 (h : Ly w2) => ball_any (s ++ t) w2 h (by omega))
  rw [allT_small (s := s) (by omega)] at H1
  rw [allT_small (s := t) (by omega)] at H2
  rw [allT_small hst, nums_app] at H3
  have bs := byt_nums s
  have bt := byt_nums t
  have ls := nums_length s
  have lt := nums_length t
  obtain ⟨la, x, hA⟩ : ∃ la x, allB 11 (nums s) = (la, x) := ⟨_, _, rfl⟩
  obtain ⟨lb, y, hB⟩ : ∃ lb y, allB 11 (nums t) = (lb, y) := ⟨_, _, rfl⟩
  by_cases hx : x = 0
  · subst hx
    obtain ⟨es, gs⟩ := all_lay bs hA
    have hP := all_parts 11 (nums t) bt la gs (es ▸ bs)
    rw [← es, hB] at hP
    have na := layL_ge la
    rw [← es, ls] at na
    by_cases hy : y = 0
    · subst hy
      obtain ⟨et, _⟩ := all_lay bt hB
      have nb := layL_ge lb
      rw [← et, lt] at nb
      rw [hA] at H1
      rw [hB] at H2
      rw [hP] at H3
      simp only [if_true] at H1 H2 H3
      have HS := hide (rsameall_any (la ++ lb))
      obtain ⟨i0, hi, hz0, hz1, hz2⟩ := info_parts el_info
      obtain ⟨A, hAl⟩ : ∃ A, A = la.length := ⟨_, rfl⟩
      obtain ⟨B, hBl⟩ : ∃ B, B = lb.length := ⟨_, rfl⟩
      have HAl := hide hAl
      have HBl := hide hBl
      have sA : ∀ {P : Nat → Prop} {w : World} {v : Value}, EsP P w v la → ∃ ad cap, v = .slice ad A cap := fun h => by rw [hAl]; exact h.shape
      have sB : ∀ {P : Nat → Prop} {w : World} {v : Value}, EsP P w v lb → ∃ ad cap, v = .slice ad B cap := fun h => by rw [hBl]; exact h.shape
      have hAB : 0 + A + B = (la ++ lb).length := by rw [List.length_append, ← hAl, ← hBl]; omega
      have hABm : (la ++ lb).length ≤ 9223372036854775807 := by rw [← hAB]; omega
      have HAB := hide hAB
      have HABm := hide hABm
      obtain ⟨N, hN⟩ : ∃ N, N = (la ++ lb).length := ⟨_, rfl⟩
      have sC : ∀ {P : Nat → Prop} {w : World} {v : Value}, EsP P w v (la ++ lb) → ∃ ad cap, v = .slice ad N cap := fun h => by rw [hN]; exact h.shape
      clear hAB hABm
      have hm1 : 0 + A ≤ maxLen := by unfold maxLen; omega
      have hm2 : 0 + A + B ≤ maxLen := by unfold maxLen; omega
      have hm3 : (0 + A) * 64 ≤ 140737488355328 := by omega
      have hm4 : (0 + A + B) * 64 ≤ 140737488355328 := by omega
      clear hL hA hB hP es gs et bs bt ls lt na nb hAl hBl hN
      go_enter Try.func8, Try.ntmps8
      go_wp2_with (first
        | (go_at_call 9; refine (unhide HA _ (Ly.keep (unhide HL) t7)).mono ?_; rintro r w8 ⟨rfl, b8⟩)
        | (go_at_call 22; refine (unhide HS _ _ _ (e3.below x6) e6).mono ?_; rintro r w7 ⟨rfl, g7⟩; have t7 := below_next (t3.trans (x6.mono t3.size)) g7.below)
        | (at_builtin; refine wpList_append_els _ (by rfl) _ _ 22 rfl w3.heap.size 26 i0 _ 5 64 Try.underlying22 hi hz0 hz1 hz2 rfl (by omega) _ (0 + A) _ rfl (unhide O5) ad2 B cap2 csB rfl SB5.len SB5.news SB5.one hm2 hm4 x5.size ?_; intro v6 w6 o6 g6 k6; have bel6 := below_own g6 x5.size (own_block (unhide O5)); have x6 := x5.trans bel6; have e6 := els_own (unhide HAB) (unhide HABm) o6 (Flat.append _ _ _ _ (SA5.below bel6).flat (SB5.below bel6).flat))
        | (at_builtin; refine wpList_append_els _ (by rfl) _ _ 22 rfl w3.heap.size 26 i0 _ 5 64 Try.underlying22 hi hz0 hz1 hz2 rfl (by omega) _ 0 _ rfl (own_empty15 w3) ad1 A cap1 csA rfl SA4.len SA4.news SA4.one hm1 hm3 (Below.one w3 (.cells #[] 26)).size ?_; intro v5 w5 o5 g5 k5; have bel5 := below_own g5 (Below.one w3 (.cells #[] 26)).size (own_block (own_empty15 w3)); have x5 := (Below.one w3 (.cells #[] 26)).trans bel5; have SA5 := SA4.below bel5; have SB5 := SB4.below bel5; have O5 := hide o5; clear o5)
        | (go_at_call_of 20 (s ++ t); refine (unhide H3 _ (Ly.keep (unhide HL) t2)).mono ?_; rintro r w3 ⟨v3, rfl, p3, b3⟩; obtain ⟨ad3, cap3, rfl⟩ := sC p3; have e3 := EsP.toV p3; have t3 := below_next t2 b3; obtain ⟨csA, SA3⟩ := src_of (unhide HAl) p1 (below_next b2 b3); obtain ⟨csB, SB3⟩ := src_of (unhide HBl) p2 b3; have SA4 := SA3.below (Below.one w3 (.cells #[] 26)); have SB4 := SB3.below (Below.one w3 (.cells #[] 26)))
        | (go_at_call_of 20 t; refine (unhide H2 _ (Ly.keep (unhide HL) t1)).mono ?_; rintro r w2 ⟨v2, rfl, p2, b2⟩; obtain ⟨ad2, cap2, rfl⟩ := sB p2; have t2 := below_next t1 b2)
        | (go_at_call_of 20 s; refine (unhide H1).mono ?_; rintro r w1 ⟨v1, rfl, p1, t1⟩; obtain ⟨ad1, cap1, rfl⟩ := sA p1))
      go_ret
      exact ⟨rfl, below_next t7 b8⟩
    · have hl2 := allB_nil1 11 (nums t) (by rw [hB]; exact hy)
      rw [hB] at hl2
      simp only at hl2
      subst hl2
      rw [hA] at H1
      rw [hB] at H2
      rw [hP] at H3
      simp only [if_neg hy] at H1 H2 H3
      have ey : (y == 0) = false := by simpa using hy
      have sN : ∀ {P : Nat → Prop} {w : World} {v : Value}, EsP P w v [] → ∃ ad cap, v = .slice ad 0 cap := fun h => h.shape
      clear hL hA hB hP es gs bs bt ls lt na hy
      go_enter Try.func8, Try.ntmps8
      go_wp2_with (first
        | (go_at_call 9; refine (unhide HA _ (Ly.keep (unhide HL) t3)).mono ?_; rintro r w4 ⟨rfl, b4⟩)
        | (go_at_call_of 20 (s ++ t); refine (unhide H3 _ (Ly.keep (unhide HL) t2)).mono ?_; rintro r w3 ⟨v3, rfl, p3, b3⟩; obtain ⟨ad3, cap3, rfl⟩ := sN p3; have t3 := below_next t2 b3)
        | (go_at_call_of 20 t; refine (unhide H2 _ (Ly.keep (unhide HL) t1)).mono ?_; rintro r w2 ⟨v2, rfl, p2, b2⟩; obtain ⟨ad2, cap2, rfl⟩ := sN p2; have t2 := below_next t1 b2)
        | (go_at_call_of 20 s; refine (unhide H1).mono ?_; rintro r w1 ⟨v1, rfl, p1, t1⟩; obtain ⟨ad1, cap1, rfl⟩ := p1.shape))
      go_ret
      exact ⟨rfl, below_next t3 b4⟩
  · have hl1 := allB_nil1 11 (nums s) (by rw [hA]; exact hx)
    rw [hA] at hl1
    simp only at hl1
    subst hl1
    rw [hA] at H1
    rw [hB] at H2
    simp only at H1 H2
    have ex : (x == 0) = false := by simpa using hx
    have sN : ∀ {P : Nat → Prop} {w : World} {v : Value}, EsP P w v [] → ∃ ad cap, v = .slice ad 0 cap := fun h => h.shape
    generalize allB 11 (nums s ++ nums t) = C at *
    clear hL hA hB bs bt ls lt hx
    go_enter Try.func8, Try.ntmps8
    go_wp2_with (first
      | (go_at_call 9; refine (unhide HA _ (Ly.keep (unhide HL) t3)).mono ?_; rintro r w4 ⟨rfl, b4⟩)
      | (go_at_call_of 20 (s ++ t); refine (unhide H3 _ (Ly.keep (unhide HL) t2)).mono ?_; rintro r w3 ⟨v3, rfl, p3, b3⟩; obtain ⟨ad3, cap3, rfl⟩ := p3.shape; have t3 := below_next t2 b3)
      | (go_at_call_of 20 t; refine (unhide H2 _ (Ly.keep (unhide HL) t1)).mono ?_; rintro r w2 ⟨v2, rfl, p2, b2⟩; obtain ⟨ad2, cap2, rfl⟩ := p2.shape; have t2 := below_next t1 b2)
      | (go_at_call_of 20 s; refine (unhide H1).mono ?_; rintro r w1 ⟨v1, rfl, p1, t1⟩; obtain ⟨ad1, cap1, rfl⟩ := sN p1))
    go_ret
    exact ⟨rfl, below_next t3 b4⟩
end Go.Proofs.Ytlhkplhfofkbbaa
