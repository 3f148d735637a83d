/- The law PiecesMore (P13.5): where a piece is left out. -/
import Derived.Test.YtddliikhjilngaaGreatDoorM32
import Derived.Test.YtddliikhjilngaaGreatDoorM33
import Derived.Deep.Cut
import Derived.Deep.CutRange
namespace Go.Proofs.YtddliikhjilngaaGreatDoor
set_option maxRecDepth 100000
open Go.RowKit

theorem own_none (w : World) (B : Nat) (hB : B ≤ w.heap.size) : (w.alloc (.cells #[] 9)).ownsRow B 9 1 (.slice (some ⟨w.heap.size, 0, none⟩) 0 0) 0 [] :=
  ⟨rfl, .inr ⟨w.heap.size, 0, #[], rfl, hB, heap_new w _, Nat.le_refl _, Nat.zero_le _, rfl, rfl⟩⟩
theorem texts_one (t : List ByteArray) : ∀ u ∈ t.map Value.string, u.oneCell' = true := by
  intro u hu
  obtain ⟨x, _, rfl⟩ := List.mem_map.1 hu
  rfl
theorem own_shape {w : World} {B e s n : Nat} {v : Value} {xs : List Value} (h : w.ownsRow B e s v n xs) : ∃ a c, v = .slice a n c := by
  rcases h.2 with ⟨hv, h0⟩ | ⟨g, cap, cur, hv, _⟩
  · exact ⟨none, 0, by rw [hv, h0]⟩
  · exact ⟨_, cap, hv⟩
/-- Texts that the call owns. -/
theorem own_txs {w : World} {B n : Nat} {v : Value} {ts : List ByteArray} (h : w.ownsRow B 9 1 v n (ts.map Value.string)) : Txs w v ts := by
  have hl : ts.length = n := by have := h.1; rw [List.length_map, Nat.mul_one] at this; exact this
  subst hl
  rcases h.2 with ⟨hv, h0⟩ | ⟨g, cap, cur, hv, _, _, hle, hmx, _⟩
  · exact ⟨none, 0, by rw [hv, h0], by omega, fun hi => by omega⟩
  · refine ⟨some ⟨g, 0, none⟩, cap, hv, by unfold maxLen at hmx; omega, fun hi => ⟨g, 0, rfl, fun j hj => ?_⟩⟩
    have := World.ownsRow.cells h (g := g) (by rw [hv]; rfl) j (.string (ts.getD j ByteArray.empty)) (by simp [List.getD, hj])
    rw [add_zero3 g j] at this
    rw [Nat.zero_add]
    exact this
theorem Txs.cell {w : World} {g off n cap : Nat} {ss : List ByteArray} (h : Txs w (.slice (some ⟨g, off, none⟩) n cap) ss) (j : Nat) (hj : j < ss.length) : w.cell? ⟨g, off + j, none⟩ = some (.string (ss.getD j ByteArray.empty)) := by
  obtain ⟨a, c, hv, _, hc⟩ := h
  obtain ⟨b, o, rfl, hcc⟩ := hc (by omega)
  simp only [Value.slice.injEq, Option.some.injEq, Addr.mk.injEq, and_true] at hv
  obtain ⟨⟨rfl, rfl⟩, -, -⟩ := hv
  exact hcc j hj
theorem add_off (g o j : Nat) : (⟨g, o, none⟩ : Addr).add j = ⟨g, o + j, none⟩ := by unfold Addr.add; split <;> simp_all
theorem news_take {W : World} {g off n cap k : Nat} {ss : List ByteArray} (h : Txs W (.slice (some ⟨g, off, none⟩) n cap) ss) : ∀ j u, ((ss.take k).map Value.string)[j]? = some u → W.cell? ((⟨g, off, none⟩ : Addr).add j) = some u := by
  intro j u hu
  have hj : j < ((ss.take k).map Value.string).length := (List.getElem?_eq_some_iff.1 hu).1
  rw [List.length_map, List.length_take] at hj
  have hj2 : j < ss.length := by omega
  have := h.cell j hj2
  rw [add_off, this]
  rw [List.getElem?_map, List.getElem?_take_of_lt (by omega), List.getElem?_eq_getElem hj2] at hu
  simp at hu
  rw [← hu]
  simp [List.getD, hj2]
theorem news_drop {W : World} {g off n cap k : Nat} {ss : List ByteArray} (h : Txs W (.slice (some ⟨g, off, none⟩) n cap) ss) : ∀ j u, ((ss.drop k).map Value.string)[j]? = some u → W.cell? ((⟨g, off + k, none⟩ : Addr).add j) = some u := by
  intro j u hu
  have hj : j < ((ss.drop k).map Value.string).length := (List.getElem?_eq_some_iff.1 hu).1
  rw [List.length_map, List.length_drop] at hj
  have hj2 : k + j < ss.length := by omega
  have := h.cell (k + j) hj2
  rw [add_off, Nat.add_assoc, this]
  rw [List.getElem?_map, List.getElem?_drop, List.getElem?_eq_getElem hj2] at hu
  simp at hu
  rw [← hu]
  simp [List.getD, hj2]
theorem own_txs_put {w : World} {B n g i : Nat} {v u : Value} {ts : List ByteArray} (h : w.ownsRow B 9 1 v n (ts.map Value.string)) (hg : g < B) : Txs (w.setCell ⟨g, i, none⟩ u) v ts := by
  have hl : ts.length = n := by have := h.1; rw [List.length_map, Nat.mul_one] at this; exact this
  subst hl
  rcases h.2 with ⟨hv, h0⟩ | ⟨g2, cap, cur, hv, hB, _, hle, hmx, _⟩
  · exact ⟨none, 0, by rw [hv, h0], by omega, fun hi => by omega⟩
  · refine ⟨some ⟨g2, 0, none⟩, cap, hv, by unfold maxLen at hmx; omega, fun hi => ⟨g2, 0, rfl, fun j hj => ?_⟩⟩
    have := World.ownsRow.cells h (g := g2) (by rw [hv]; rfl) j (.string (ts.getD j ByteArray.empty)) (by simp [List.getD, hj])
    rw [add_zero3 g2 j] at this
    rw [Nat.zero_add, World.cell?_setCell_other _ _ _ _ (addr_ne (by omega))]
    exact this
theorem B5.put1 {W : World} {g : Nat} {a0 a1 a2 a3 a4 : Value} (h : B5 W g a0 a1 a2 a3 a4) (u : Value) : B5 (W.setCell ⟨g, 1, none⟩ u) g a0 u a2 a3 a4 := by
  have o : ∀ (j : Nat), 1 ≠ j → (W.setCell ⟨g, 1, none⟩ u).cell? ⟨g, j, none⟩ = W.cell? ⟨g, j, none⟩ := fun j n => World.cell?_setCell_other _ _ _ _ (fun e => n (congrArg Addr.off e))
  have f : ∀ a, (W.setCell ⟨g, 1, none⟩ u).frozen? a = W.frozen? a := fun a => World.frozen?_setCell _ _ _ _
  exact ⟨(o 0 (by decide)).trans h.c0, World.cell?_setCell_same _ _ _ h.c1, (o 2 (by decide)).trans h.c2, (o 3 (by decide)).trans h.c3, (o 4 (by decide)).trans h.c4, (f _).trans h.f0, (f _).trans h.f1, (f _).trans h.f2, (f _).trans h.f3, (f _).trans h.f4⟩
theorem chk_fmd {a b : ByteArray} {ss : List ByteArray} {hi hf : Bool} (h : chk13 a b ss hi hf = true) : fmd (bts a) (bts b) ss.length hi hf = true := by
  unfold chk13 at h
  simp only [Bool.and_eq_true] at h
  exact h.1.1.1
theorem mat_out {V a b : ByteArray} {ss : List ByteArray} {hi hf : Bool} {k : Nat} (hk : k < ss.length) (h : mat (bts V) (bts a) (bts b) (ss.map bts) hi hf = true) (hc : chk13 a b (ss.take k ++ ss.drop (k + 1)) hi hf = true) :
    mat (bts V) (bts a) (bts b) ((ss.take k ++ ss.drop (k + 1)).map bts) hi hf = true := by
  have e : ss.map bts = (ss.take k).map bts ++ bts ss[k] :: (ss.drop (k + 1)).map bts := by
    rw [← List.map_cons, ← List.map_append, ← List.drop_eq_getElem_cons hk, List.take_append_drop]
  rw [e] at h
  have hq := chk_fmd hc
  rw [List.map_append]
  refine mat_less h ?_
  rw [List.length_append, List.length_map, List.length_map, ← List.length_append]
  exact hq
set_option maxHeartbeats 2000000 in
theorem more_in (V a b : ByteArray) (g off cap k n : Nat) (ss : List ByteArray) (hi hf : Bool) (w : World) (hL : L13 w) (hn : n = ss.length) (hv : Txs w (.slice (some ⟨g, off, none⟩) ss.length cap) ss) (hcap : n ≤ cap) (hk : k < n) (hV : V.size ≤ 5000) (hfew : few13 a b ss = true) (hmat : mat (bts V) (bts a) (bts b) (ss.map bts) hi hf = true) :
    Calls Tryz.prog 5 #[.string V, .agg #[.string a, .slice (some ⟨g, off, none⟩) n cap, .string b, .bool hi, .bool hf], .int .i64 k] w fun e w' => e = .returned (.bool true) ∧ Below w.heap.size w w' := by
  have b0 := Below.one w (.cells #[.string a, .slice (some ⟨g, off, none⟩) n cap, .string b, .bool hi, .bool hf] 29)
  obtain ⟨c0, c1, c2, c3, c4⟩ := box13 w (.string a) (.slice (some ⟨g, off, none⟩) n cap) (.string b) (.bool hi) (.bool hf) 29
  have hlen : n ≤ 9 := by
    unfold few13 at hfew
    simp only [Bool.and_eq_true, decide_eq_true_eq] at hfew
    omega
  have HAW : Hid (∀ W, Below w.heap.size w W → Calls Tryz.prog 6 #[] W fun e w' => e = .returned (.bool true) ∧ Below W.heap.size W w') := fun W hW => awake13 W (hL.keep hW)
  have HF : Hid (∀ W, Below w.heap.size w W → Calls Tryz.prog 10 #[.agg #[.string a, .slice (some ⟨g, off, none⟩) n cap, .string b, .bool hi, .bool hf]] W fun e w' => e = .returned (.bool true) ∧ Below W.heap.size W w') := fun W hW => by
    have := few_any13 a b _ ss hi hf W (hv.below hW)
    rw [hfew] at this
    rwa [hn]
  have HM : Hid (∀ W, Below w.heap.size w W → Calls Tryz.prog 9 #[.string V, .agg #[.string a, .slice (some ⟨g, off, none⟩) n cap, .string b, .bool hi, .bool hf]] W fun e w' => e = .returned (.bool true) ∧ Below W.heap.size W w') := fun W hW => by
    have := match_any V a b _ ss hi hf W (by omega) (fun _ => ⟨by omega, (hL.keep hW).m⟩) (hv.below hW)
    rw [hmat] at this
    rwa [hn]
  have z1 : ¬ (5000 : Int) < (V.size : Int) := by omega
  have z3 : ¬ (k : Int) < 0 := by omega
  have z4 : ¬ (k : Int) ≥ (n : Int) := by omega
  have HT := hide hv
  have HL := hide hL
  have HN := hide hn
  have HC : Hid (∀ v W, Txs W v (ss.take k ++ ss.drop (k + 1)) → Calls Tryz.prog 8 #[.agg #[.string a, v, .string b, .bool hi, .bool hf]] W fun e w' => e = .returned (.int .i64 (chkI a b (ss.take k ++ ss.drop (k + 1)) hi hf)) ∧ Below W.heap.size W w') := fun v W hW => check_any a b v _ hi hf W hW
  have HMQ : Hid (chk13 a b (ss.take k ++ ss.drop (k + 1)) hi hf = true → ∀ v W, Mx W → Txs W v (ss.take k ++ ss.drop (k + 1)) → Calls Tryz.prog 9 #[.string V, .agg #[.string a, v, .string b, .bool hi, .bool hf]] W fun e w' => e = .returned (.bool true) ∧ Below W.heap.size W w') := fun hc v W hm hW => by
    have := match_any V a b v _ hi hf W (by omega) (fun _ => ⟨by omega, hm⟩) hW
    rwa [mat_out (by omega) hmat hc] at this
  clear hv hL hfew hmat hn
  go_enter Tryz.func5, Tryz.ntmps5
  go_upto_region 4 with (first
    | (go_at_call 9; refine (unhide HM _ t1).mono ?_; rintro e w2 ⟨rfl, b2⟩; have t2 := below_next13 t1 b2; obtain ⟨e0, e1, e2, e3, e4⟩ := kept13 b2 d0 d1 d2 d3 d4)
    | (go_at_call 10; refine (unhide HF _ b0).mono ?_; rintro e w1 ⟨rfl, b1⟩; have t1 := below_new b1; obtain ⟨d0, d1, d2, d3, d4⟩ := kept13 b1 c0 c1 c2 c3 c4))
  have hgq : w2.heap.size ≤ (w2.alloc (.cells #[.string a, .slice (some ⟨g, off, none⟩) n cap, .string b, .bool hi, .bool hf] 29)).heap.size := by simp
  have hgq2 : w2.heap.size < (w2.alloc (.cells #[.string a, .slice (some ⟨g, off, none⟩) n cap, .string b, .bool hi, .bool hf] 29)).heap.size := by simp
  have HQ := hide (B5.new w2 (.string a) (.slice (some ⟨g, off, none⟩) n cap) (.string b) (.bool hi) (.bool hf) 29)
  have t3 := t2.alloc t2.size (.cells #[.string a, .slice (some ⟨g, off, none⟩) n cap, .string b, .bool hi, .bool hf] 29)
  obtain ⟨x0, x1, x2, x3, x4⟩ := kept13 (Below.one w2 (.cells #[.string a, .slice (some ⟨g, off, none⟩) n cap, .string b, .bool hi, .bool hf] 29)) e0 e1 e2 e3 e4
  have hwq : w.heap.size < w2.heap.size := cell_lt e0
  clear c0 c1 c2 c3 c4 d0 d1 d2 d3 d4 e0 e1 e2 e3 e4 b0 b1 b2 t1 HF HM x0 x2 x3 x4
  generalize w2.alloc (.cells #[.string a, .slice (some ⟨g, off, none⟩) n cap, .string b, .bool hi, .bool hf] 29) = w3 at *
  generalize w2.heap.size = gq at *
  have HN1 : Hid (∀ (W : World), Below w3.heap.size w3 W → ∀ j u, ((ss.take k).map Value.string)[j]? = some u → W.cell? ((⟨g, off, none⟩ : Addr).add j) = some u) := fun W gg => news_take (((unhide HT).below t3).below gg)
  obtain ⟨k1, hk1⟩ : ∃ k1, k1 = k + 1 := ⟨_, rfl⟩
  have HN2 : Hid (∀ (W : World), Below w3.heap.size w3 W → ∀ j u, ((ss.drop k1).map Value.string)[j]? = some u → W.cell? ((⟨g, off + k1, none⟩ : Addr).add j) = some u) := fun W gg => news_drop (((unhide HT).below t3).below gg)
  have G1 : Hid (Gr w3 (w3.drew.alloc (.cells #[] 9))) := ((Gr.refl _).drewN 1).alloc _
  have G2 : Hid (Gr w3 (w3.alloc (.cells #[] 9)).drew) := ((Gr.refl _).alloc _).drew
  have O1 : Hid ((w3.drew.alloc (.cells #[] 9)).ownsRow w3.heap.size 9 1 (.slice (some ⟨w3.heap.size, 0, none⟩) 0 0) 0 []) := own_none w3.drew _ (Nat.le_refl _)
  have O2 : Hid ((w3.alloc (.cells #[] 9)).drew.ownsRow w3.heap.size 9 1 (.slice (some ⟨w3.heap.size, 0, none⟩) 0 0) 0 []) := own_below (own_none w3 _ (Nat.le_refl _)) ((Gr.refl _).drew).below
  have l1 : (ss.take k).length = k := by rw [List.length_take, ← unhide HN]; omega
  have l2 : (ss.drop k1).length = n - k1 := by rw [List.length_drop, ← unhide HN]
  have zk1 : (0 : Int) ≤ (k : Int) := by omega
  have zk2 : (k : Int) ≤ (cap : Int) := by omega
  have zk3 : (0 : Int) ≤ (k1 : Int) := by omega
  have zk4 : (k1 : Int) ≤ (n : Int) := by omega
  have zk5 : (n : Int) ≤ (cap : Int) := by omega
  have hwr : IntKind.i64.wrap ((k : Int) + 1) = (k1 : Int) := by simp [IntKind.wrap, IntKind.bits, IntKind.signed]; omega
  have mm1 : 0 + k ≤ maxLen := by unfold maxLen; omega
  have mm2 : (0 + k) * 16 ≤ 140737488355328 := by omega
  have mm3 : 0 + k + (n - k1) ≤ maxLen := by unfold maxLen; omega
  have mm4 : (0 + k + (n - k1)) * 16 ≤ 140737488355328 := by omega
  have HK1 := hide hk1
  clear hk1
  obtain ⟨i0, hi0, hz0, hz1, hz2⟩ : ∃ i, Tryz.prog.info? 9 = some i ∧ i.zero = some (.string ⟨#[]⟩) ∧ i.size = 1 ∧ i.bytes = 16 := by
    have h := text_info
    cases h2 : Tryz.prog.info? 9 with
    | none => rw [h2] at h; cases h
    | some i =>
      rw [h2] at h
      simp only [Option.map_some, Option.some.injEq, Prod.mk.injEq] at h
      exact ⟨i, rfl, h.1, h.2.1, h.2.2⟩
  have hneq : gq ≠ w.heap.size := by omega
  by_cases hce : cap = k1
  · subst hce
    obtain rfl : n = cap := by omega
    have l3 : (ss.drop n).length = 0 := by rw [l2, Nat.sub_self]
    have HN3 : Hid (∀ (W : World) j u, ((ss.drop n).map Value.string)[j]? = some u → W.cell? ((⟨g, off, none⟩ : Addr).add j) = some u) := fun W j u hu => by
      rw [List.eq_nil_of_length_eq_zero l3] at hu
      simp at hu
    have mm5 : 0 + k + 0 ≤ maxLen := by unfold maxLen; omega
    have mm6 : (0 + k + 0) * 16 ≤ 140737488355328 := by omega
    go_region_held3 (fun W => W.cell? ⟨w.heap.size, 1, none⟩ = some (.slice (some ⟨g, off, none⟩) n n)) (first | assumption | (exact (World.cell?_setCell_other _ _ _ _ (addr_ne hneq)).trans x8) | go_keep)
      (first
        | (refine step_append_at _ (by rfl) _ _ _ (by rfl) w3.heap.size 9 i0 _ 1 16 Tryz.underlying27 hi0 hz0 hz1 hz2 rfl (by omega) _ 0 [] (by rfl) (unhide O1) ⟨g, off, none⟩ k n ((ss.take k).map Value.string) (by rfl) (by rw [List.length_map, l1, Nat.mul_one]) (unhide HN1 _ (unhide G1).below) (texts_one _) mm1 mm2 (unhide G1).size ?_; intro v7 w7 hown7 hgrow7; have b7 : Below w3.heap.size w3 w7 := ((unhide G1).below.trans (below_own hgrow7 (unhide G1).size (own_block (unhide O1)))); have hs7 := b7.size; have x7 : w7.cell? ⟨w.heap.size, 1, none⟩ = some (.slice (some ⟨g, off, none⟩) n n) := ((b7.cell (cell_lt x1)).trans x1))
        | (refine step_append_at _ (by rfl) _ _ _ (by rfl) w3.heap.size 9 i0 _ 1 16 Tryz.underlying27 hi0 hz0 hz1 hz2 rfl (by omega) _ 0 [] (by rfl) (unhide O2) ⟨g, off, none⟩ k n ((ss.take k).map Value.string) (by rfl) (by rw [List.length_map, l1, Nat.mul_one]) (unhide HN1 _ (unhide G2).below) (texts_one _) mm1 mm2 (unhide G2).size ?_; intro v7 w7 hown7 hgrow7; have b7 : Below w3.heap.size w3 w7 := ((unhide G2).below.trans (below_own hgrow7 (unhide G2).size (own_block (unhide O2)))); have hs7 := b7.size; have x7 : w7.cell? ⟨w.heap.size, 1, none⟩ = some (.slice (some ⟨g, off, none⟩) n n) := ((b7.cell (cell_lt x1)).trans x1))
        | (refine step_append_at _ (by rfl) _ _ _ (by rfl) w3.heap.size 9 i0 _ 1 16 Tryz.underlying27 hi0 hz0 hz1 hz2 rfl (by omega) _ (0 + k) _ (by rfl) hown7 ⟨g, off, none⟩ 0 0 ((ss.drop n).map Value.string) (by rfl) (by rw [List.length_map, l3]) (unhide HN3 _) (texts_one _) mm5 mm6 hs7 ?_; intro v8 w8 hown8 hgrow8; have b8 : Below w3.heap.size w3 w8 := (b7.trans (below_own hgrow8 hs7 (own_block hown7))); have x8 : w8.cell? ⟨w.heap.size, 1, none⟩ = some (.slice (some ⟨g, off, none⟩) n n) := ((b8.cell (cell_lt x1)).trans x1); have HO8 := hide hown8; obtain ⟨a8, c8, hv8⟩ := own_shape hown8; subst hv8; have q8 := (unhide HQ).keep b8; have y1 := q8.c1; have y2 := q8.f1)
        | (trace_state; fail))
    all_goals
      have hown9 : w8.ownsRow w3.heap.size 9 1 (.slice a8 (k) c8) (k) ((ss.take k ++ ss.drop (k + 1)).map Value.string) := by
        have h := unhide HO8
        rw [← unhide HK1, List.map_append]
        simpa using h
      have hT9 := own_txs_put (g := gq) (i := 1) (u := .slice a8 (k) c8) hown9 hgq2
      have hB9 := q8.put1 (.slice a8 (k) c8)
      have t8 := t3.trans (b8.mono t3.size)
      have t9 := t8.setCell (p := ⟨gq, 1, none⟩) (show w.heap.size ≤ gq by omega) (.slice a8 (k) c8)
      clear hown9 HO8 hown8 hgrow8 hown7 hgrow7 b7 b8 x7 x8 y1 y2 q8 O1 O2 G1 G2 HN1 HN2 mm1 mm2 mm3 mm4 mm5 mm6 HN3 hwr x1 HQ
      generalize w8.setCell ⟨gq, 1, none⟩ (.slice a8 (k) c8) = w9 at *
      obtain ⟨c0, c1, c2, c3, c4, f0, f1, f2, f3, f4⟩ := hB9
      try simp only [Exit.then]
      cases hc9 : chk13 a b (ss.take k ++ ss.drop (k + 1)) hi hf
      · have hci : chkI a b (ss.take k ++ ss.drop (k + 1)) hi hf = 2 := by unfold chkI; rw [hc9]; rfl
        rw [hci] at HC
        clear HMQ hci hc9
        go_wp2_with (first
          | (go_at_call 6; refine (unhide HAW _ t10).mono ?_; rintro e w11 ⟨rfl, b11⟩; have t11 := below_next13 t10 b11)
          | (go_at_call 8; refine (unhide HC _ _ hT9).mono ?_; rintro e w10 ⟨rfl, b10⟩; have t10 := below_next13 t9 b10))
        go_ret
        exact ⟨rfl, t11⟩
      · have hci : chkI a b (ss.take k ++ ss.drop (k + 1)) hi hf = 0 := by unfold chkI; rw [hc9]; rfl
        have HMR := hide (unhide HMQ hc9)
        rw [hci] at HC
        clear HMQ hci hc9
        go_wp2_with (first
          | (go_at_call 6; refine (unhide HAW _ t11).mono ?_; rintro e w12 ⟨rfl, b12⟩; have t12 := below_next13 t11 b12)
          | (go_at_call 9; refine (unhide HMR _ _ ((unhide HL).keep t10).m (hT9.below b10)).mono ?_; rintro e w11 ⟨rfl, b11⟩; have t11 := below_next13 t10 b11)
          | (go_at_call 8; refine (unhide HC _ _ hT9).mono ?_; rintro e w10 ⟨rfl, b10⟩; have t10 := below_next13 t9 b10; obtain ⟨p0, p1, p2, p3, p4⟩ := kept13 b10 c0 c1 c2 c3 c4))
        go_ret
        exact ⟨rfl, t12⟩
  · go_region_held3 (fun W => W.cell? ⟨w.heap.size, 1, none⟩ = some (.slice (some ⟨g, off, none⟩) n cap)) (first | assumption | (exact (World.cell?_setCell_other _ _ _ _ (addr_ne hneq)).trans x8) | go_keep)
      (first
        | (refine step_append_at _ (by rfl) _ _ _ (by rfl) w3.heap.size 9 i0 _ 1 16 Tryz.underlying27 hi0 hz0 hz1 hz2 rfl (by omega) _ 0 [] (by rfl) (unhide O1) ⟨g, off, none⟩ k cap ((ss.take k).map Value.string) (by rfl) (by rw [List.length_map, l1, Nat.mul_one]) (unhide HN1 _ (unhide G1).below) (texts_one _) mm1 mm2 (unhide G1).size ?_; intro v7 w7 hown7 hgrow7; have b7 : Below w3.heap.size w3 w7 := ((unhide G1).below.trans (below_own hgrow7 (unhide G1).size (own_block (unhide O1)))); have hs7 := b7.size; have x7 : w7.cell? ⟨w.heap.size, 1, none⟩ = some (.slice (some ⟨g, off, none⟩) n cap) := ((b7.cell (cell_lt x1)).trans x1))
        | (refine step_append_at _ (by rfl) _ _ _ (by rfl) w3.heap.size 9 i0 _ 1 16 Tryz.underlying27 hi0 hz0 hz1 hz2 rfl (by omega) _ 0 [] (by rfl) (unhide O2) ⟨g, off, none⟩ k cap ((ss.take k).map Value.string) (by rfl) (by rw [List.length_map, l1, Nat.mul_one]) (unhide HN1 _ (unhide G2).below) (texts_one _) mm1 mm2 (unhide G2).size ?_; intro v7 w7 hown7 hgrow7; have b7 : Below w3.heap.size w3 w7 := ((unhide G2).below.trans (below_own hgrow7 (unhide G2).size (own_block (unhide O2)))); have hs7 := b7.size; have x7 : w7.cell? ⟨w.heap.size, 1, none⟩ = some (.slice (some ⟨g, off, none⟩) n cap) := ((b7.cell (cell_lt x1)).trans x1))
        | (refine step_append_at _ (by rfl) _ _ _ (by rfl) w3.heap.size 9 i0 _ 1 16 Tryz.underlying27 hi0 hz0 hz1 hz2 rfl (by omega) _ (0 + k) _ (by rfl) hown7 ⟨g, off + k1, none⟩ (n - k1) (cap - k1) ((ss.drop k1).map Value.string) (by rfl) (by rw [List.length_map, l2, Nat.mul_one]) (unhide HN2 _ b7) (texts_one _) mm3 mm4 hs7 ?_; intro v8 w8 hown8 hgrow8; have b8 : Below w3.heap.size w3 w8 := (b7.trans (below_own hgrow8 hs7 (own_block hown7))); have x8 : w8.cell? ⟨w.heap.size, 1, none⟩ = some (.slice (some ⟨g, off, none⟩) n cap) := ((b8.cell (cell_lt x1)).trans x1); have HO8 := hide hown8; obtain ⟨a8, c8, hv8⟩ := own_shape hown8; subst hv8; have q8 := (unhide HQ).keep b8; have y1 := q8.c1; have y2 := q8.f1)
        | (trace_state; fail))
    all_goals
      have hown9 : w8.ownsRow w3.heap.size 9 1 (.slice a8 (k + (n - k1)) c8) (k + (n - k1)) ((ss.take k ++ ss.drop (k + 1)).map Value.string) := by
        have h := unhide HO8
        rw [← unhide HK1, List.map_append]
        simpa using h
      have hT9 := own_txs_put (g := gq) (i := 1) (u := .slice a8 (k + (n - k1)) c8) hown9 hgq2
      have hB9 := q8.put1 (.slice a8 (k + (n - k1)) c8)
      have t8 := t3.trans (b8.mono t3.size)
      have t9 := t8.setCell (p := ⟨gq, 1, none⟩) (show w.heap.size ≤ gq by omega) (.slice a8 (k + (n - k1)) c8)
      clear hown9 HO8 hown8 hgrow8 hown7 hgrow7 b7 b8 x7 x8 y1 y2 q8 O1 O2 G1 G2 HN1 HN2 mm1 mm2 mm3 mm4 hwr x1 HQ
      generalize w8.setCell ⟨gq, 1, none⟩ (.slice a8 (k + (n - k1)) c8) = w9 at *
      generalize k + (n - k1) = m9 at *
      obtain ⟨c0, c1, c2, c3, c4, f0, f1, f2, f3, f4⟩ := hB9
      try simp only [Exit.then]
      cases hc9 : chk13 a b (ss.take k ++ ss.drop (k + 1)) hi hf
      · have hci : chkI a b (ss.take k ++ ss.drop (k + 1)) hi hf = 2 := by unfold chkI; rw [hc9]; rfl
        rw [hci] at HC
        clear HMQ hci hc9
        go_wp2_with (first
          | (go_at_call 6; refine (unhide HAW _ t10).mono ?_; rintro e w11 ⟨rfl, b11⟩; have t11 := below_next13 t10 b11)
          | (go_at_call 8; refine (unhide HC _ _ hT9).mono ?_; rintro e w10 ⟨rfl, b10⟩; have t10 := below_next13 t9 b10))
        go_ret
        exact ⟨rfl, t11⟩
      · have hci : chkI a b (ss.take k ++ ss.drop (k + 1)) hi hf = 0 := by unfold chkI; rw [hc9]; rfl
        have HMR := hide (unhide HMQ hc9)
        rw [hci] at HC
        clear HMQ hci hc9
        go_wp2_with (first
          | (go_at_call 6; refine (unhide HAW _ t11).mono ?_; rintro e w12 ⟨rfl, b12⟩; have t12 := below_next13 t11 b12)
          | (go_at_call 9; refine (unhide HMR _ _ ((unhide HL).keep t10).m (hT9.below b10)).mono ?_; rintro e w11 ⟨rfl, b11⟩; have t11 := below_next13 t10 b11)
          | (go_at_call 8; refine (unhide HC _ _ hT9).mono ?_; rintro e w10 ⟨rfl, b10⟩; have t10 := below_next13 t9 b10; obtain ⟨p0, p1, p2, p3, p4⟩ := kept13 b10 c0 c1 c2 c3 c4))
        go_ret
        exact ⟨rfl, t12⟩
theorem more13_law (V a b : ByteArray) (ad : Option Addr) (cap : Nat) (ss : List ByteArray) (hi hf : Bool) (i : Int) (w : World) (hL : L13 w) (hv : Txs w (.slice ad ss.length cap) ss) (hcap : ss.length ≤ cap) :
    Calls Tryz.prog 5 #[.string V, .agg #[.string a, .slice ad ss.length cap, .string b, .bool hi, .bool hf], .int .i64 i] w fun e w' => e = .returned (.bool true) ∧ Below w.heap.size w w' := by
  by_cases h : 5000 < V.size ∨ few13 a b ss = false ∨ i < 0 ∨ (ss.length : Int) ≤ i ∨ mat (bts V) (bts a) (bts b) (ss.map bts) hi hf = false
  · exact more_out V a b _ ss hi hf i w hL hv h
  · have h1 : ¬ 5000 < V.size := fun e => h (.inl e)
    have h2 : few13 a b ss = true := by
      cases e : few13 a b ss
      · exact absurd (.inr (.inl e)) h
      · rfl
    have h3 : ¬ i < 0 := fun e => h (.inr (.inr (.inl e)))
    have h4 : ¬ (ss.length : Int) ≤ i := fun e => h (.inr (.inr (.inr (.inl e))))
    have h5 : mat (bts V) (bts a) (bts b) (ss.map bts) hi hf = true := by
      cases e : mat (bts V) (bts a) (bts b) (ss.map bts) hi hf
      · exact absurd (.inr (.inr (.inr (.inr e)))) h
      · rfl
    obtain ⟨k, rfl⟩ := Int.eq_ofNat_of_zero_le (show 0 ≤ i by omega)
    have hv' := hv
    obtain ⟨a0, c0, he, hn, hc⟩ := hv
    obtain ⟨g, off, rfl, _⟩ := hc (by omega)
    simp only [Value.slice.injEq] at he
    obtain ⟨rfl, -, -⟩ := he
    exact more_in V a b g off cap k ss.length ss hi hf w hL rfl hv' hcap (by omega) (by omega) h2 h5
end Go.Proofs.YtddliikhjilngaaGreatDoor
