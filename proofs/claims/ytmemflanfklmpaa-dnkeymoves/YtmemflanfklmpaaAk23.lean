/- The landed areKeys: are all of some texts keys? -/
import Derived.Test.YtmemflanfklmpaaIt23
namespace Go.Proofs.Ytmemflanfklmpaa
open Go.RowKit
attribute [local go_sem] Oper.semAt_some

/-- The mark of a loop over an iterator among the deferred calls. -/
def mk (D : Nat) : Deferred := { target := .collected D, args := #[] }
theorem leaves_marks {n : Nat} {fn : Func} {tmps : Array Value} {R : Ending → World → Prop} (B : Nat) (C : World → Prop)
    (hC : ∀ W D, C W → B ≤ D → W.heap[D]? = some (.deferred (some [])) → C (W.putObj D (.deferred none)))
    (hR : ∀ W, C W → ∃ v, (results fn tmps).run Try.prog W = .ok v W ∧ R (.returned v) W) :
    ∀ (Ds : List Nat) (W : World), Ds.Nodup → (∀ D, D ∈ Ds → B ≤ D ∧ W.heap[D]? = some (.deferred (some []))) → C W → LeavesInM Fence.wide n Try.prog fn tmps R (Ds.map mk) .returning W
  | [], W, _, _, h => hR W h
  | D :: Ds, W, hn, hd, h => by
    obtain ⟨hD1, hD2⟩ := hd D (by simp)
    refine ⟨by simp, .inl ⟨D, _, rfl, run_takeDeferred hD2, ?_⟩⟩
    refine leaves_marks B C hC hR Ds _ (List.nodup_cons.1 hn).2 (fun D' hD' => ?_) (hC W D h hD1 hD2)
    obtain ⟨h1, h2⟩ := hd D' (by simp [hD'])
    refine ⟨h1, ?_⟩
    have hne : D' ≠ D := fun e => (List.nodup_cons.1 hn).1 (by rw [← e]; exact hD')
    rw [World.putObj_heap_other hne]
    exact h2
theorem KeepsFrom.gr {B : Nat} {W W' : World} (hg : Gr W W') : KeepsFrom B W W' := KeepsFrom.of_grownBy (hg.grown none) (fun j e => by cases e)
theorem blk_cell {w : World} {g : Nat} {cs : Array Value} {T : TypeId} (h : w.heap[g]? = some (.cells cs T)) (j : Nat) : w.cell? ⟨g, j, none⟩ = cs[j]? := by simp [World.cell?, h]
theorem blk_lt {w : World} {g : Nat} {o : Obj} (h : w.heap[g]? = some o) : g < w.heap.size := (Array.getElem?_eq_some_iff.1 h).1
theorem set_box {w : World} {g : Nat} {v u : Value} {T : TypeId} (h : w.heap[g]? = some (.cells #[v] T)) : (w.setCell ⟨g, 0, none⟩ u).heap[g]? = some (.cells #[u] T) := by
  simp [World.setCell, Array.getElem?_modify, h]
/-- The result's box, what lies below the call, the marks. -/
structure Ks (w0 : World) (v : Value) (T : TypeId) (Ds : List Nat) (W : World) : Prop where
  res : W.heap[w0.heap.size]? = some (.cells #[v] T)
  bel : Below w0.heap.size w0 W
  ms : ∀ D, D ∈ Ds → w0.heap.size ≤ D ∧ W.heap[D]? = some (.deferred (some []))
  nd : Ds.Nodup
theorem Ks.kept {w0 : World} {v : Value} {T : TypeId} {Ds : List Nat} {W W' : World} {row : Option Nat} {B : Nat} (h : Ks w0 v T Ds W) (hg : W.grownBy W' row)
    (hr : ∀ r, row = some r → B ≤ r ∧ ∃ o : Obj, W.heap[r]? = some o ∧ o.isCells = false) (hB : w0.heap.size ≤ B) (hDB : ∀ D, D ∈ Ds → D < B) : Ks w0 v T Ds W' := by
  refine ⟨(hg.block _ (blk_lt h.res) (fun e => ?_)).trans h.res, h.bel.grown hg h.bel.size (fun k e => Nat.le_trans hB (hr k e).1), fun D hD => ?_, h.nd⟩
  · obtain ⟨_, o, ho, hc⟩ := hr _ e.symm
    rw [h.res] at ho
    cases ho
    cases hc
  · obtain ⟨h1, h2⟩ := h.ms D hD
    refine ⟨h1, (hg.block D (blk_lt h2) (fun e => ?_)).trans h2⟩
    have := (hr D e.symm).1
    have := hDB D hD
    omega
theorem Ks.keep {w0 : World} {v : Value} {T : TypeId} {Ds : List Nat} {W W' : World} (h : Ks w0 v T Ds W) (hb : Below W.heap.size W W') : Ks w0 v T Ds W' :=
  ⟨(hb.block _ (blk_lt h.res)).trans h.res, h.bel.trans (hb.mono h.bel.size), fun D hD => ⟨(h.ms D hD).1, (hb.block D (blk_lt (h.ms D hD).2)).trans (h.ms D hD).2⟩, h.nd⟩
theorem Ks.set {w0 : World} {v : Value} {T : TypeId} {Ds : List Nat} {W : World} (h : Ks w0 v T Ds W) (u : Value) : Ks w0 u T Ds (W.setCell ⟨w0.heap.size, 0, none⟩ u) := by
  refine ⟨set_box h.res, h.bel.setCell (p := ⟨w0.heap.size, 0, none⟩) (Nat.le_refl _) _, fun D hD => ?_, h.nd⟩
  obtain ⟨h1, h2⟩ := h.ms D hD
  refine ⟨h1, (Below.heap_setCell _ _ _ _ (fun e => ?_)).trans h2⟩
  rw [e] at h2
  dsimp only at h2
  rw [h.res] at h2
  cases h2
theorem Ks.mark {w0 : World} {v : Value} {T : TypeId} {Ds : List Nat} {W : World} (h : Ks w0 v T Ds W) {D : Nat} (h1 : w0.heap.size ≤ D) (h2 : W.heap[D]? = some (.deferred (some []))) (h3 : ∀ E, E ∈ Ds → E < D) : Ks w0 v T (D :: Ds) W :=
  ⟨h.res, h.bel, fun E hE => by
    rcases List.mem_cons.1 hE with rfl | hE
    · exact ⟨h1, h2⟩
    · exact h.ms E hE, List.nodup_cons.2 ⟨fun hD => Nat.lt_irrefl _ (h3 D hD), h.nd⟩⟩
theorem res_cellb {fn : Func} {p : Tmp} (h : fn.results = #[.cell p 4]) (tmps : Array Value) (w : World) (g : Nat) (x : Bool) (hp : tmps.getD p undef = .pointer (some ⟨g, 0, none⟩)) (hg : w.cell? ⟨g, 0, none⟩ = some (.bool x)) :
    (results fn tmps).run Try.prog w = .ok (.bool x) w := by
  have hp' : tmps[p]?.getD undef = .pointer (some ⟨g, 0, none⟩) := by simpa using hp
  have l1 : (loadVar 4 ⟨g, 0, none⟩).run Try.prog w = .ok (.bool x) w := by
    simp [loadVar, Sem.run_bind, Try.isAgg4, hg]
  simp [results, h, hp', asAddr, l1]
/-- Are all the parts that came good? Is one of them not? -/
def allG (pre : List Sh) : Prop := ∀ x, x ∈ pre → goodS x.1 = true
def badG (pre : List Sh) : Prop := ∃ x, x ∈ pre ∧ goodS x.1 = false
theorem badG_app {pre : List Sh} {s : Sh} {x : ByteArray} (h : x = s.1) (hb : goodS x = false) : badG (pre ++ [s]) := ⟨s, by simp, by rw [← h]; exact hb⟩
theorem allG_app {pre : List Sh} {s : Sh} {x : ByteArray} (hp : allG pre) (h : x = s.1) (hb : goodS x = true) : allG (pre ++ [s]) := fun y hy => by
  rcases List.mem_append.1 hy with hy | hy
  · exact hp y hy
  · simp at hy; rw [hy, ← h]; exact hb
set_option maxHeartbeats 4000000 in
theorem keys_any (ts : List ByteArray) (b cap : Nat) (w : World) (hl : ts.length ≤ 2) (hsz : ∀ t, t ∈ ts → t.size ≤ 20000) (hc : ∀ j, j < ts.length → w.cell? ⟨b, j, none⟩ = some (.string (ts.getD j ⟨#[]⟩))) :
    Calls Try.prog 24 #[.slice (some ⟨b, 0, none⟩) ts.length cap] w fun e w' => e = .returned (.bool (ts.all fun t => okK (bts t))) ∧ Below w.heap.size w w' := by
  obtain ⟨z, hz⟩ : ∃ z, (ts.all fun t => okK (bts t)) = z := ⟨_, rfl⟩
  rw [hz]
  have HZ := hide hz
  clear hz
  have HC := hide hc
  have HS := hide hsz
  clear hc hsz
  refine callsIn_wide.1 (callsIn_of_wp_marks (n := 9) Try.func24 rfl trivial (wpIn_wide.2 ?_) rfl)
  simp only [Try.ntmps24, List.size_toArray, List.length_cons, List.length_nil, Nat.reduceAdd, Nat.reduceSub, Array.replicate_succ, Array.replicate_zero, List.push_toArray, List.append_toArray, List.nil_append, List.cons_append]
  go_wp2
  have K0 : Hid (Ks w (.bool false) 4 [] (w.alloc (.cells #[.bool false] 4))) := ⟨heap_new w _, Below.one w _, fun D hD => (by cases hD), List.nodup_nil⟩
  generalize w.alloc (.cells #[.bool false] 4) = w1 at *
  obtain ⟨LV, hLV⟩ : ∃ LV : Act → World → Prop, LV = (fun act W => ∃ (k : Nat) (Ds : List Nat) (u4 u5 u9 u10 u11 u12 u13 u14 u15 u16 u17 u18 u19 u20 u21 u22 u23 u24 u25 u26 : Value), k ≤ ts.length ∧ (∀ j, j < k → okK (bts (ts.getD j ⟨#[]⟩)) = true) ∧ act = { tmps := #[.slice (some ⟨b, 0, none⟩) ts.length cap, undef, .pointer (some ⟨w.heap.size, 0, none⟩), undef, u4, u5, .slice (some ⟨b, 0, none⟩) ts.length cap, .int .i64 (ts.length : Int), .int .i64 (k : Int), u9, u10, u11, u12, u13, u14, u15, u16, u17, u18, u19, u20, u21, u22, u23, u24, u25, u26], defers := Ds.map mk } ∧ Hid (Ks w (.bool false) 4 Ds W)) := ⟨_, rfl⟩
  have HLV := hide hLV
  clear hLV
  refine wp_loop LV (fun act _ => ts.length - (intOf (act.tmps.getD 8 undef)).toNat) ?_ ?_
  · rw [unhide HLV]
    exact ⟨0, [], _, _, _, _, _, _, _, _, _, _, _, _, _, _, _, _, _, _, _, _, Nat.zero_le _, fun j h => absurd h (Nat.not_lt_zero _), rfl, K0⟩
  · intro act wr hact
    rw [unhide HLV] at hact
    obtain ⟨k, Ds, u4, u5, u9, u10, u11, u12, u13, u14, u15, u16, u17, u18, u19, u20, u21, u22, u23, u24, u25, u26, hk, hpre, rfl, KS⟩ := hact
    have HPRE := hide hpre
    clear hpre
    by_cases hkl : k < ts.length
    · have hzk : (k : Int) < (ts.length : Int) := by omega
      have hz0 : (0 : Int) ≤ (k : Int) := by omega
      have c4 := unhide HC k hkl
      have hbw := cell_lt c4
      replace c4 := ((unhide KS).bel.cell (p := ⟨b, k, none⟩) hbw).trans c4
      obtain ⟨t, ht⟩ : ∃ t, t = ts.getD k ⟨#[]⟩ := ⟨_, rfl⟩
      rw [← ht] at c4
      have hts : t.size ≤ 20000 := unhide HS t (by rw [ht]; simp [List.getD, hkl])
      have HT := hide ht
      clear ht
      go_wp2_with (go_at_call 25; refine (mkParts _ _).mono ?_; rintro e w4 ⟨rfl, rfl⟩)
      have KW := (unhide KS).keep (Below.one wr (.cells #[.string t] 9))
      have hwz : w.heap.size ≤ wr.heap.size := (unhide KS).bel.size
      have hDB : ∀ D, D ∈ Ds → D < wr.heap.size := fun D hD => blk_lt ((unhide KS).ms D hD).2
      have HST := hide (parts_stops 8 wr.heap.size t hts (wr.alloc (.cells #[.string t] 9)) (by simp) (box1 wr (.string t) 9))
      have hz : (wr.alloc (.cells #[.string t] 9)).heap.size = wr.heap.size + 1 := by simp
      have hok := prtS_ok t
      have HOK := hide hok
      clear hok
      obtain ⟨W4, hW4⟩ : ∃ W4, W4 = wr.alloc (.cells #[.string t] 9) := ⟨_, rfl⟩
      rw [← hW4] at KW HST hz ⊢
      clear hW4
      refine (wpIn_wide (n := 9)).1 ?_
      refine wpIn_rangeFunc_ownG (F := Fence.wide) (n := 9) rfl (by omega) (gf := 29) (lb := #[.pointer (some ⟨wr.heap.size, 0, none⟩)]) rfl trivial (enters_of Try.func29 (by kernel_rfl) rfl)
        (unhide HST) (fun _ _ => trivial) (fun _ _ _ _ _ _ _ _ => trivial) (Below.refl _ _) (fun _ => rfl)
        (fun pre W => Ks w (.bool false) 4 Ds W ∧ allG pre) (fun c pre W => c = .ret ∧ Ks w (.bool false) 4 Ds W ∧ badG pre)
        (fun s A B row hs hg hr => ⟨hs.1.kept hg hr (by omega) (fun D hD => by have := hDB D hD; omega), hs.2⟩)
        (fun c s A B row hs hg hr => ⟨hs.1, hs.2.1.kept hg hr (by omega) (fun D hD => by have := hDB D hD; omega), hs.2.2⟩)
        ⟨KW, fun x hx => by cases hx⟩
        (fun x => { tmps := #[.slice (some ⟨b, 0, none⟩) ts.length cap, undef, .pointer (some ⟨w.heap.size, 0, none⟩), undef, .string t, .string x.1, .slice (some ⟨b, 0, none⟩) ts.length cap, .int .i64 (ts.length : Int), .int .i64 (k : Int), .bool true, .pointer (some ⟨b, k, none⟩), .string t, .string t, .func (.func 29) #[] #[.pointer (some ⟨wr.heap.size, 0, none⟩)], .string x.1, u15, u16, u17, u18, u19, u20, u21, u22, u23, u24, u25, u26], defers := [] }) ?assign ?body ?done ?stop
      case assign =>
        intro lz x W K hK
        unfold enc23
        gi_wp2
        exact hK
      case body =>
        rintro lz pre s W ⟨KW2, hgood⟩ _
        obtain ⟨x, hx⟩ : ∃ x, x = s.1 := ⟨_, rfl⟩
        have hxw : ∀ m : Nat, x.size = m + 1 → wrap64 (m : Int) = m := fun m hm => by
          have := s.2
          rw [← hx] at this
          unfold wrap64
          omega
        rw [← hx]
        have HX := hide hx
        clear hx
        have HK2 := hide KW2
        have HG := hide hgood
        have hxl := bts_len x
        clear KW2 hgood
        by_cases h2 : x.size < 2
        · have z2 : (x.size : Int) < 2 := by omega
          have hb : goodS x = false := by
            unfold goodS goodL
            rw [decide_eq_false (by omega), Bool.false_and]
          have f2 := blk_cell (unhide HK2).res 0
          have f3 := Lib.frozen_of_heap (unhide HK2).res 0
          have HB := hide hb
          clear h2 hb hxl hxw
          gi_wp2
          exact ⟨(KeepsOthers.setCell _ _ _).from _, rfl, (unhide HK2).set _, badG_app (unhide HX) (unhide HB)⟩
        · obtain ⟨m, hm⟩ : ∃ m, x.size = m + 1 := ⟨x.size - 1, by omega⟩
          have hml : m < x.size := by omega
          have z2 : ¬ (x.size : Int) < 2 := by omega
          have zm0 : (0 : Int) ≤ (m : Int) := by omega
          have zml : (m : Int) < (x.size : Int) := by omega
          have zsz : (x.size : Int) - 1 = (m : Int) := by omega
          obtain ⟨q, hq⟩ : ∃ q : Int, (x[m].toNat : Int) = q := ⟨_, rfl⟩
          have hqn := bts_nat x m hml q hq
          have eg : goodS x = ((bts x).getD m 0 == 0) := by
            unfold goodS goodL
            rw [decide_eq_true (by omega), Bool.true_and, hxl, hm, Nat.add_sub_cancel]
          have zw : wrap64 (m : Int) = m := hxw m hm
          by_cases hq0 : q = 0
          · have hb : goodS x = true := by
              rw [eg, beq_iff_eq]
              exact (zero_iff _).1 (by rw [hqn, hq0])
            have HB := hide hb
            subst hq0
            clear h2 hb hxl hm hqn eg hxw
            gi_wp2
            exact ⟨KeepsFrom.gr (Gr.refl _), trivial, unhide HK2, allG_app (unhide HG) (unhide HX) (unhide HB)⟩
          · have hb : goodS x = false := by
              rw [eg, beq_eq_false_iff_ne]
              intro e
              exact hq0 (by rw [← hqn, e]; rfl)
            have f2 := blk_cell (unhide HK2).res 0
            have f3 := Lib.frozen_of_heap (unhide HK2).res 0
            have hq1 : (q == 0) = false := by simpa using hq0
            have HB := hide hb
            clear h2 hb hxl hm hqn eg hq0 hxw
            gi_wp2
            exact ⟨(KeepsOthers.setCell _ _ _).from _, rfl, (unhide HK2).set _, badG_app (unhide HX) (unhide HB)⟩
      case done =>
        rintro D ys W hD hpre ⟨KW2, hgood⟩ hK
        have hb : okK (bts t) = true := by
          rw [← unhide HOK, ← hpre, List.all_eq_true]
          intro y hy
          obtain ⟨x, hx, rfl⟩ := List.mem_map.1 hy
          exact hgood x hx
        have KN := hide (KW2.mark (by omega) hK (fun E hE => by have := hDB E hE; omega))
        have HP2 : Hid (∀ j, j < k + 1 → okK (bts (ts.getD j ⟨#[]⟩)) = true) := fun j hj => by
          rcases Nat.lt_or_ge j k with h | h
          · exact unhide HPRE j h
          · obtain rfl : j = k := by omega
            rw [← unhide HT]
            exact hb
        clear KW2 hgood hK hb hpre
        go_wp2
        refine ⟨by rw [unhide HLV]; exact ⟨k + 1, D :: Ds, _, _, _, _, _, _, _, _, _, _, _, _, _, _, _, _, _, _, _, _, by omega, unhide HP2, rfl, KN⟩, by simp [intOf]; omega⟩
      case stop =>
        rintro D c pre W hD hpre ⟨rfl, KW2, x, hx, hbad⟩ hK
        have hb : (ts.all fun t => okK (bts t)) = false := by
          rw [List.all_eq_false]
          refine ⟨t, by rw [unhide HT]; simp [List.getD, hkl], ?_⟩
          rw [← unhide HOK]
          simp only [Bool.not_eq_true, List.all_eq_false]
          exact ⟨x.1, hpre.subset (List.mem_map.2 ⟨x, hx, rfl⟩), by simp [hbad]⟩
        have KN := KW2.mark (by omega) hK (fun E hE => by have := hDB E hE; omega)
        have ez : false = z := hb.symm.trans (unhide HZ)
        subst ez
        clear hb hpre hx hbad hK KW2
        refine wpIn_wide.2 ?_
        go_wp2
        refine leaves_marks w.heap.size (fun W => W.heap[w.heap.size]? = some (.cells #[.bool false] 4) ∧ Below w.heap.size w W) (fun W D h hD hd => ⟨(World.putObj_heap_other (fun e => by rw [← e, h.1] at hd; cases hd)).trans h.1, h.2.grown (grownBy_putObj' W D _) h.2.size (fun q e => by cases e; exact hD)⟩) (fun W h => ?_) (D :: Ds) W KN.nd KN.ms ⟨KN.res, KN.bel⟩
        exact ⟨_, res_cellb rfl _ _ w.heap.size false rfl (blk_cell h.1 0), rfl, h.2⟩
    · obtain rfl : k = ts.length := by omega
      have hzk : ¬ (ts.length : Int) < (ts.length : Int) := by omega
      have hb : (ts.all fun t => okK (bts t)) = true := by
        rw [List.all_eq_true]
        intro t ht
        obtain ⟨j, hj, rfl⟩ := List.getElem_of_mem ht
        have := unhide HPRE j hj
        simpa [List.getD, hj] using this
      have ez : true = z := hb.symm.trans (unhide HZ)
      subst ez
      have f2 := blk_cell (unhide KS).res 0
      have f3 := Lib.frozen_of_heap (unhide KS).res 0
      have KN := (unhide KS).set (.bool true)
      clear hb
      go_wp2
      refine leaves_marks w.heap.size (fun W => W.heap[w.heap.size]? = some (.cells #[.bool true] 4) ∧ Below w.heap.size w W) (fun W D h hD hd => ⟨(World.putObj_heap_other (fun e => by rw [← e, h.1] at hd; cases hd)).trans h.1, h.2.grown (grownBy_putObj' W D _) h.2.size (fun q e => by cases e; exact hD)⟩) (fun W h => ?_) Ds _ KN.nd KN.ms ⟨KN.res, KN.bel⟩
      exact ⟨_, res_cellb rfl _ _ w.heap.size true rfl (blk_cell h.1 0), rfl, h.2⟩
end Go.Proofs.Ytmemflanfklmpaa
