/- The landed readItem of layer 24. (By gen_ril.py.) -/
import Derived.Test.YthbldkkjjjmegaaGreatDoorM25
import Derived.Test.YthbldkkjjjmegaaGreatDoorM27
import Derived.Test.YthbldkkjjjmegaaGreatDoorM28
import Derived.Test.YthbldkkjjjmegaaGreatDoorM31
import Derived.Test.YthbldkkjjjmegaaGreatDoorM15
namespace Go.Proofs.YthbldkkjjjmegaaGreatDoor
set_option maxRecDepth 100000
open Go.RowKit

/-- What a reading answers: the filter and the rest, or neither. -/
def RfPost (o : Option (Fl × List Int)) (w : World) (e : Ending) (w' : World) : Prop :=
  ∃ x rs e0, e = .returned (.tuple #[x, .string rs, .bool o.isSome]) ∧ FlVP (fun b => w.heap.size ≤ b ∧ b < w'.heap.size) w' e0 x ∧ (∀ f r, o = some (f, r) → f = e0 ∧ nums rs = r) ∧ Below w.heap.size w w'
theorem res_fil3 {fn : Func} {p q s : Tmp} (h : fn.results = #[.cell p 27, .tmp q, .tmp s]) (tmps : Array Value) (w : World) (g : Nat) (a0 a1 a2 a3 a4 a5 a6 a7 a8 a9 a10 : Value) (hp : tmps.getD p undef = .pointer (some ⟨g, 0, none⟩)) (hg : w.heap[g]? = some (.cells #[a0, a1, a2, a3, a4, a5, a6, a7, a8, a9, a10] 27)) :
    (results fn tmps).run Tryz.prog w = .ok (.tuple #[.agg #[a0, a1, a2, a3, a4, a5, a6, a7, a8, a9, a10], tmps.getD q undef, tmps.getD s undef]) w := by
  have hp' : tmps[p]?.getD undef = .pointer (some ⟨g, 0, none⟩) := by simpa using hp
  have hl := run_loadVar_row (P := Tryz.prog) w g 27 27 #[a0, a1, a2, a3, a4, a5, a6, a7, a8, a9, a10] (0, 0) _ hg Tryz.underlying27 rfl (by kernel_rfl)
  simp [results, h, hp', asAddr, hl]
theorem flv_zeroP (P : Nat → Prop) (w : World) : FlVP P w fl0 (.agg #[.int .i64 0, .string ⟨#[]⟩, .string ⟨#[]⟩, .string ⟨#[]⟩, .slice none 0 0, .string ⟨#[]⟩, .bool false, .bool false, .string ⟨#[]⟩, .bool false, .slice none 0 0]) := flv_itm2 P w 0 ⟨#[]⟩ ⟨#[]⟩ ⟨#[]⟩ false
theorem cutS_len : ∀ (l : List Int) (h : List Int) (k : Int) (t : List Int), cutS l = some (h, k, t) → h.length ≤ l.length ∧ t.length < l.length
  | [], h, k, t, e => by cases e
  | c :: u, h, k, t, e => by
    rw [cutS] at e
    cases hs : sgA (c :: u) with
    | some p =>
      obtain ⟨k', r⟩ := p
      rw [hs] at e
      cases e
      refine ⟨by simp, ?_⟩
      unfold sgA at hs
      dsimp only at hs
      split at hs
      · cases hs; simp
      · cases u with
        | nil => cases hs
        | cons d v =>
          dsimp only at hs
          simp only [List.length_cons]
          split at hs
          · split at hs
            · cases hs; omega
            · split at hs
              · cases hs; omega
              · split at hs
                · cases hs; omega
                · split at hs
                  · cases hs; omega
                  · cases hs
          · cases hs
    | none =>
      rw [hs] at e
      dsimp only at e
      cases hc : cutS u with
      | none => rw [hc] at e; cases e
      | some q =>
        rw [hc] at e
        obtain ⟨h', k', t'⟩ := q
        cases e
        have := cutS_len u h' k t hc
        simp only [List.length_cons]
        omega
theorem vals_len : ∀ (n : Nat) (s : List Int) (vs : List (List Int)) (r : List Int), valsV n s = some (vs, r) → 0 < vs.length ∧ vs.length ≤ n
  | 0, s, vs, r, h => by rw [valsV] at h; cases h
  | n + 1, s, vs, r, h => by
    rw [valsV] at h
    cases hv : valV s with
    | none => rw [hv] at h; cases h
    | some p =>
      rw [hv] at h
      dsimp only at h
      split at h
      · cases h; simp
      · cases hw : valsV n (p.2.drop 1) with
        | none => rw [hw] at h; cases h
        | some q =>
          rw [hw] at h
          cases h
          have := vals_len n _ q.1 q.2 hw
          simp only [List.length_cons]
          omega
theorem vals_byt (s : ByteArray) (n : Nat) (vs : List (List Int)) (r : List Int) (h : valsV n (nums s) = some (vs, r)) : byt r := by
  obtain ⟨y, h1, -, -⟩ := vals_some _ _ _ _ h
  intro x hx
  exact nums_bound s x (by rw [h1]; simp [hx])
theorem Tx.at2 {w : World} {B : Nat} {v : Value} {ps : List ByteArray} (h : Tx B v ps w) (hp : 0 < ps.length) : ∃ g c, v = .slice (some ⟨g, 0, none⟩) ps.length c ∧ ps.length ≤ c ∧ ∀ j, j < ps.length → w.cell? ⟨g, j, none⟩ = some (.string (ps.getD j ByteArray.empty)) := by
  obtain ⟨g, c, hv, hc⟩ := h.at hp
  rcases h.2 with ⟨_, h2⟩ | ⟨g2, cap, cur, hv2, _, _, hm, _⟩
  · omega
  · refine ⟨g, c, hv, ?_, hc⟩
    rw [hv] at hv2
    cases hv2
    exact hm
set_option maxRecDepth 4000 in
set_option maxHeartbeats 12800000 in
theorem ritem_land (s : ByteArray) (n : Nat) (w : World) (hL : Ly w) (hs : s.size ≤ 4000) (hn : s.size < n) (hn2 : n ≤ 100000) : Calls Tryz.prog 43 #[.string s] w fun e w' => RfPost (rItm n (nums s)) w e w' := by
  have HR := heap_new w (.cells #[.int .i64 0, .string ⟨#[]⟩, .string ⟨#[]⟩, .string ⟨#[]⟩, .slice none 0 0, .string ⟨#[]⟩, .bool false, .bool false, .string ⟨#[]⟩, .bool false, .slice none 0 0] 27)
  have HB := Below.one w (.cells #[.int .i64 0, .string ⟨#[]⟩, .string ⟨#[]⟩, .string ⟨#[]⟩, .slice none 0 0, .string ⟨#[]⟩, .bool false, .bool false, .string ⟨#[]⟩, .bool false, .slice none 0 0] 27)
  have CC := hide (cuts_land s _ (hL.keep HB) (by omega))
  have hnl := nums_length s
  cases hc : cutS (nums s) with
  | none =>
    have HX : Hid (rItm n (nums s) = none) := by show _ = _; unfold rItm; rw [cutS_none hc]
    rw [hc] at CC
    clear hc hnl
    go_enter Tryz.func43, Tryz.ntmps43
    go_upto_region 2 with (go_at_call 60; refine (unhide CC).mono ?_; rintro e w2 ⟨⟨t, rfl⟩, b2⟩)
    have HR2 := keep_blk HR b2
    have t2 := HB.trans (b2.mono HB.size)
    obtain ⟨m0, m1, m2, m3, m4, m5, m6, m7, m8, m9, m10⟩ := cells11 HR2
    have frR := froz11 HR2
    go_wp2
    refine bodyPost_ret (res_fil3 rfl _ _ w.heap.size (.int .i64 0) (.string ⟨#[]⟩) (.string ⟨#[]⟩) (.string ⟨#[]⟩) (.slice none 0 0) (.string ⟨#[]⟩) (.bool false) (.bool false) (.string ⟨#[]⟩) (.bool false) (.slice none 0 0) rfl (by
      refine put11h (a0 := (.int .i64 0)) (a1 := (.string ⟨#[]⟩)) (a2 := (.string ⟨#[]⟩)) (a3 := (.string ⟨#[]⟩)) (a4 := (.slice none 0 0)) (a5 := (.string ⟨#[]⟩)) (a6 := (.bool false)) (a7 := (.bool false)) (a8 := (.string ⟨#[]⟩)) (a9 := (.bool false)) (a10 := (.slice none 0 0)) ?_
      with_reducible exact HR2)) rfl ?_
    refine ⟨_, ⟨#[]⟩, fl0, by rw [unhide HX]; rfl, flv_zeroP _ _, (fun f r hf => by rw [unhide HX] at hf; cases hf), ?_⟩
    repeat (first | with_reducible exact t2 | refine Below.setCell ?_ (by first | omega | (dsimp only; omega)) _)
  | some q =>
    obtain ⟨h, k, t⟩ := q
    obtain ⟨g0, hcut, hk, hsm⟩ := cutS_some hc
    obtain ⟨hhl, htl⟩ := cutS_len _ _ _ _ hc
    rw [hc] at CC
    have CR := hide (fun (tl : ByteArray) (W : World) (h1 : nums tl = t) (h2 : Ly W) => rvalues24_land tl n W h2 (by rw [← nums_length tl, h1]; omega) (by rw [← nums_length tl, h1]; omega))
    cases hv : valsV n t with
    | none =>
      have HX : Hid (rItm n (nums s) = none) := by show _ = _; unfold rItm; rw [hcut]; dsimp only; rw [hv]
      have HV := hide hv
      have HL := hide hL
      clear hc hnl hcut hk hsm hhl htl hv
      go_enter Tryz.func43, Tryz.ntmps43
      go_upto_region 5 with (first
        | (go_at_call 61; refine (unhide CR _ _ ht2 (unhide HL2)).mono ?_; rintro e w3 ⟨hp3, b3⟩; rw [ht2, unhide HV] at hp3; obtain rfl : e = .returned (.tuple #[.slice none 0 0, .string ⟨#[]⟩, .bool false]) := hp3; have HR3 := keep_blk HR2 b3; have t3 := t2.trans (b3.mono t2.size))
        | (go_at_call 60; refine (unhide CC).mono ?_; rintro e w2 ⟨⟨hd, tl, rfl, hh2, ht2⟩, b2⟩; dsimp only at hh2 ht2; have HR2 := keep_blk HR b2; have t2 := HB.trans (b2.mono HB.size); have HL2 := hide ((unhide HL).keep t2)))
      obtain ⟨m0, m1, m2, m3, m4, m5, m6, m7, m8, m9, m10⟩ := cells11 HR3
      have frR := froz11 HR3
      clear HR2 HR CC CR ht2 hh2
      go_wp2
      refine bodyPost_ret (res_fil3 rfl _ _ w.heap.size (.int .i64 0) (.string ⟨#[]⟩) (.string ⟨#[]⟩) (.string ⟨#[]⟩) (.slice none 0 0) (.string ⟨#[]⟩) (.bool false) (.bool false) (.string ⟨#[]⟩) (.bool false) (.slice none 0 0) rfl (by
        refine put11h (a0 := (.int .i64 0)) (a1 := (.string ⟨#[]⟩)) (a2 := (.string ⟨#[]⟩)) (a3 := (.string ⟨#[]⟩)) (a4 := (.slice none 0 0)) (a5 := (.string ⟨#[]⟩)) (a6 := (.bool false)) (a7 := (.bool false)) (a8 := (.string ⟨#[]⟩)) (a9 := (.bool false)) (a10 := (.slice none 0 0)) ?_
        with_reducible exact HR3)) rfl ?_
      refine ⟨_, ⟨#[]⟩, fl0, by rw [unhide HX]; rfl, flv_zeroP _ _, (fun f r hf => by rw [unhide HX] at hf; cases hf), ?_⟩
      repeat (first | with_reducible exact t3 | refine Below.setCell ?_ (by first | omega | (dsimp only; omega)) _)
    | some y =>
      obtain ⟨vs, r⟩ := y
      obtain ⟨hv0, hvn⟩ := vals_len _ _ _ _ hv
      obtain ⟨hs1, hhs⟩ : ∃ hs1, hs1 = strOfNums (h.map smlC) := ⟨_, rfl⟩
      have HX : Hid (rItm n (nums s) = (itmL (hdL g0) k vs).map fun f => (f, r)) := by show _ = _; unfold rItm; rw [hcut]; dsimp only; rw [hv, hk]
      have HV := hide hv
      have HL := hide hL
      have CSm : Hid (∀ (hd : ByteArray) (W : World), nums hd = h → Calls Tryz.prog 63 #[.string hd] W fun e w' => e = .returned (.string hs1) ∧ Below W.heap.size W w') := fun hd W h1 => by
        have := small24_land hd W (by rw [← nums_length hd, h1]; omega)
        rwa [h1, ← hhs] at this
      have CI : Hid (∀ (ps : List ByteArray) (g c : Nat) (W : World), nums hs1 = hdL g0 → ps.map nums = vs → Ly W → ps.length ≤ c → (∀ j, j < ps.length → W.cell? ⟨g, j, none⟩ = some (.string (ps.getD j ByteArray.empty))) → Calls Tryz.prog 62 #[.string hs1, .int .i64 k, .slice (some ⟨g, 0, none⟩) ps.length c] W fun e w' => ItPost (itmL (hdL g0) k vs) W e w') := fun ps g c W h0 h1 h2 h3 h4 => by
        have hpl : ps.length = vs.length := by rw [← h1, List.length_map]
        have := it_land hs1 k ps g c W h2 (by rw [← nums_length hs1, h0, ← hsm, List.length_map]; omega) (by omega) (by omega) h3 h4
        rwa [h0, h1] at this
      have HS1 : Hid (∀ hd : ByteArray, nums hd = h → nums hs1 = hdL g0) := fun hd h1 => by
        rw [hhs, ← hsm, nums_strOfNums]
        intro x hx
        obtain ⟨z, hz, rfl⟩ := List.mem_map.1 hx
        have := nums_bound hd z (by rw [h1]; exact hz)
        unfold smlC
        split <;> omega
      have HPS : Hid (∀ ps : List ByteArray, ps.map nums = vs → 0 < ps.length) := fun ps h1 => by rw [← h1, List.length_map] at hv0; exact hv0
      have HBR : Hid (∀ tl : ByteArray, nums tl = t → nums (strOfNums r) = r) := fun tl h1 => nums_strOfNums r (vals_byt tl n vs r (by rw [h1]; exact unhide HV))
      clear hc hnl hcut hk hsm hhl htl hv hv0 hvn hhs
      go_enter Tryz.func43, Tryz.ntmps43
      go_upto_region 8 with (first
        | (go_at_call 62; refine (unhide CI ps g9 c9 _ (unhide HS1 _ hh2) hps ((unhide HL).keep t4) hcap hcel).mono ?_; rintro e w5 ⟨x, e4, rfl, hx, hfe, b5⟩; obtain ⟨x1, y1, x2, y2, rfl, -⟩ := hx.flv.open; have HR5 := keep_blk HR4 b5; have t5 := t4.trans (b5.mono t4.size); have HXX := hide hx; have HFE := hide hfe; clear hx hfe)
        | (go_at_call 63; refine (unhide CSm _ _ hh2).mono ?_; rintro e w4 ⟨rfl, b4⟩; have HR4 := keep_blk HR3 b4; have t4 := t3.trans (b4.mono t3.size); have hcel := (fun j hj => (b4.cell (cell_lt (hc3 j hj))).trans (hc3 j hj)))
        | (go_at_call 61; refine (unhide CR _ _ ht2 (unhide HL2)).mono ?_; rintro e w3 ⟨hp3, b3⟩; rw [ht2, unhide HV] at hp3; obtain ⟨v3, ps, rfl, hT, hps⟩ := hp3; dsimp only at hps; have hps0 := unhide HPS _ hps; obtain ⟨g9, c9, rfl, hcap, hc3⟩ := hT.at2 hps0; have HR3 := keep_blk HR2 b3; have t3 := t2.trans (b3.mono t2.size))
        | (go_at_call 60; refine (unhide CC).mono ?_; rintro e w2 ⟨⟨hd, tl, rfl, hh2, ht2⟩, b2⟩; dsimp only at hh2 ht2; have HR2 := keep_blk HR b2; have t2 := HB.trans (b2.mono HB.size); have HL2 := hide ((unhide HL).keep t2)))
      have HBX := heap_new w5 (.cells (cFl e4.kin e4.nam e4.val e4.ini x1 e4.any.length y1 e4.fin e4.hi e4.hf e4.rul e4.dn x2 e4.kids.length y2) 27)
      have HR6 := keep_blk HR5 (Below.one w5 (.cells (cFl e4.kin e4.nam e4.val e4.ini x1 e4.any.length y1 e4.fin e4.hi e4.hf e4.rul e4.dn x2 e4.kids.length y2) 27))
      have t6 := t5.trans ((Below.one w5 (.cells (cFl e4.kin e4.nam e4.val e4.ini x1 e4.any.length y1 e4.fin e4.hi e4.hf e4.rul e4.dn x2 e4.kids.length y2) 27)).mono t5.size)
      have hz5 := blk_lt24 HR5
      have hz4 := t4.size
      have HXP : Hid (FlVP (fun b => w.heap.size < b ∧ b < w5.heap.size) (w5.alloc (.cells (cFl e4.kin e4.nam e4.val e4.ini x1 e4.any.length y1 e4.fin e4.hi e4.hf e4.rul e4.dn x2 e4.kids.length y2) 27)) e4 (.agg #[.int .i64 e4.kin, .string e4.nam, .string e4.val, .string e4.ini, .slice x1 e4.any.length y1, .string e4.fin, .bool e4.hi, .bool e4.hf, .string e4.rul, .bool e4.dn, .slice x2 e4.kids.length y2])) := (unhide HXX).mono (fun b hb => ⟨by have z := blk_lt24 HR4; omega, hb.2⟩) (fun b hb => (Below.one w5 (.cells (cFl e4.kin e4.nam e4.val e4.ini x1 e4.any.length y1 e4.fin e4.hi e4.hf e4.rul e4.dn x2 e4.kids.length y2) 27)).block b hb.2)
      have HRB := hide (unhide HBR _ ht2)
      have hg5 : ¬ w.heap.size = w5.heap.size := by omega
      have hg6 : ¬ w5.heap.size = w.heap.size := by omega
      clear HXX HR5 HR4 HR3 HR2 HR t5 t4 t3 t2 CC CR CSm CI HS1 HPS HBR hz5 hz4 b5 b4 b3 b2 HB hcel hc3 hT ht2 hh2 hps hps0 hcap HL2 HL
      have HSZ : Hid (w5.heap.size < (w5.alloc (.cells (cFl e4.kin e4.nam e4.val e4.ini x1 e4.any.length y1 e4.fin e4.hi e4.hf e4.rul e4.dn x2 e4.kids.length y2) 27)).heap.size) := by show _ < _; rw [World.size_alloc]; omega
      generalize w5.alloc (.cells (cFl e4.kin e4.nam e4.val e4.ini x1 e4.any.length y1 e4.fin e4.hi e4.hf e4.rul e4.dn x2 e4.kids.length y2) 27) = w6 at *
      obtain ⟨m0, m1, m2, m3, m4, m5, m6, m7, m8, m9, m10⟩ := cells11 HR6
      obtain ⟨k0, k1, k2, k3, k4, k5, k6, k7, k8, k9, k10⟩ := cells11 HBX
      have frR := froz11 HR6
      go_wp2
      refine bodyPost_ret (res_fil3 rfl _ _ w.heap.size (.int .i64 e4.kin) (.string e4.nam) (.string e4.val) (.string e4.ini) (.slice x1 e4.any.length y1) (.string e4.fin) (.bool e4.hi) (.bool e4.hf) (.string e4.rul) (.bool e4.dn) (.slice x2 e4.kids.length y2) rfl (by
        refine put11h (a0 := (.int .i64 0)) (a1 := (.string ⟨#[]⟩)) (a2 := (.string ⟨#[]⟩)) (a3 := (.string ⟨#[]⟩)) (a4 := (.slice none 0 0)) (a5 := (.string ⟨#[]⟩)) (a6 := (.bool false)) (a7 := (.bool false)) (a8 := (.string ⟨#[]⟩)) (a9 := (.bool false)) (a10 := (.slice none 0 0)) ?_
        with_reducible exact HR6)) rfl ?_
      refine ⟨_, _, e4, by rw [unhide HX, Option.isSome_map]; rfl, (unhide HXP).mono (fun b hb => ⟨Nat.le_of_lt hb.1, by have z := unhide HSZ; have y := hb.2; simp only [World.setCell]; simpa using (by omega : b < w6.heap.size)⟩) (fun b hb => by
        have hne : b ≠ w.heap.size := by have := hb.1; omega
        repeat (first | with_reducible rfl | refine (Below.heap_setCell _ _ _ _ hne).trans ?_)), (fun f r' hf => by
        rw [unhide HX] at hf
        cases hi : itmL (hdL g0) k vs with
        | none => rw [hi] at hf; cases hf
        | some f' => rw [hi] at hf; cases hf; exact ⟨unhide HFE f hi, unhide HRB⟩), ?_⟩
      repeat (first | with_reducible exact t6 | refine Below.setCell ?_ (by first | omega | (dsimp only; omega)) _)
end Go.Proofs.YthbldkkjjjmegaaGreatDoor
/- The document's take of layer 24. (By gen_tk.py.) -/
namespace Go.Proofs.YthbldkkjjjmegaaGreatDoor
set_option maxRecDepth 100000
open Go.RowKit

/-- What take answers: a filter, the place behind it, how many parts were begun; or none. -/
def TkPost (o : Option (Fl × List Int × Nat)) (s : ByteArray) (a : Nat) (w : World) (e : Ending) (w' : World) : Prop :=
  match o with
  | none => ∃ p : Int, e = .returned (.tuple #[.agg #[.int .i64 0, .string ⟨#[]⟩, .string ⟨#[]⟩, .string ⟨#[]⟩, .slice none 0 0, .string ⟨#[]⟩, .bool false, .bool false, .string ⟨#[]⟩, .bool false, .slice none 0 0], .int .i64 (-1), .int .i64 p]) ∧ Below w.heap.size w w'
  | some (f, r, q) => ∃ v, ∃ t : Nat, e = .returned (.tuple #[v, .int .i64 (t : Int), .int .i64 (q : Int)]) ∧ a < t ∧ t ≤ s.size ∧ (nums s).drop t = r ∧ FlVP (fun b => w.heap.size ≤ b ∧ b < w'.heap.size) w' f v ∧ Below w.heap.size w w'
def TkOf (m : Nat) : Prop := ∀ (s : ByteArray) (a p : Nat) (w : World), s.size ≤ 4000 → a ≤ s.size → p ≤ 1000 → Calls Tryz.prog 28 #[.string s, .int .i64 (a : Int), .int .i64 (9 - (m : Int)), .int .i64 (p : Int)] w fun e w' => TkPost (takeL m p ((nums s).drop a)) s a w e w'
theorem kidsG_q (tk : Nat → List Int → Option (Fl × List Int × Nat)) (htk : ∀ p s f r q, tk p s = some (f, r, q) → q ≤ 60) : ∀ (n p : Nat) (acc : List Fl) (s : List Int) (l : List Fl) (r : List Int) (q : Nat), p ≤ 60 → kidsG tk n p acc s = some (l, r, q) → q ≤ 60
  | 0, p, acc, s, l, r, q, _, h => by rw [kidsG] at h; cases h
  | n + 1, p, acc, s, l, r, q, hp, h => by
    rw [kidsG.eq_def] at h
    dsimp only at h
    cases s with
    | nil => cases h
    | cons c t =>
      dsimp only at h
      by_cases hc : c = 41
      · rw [if_pos hc] at h; cases h; exact hp
      · rw [if_neg hc] at h
        cases ht : tk p (c :: t) with
        | none => rw [ht] at h; cases h
        | some x =>
          obtain ⟨k, r2, p2⟩ := x
          rw [ht] at h
          exact kidsG_q tk htk n p2 _ _ l r q (htk _ _ _ _ _ ht) h
theorem takeL_q : ∀ (m p : Nat) (s : List Int) (f : Fl) (r : List Int) (q : Nat), takeL m p s = some (f, r, q) → q ≤ 60
  | 0, p, s, f, r, q, h => by rw [takeL] at h; cases h
  | m + 1, p, s, f, r, q, h => by
    rw [takeL.eq_def] at h
    dsimp only at h
    by_cases h60 : 60 < p + 1
    · rw [if_pos h60] at h; cases h
    rw [if_neg h60] at h
    cases s with
    | nil => cases h
    | cons c t =>
      dsimp only at h
      by_cases hc : c ≠ 40
      · rw [if_pos hc] at h; cases h
      · rw [if_neg hc] at h
        by_cases hb : 0 ≤ boolK (t.getD 0 0)
        · rw [if_pos hb] at h
          cases hg : kidsG (takeL m) (t.length + 1) (p + 1) [] (t.drop 1) with
          | none => rw [hg] at h; cases h
          | some x => rw [hg] at h; cases h; exact kidsG_q (takeL m) (fun p s f r q => takeL_q m p s f r q) _ _ _ _ _ _ _ (by omega) hg
        · rw [if_neg hb] at h
          cases h41 : cutL 41 t with
          | none => rw [h41] at h; cases h
          | some x =>
            obtain ⟨y, r'⟩ := x
            rw [h41] at h
            dsimp only at h
            cases hi : itemP y with
            | none => rw [hi] at h; cases h
            | some g => rw [hi] at h; cases h; omega
theorem takeL_zero (p : Nat) (l : List Int) : takeL 0 p l = none := by rw [takeL]
theorem takeL_many {m p : Nat} {l : List Int} (h : 60 < p + 1) : takeL (m + 1) p l = none := by rw [takeL.eq_def]; dsimp only; rw [if_pos h]
theorem takeL_nil (m p : Nat) : takeL (m + 1) p [] = none := by
  rw [takeL.eq_def]; dsimp only
  split <;> rfl
theorem takeL_bad {m p : Nat} {c : Int} {l : List Int} (h : c ≠ 40) : takeL (m + 1) p (c :: l) = none := by
  rw [takeL.eq_def]; dsimp only
  split <;> first | rfl | rw [if_pos h]
theorem takeL_kids {m p : Nat} {l : List Int} (h : ¬ 60 < p + 1) (hb : 0 ≤ boolK (l.getD 0 0)) : takeL (m + 1) p (40 :: l) = (kidsG (takeL m) (l.length + 1) (p + 1) [] (l.drop 1)).map fun x => (kndF (boolK (l.getD 0 0)) x.1, x.2.1, x.2.2) := by
  rw [takeL.eq_def]; dsimp only
  rw [if_neg h, if_neg (by decide), if_pos hb]
theorem takeL_item {m p : Nat} {l : List Int} (h : ¬ 60 < p + 1) (hb : ¬ 0 ≤ boolK (l.getD 0 0)) : takeL (m + 1) p (40 :: l) = match cutL 41 l with
    | none => none
    | some (x, r) => (itemP x).map fun g => (g, r, p + 1) := by
  rw [takeL.eq_def]; dsimp only
  rw [if_neg h, if_neg (by decide), if_neg hb]
  rfl
theorem two_blk (w : World) (a b : Obj) : ((w.alloc a).alloc b).heap[w.heap.size]? = some a := keep_blk (heap_new w a) (Below.one _ _)
theorem two_below (w : World) (a b : Obj) : Below w.heap.size w ((w.alloc a).alloc b) := ((Gr.one w a).alloc b).below
/-- What is known behind the start: the answer's box, the empty filter's, the new filter's with its kids. -/
structure TkW (B : Nat) (w0 : World) (va : Value) (acc : List Fl) (kd : Int) (W : World) : Prop where
  res : W.heap[B]? = some (.cells #[.int .i64 0, .string ⟨#[]⟩, .string ⟨#[]⟩, .string ⟨#[]⟩, .slice none 0 0, .string ⟨#[]⟩, .bool false, .bool false, .string ⟨#[]⟩, .bool false, .slice none 0 0] 27)
  non : W.heap[B + 1]? = some (.cells #[.int .i64 0, .string ⟨#[]⟩, .string ⟨#[]⟩, .string ⟨#[]⟩, .slice none 0 0, .string ⟨#[]⟩, .bool false, .bool false, .string ⟨#[]⟩, .bool false, .slice none 0 0] 27)
  box : W.heap[B + 2]? = some (.cells #[.int .i64 kd, .string ⟨#[]⟩, .string ⟨#[]⟩, .string ⟨#[]⟩, .slice none 0 0, .string ⟨#[]⟩, .bool false, .bool false, .string ⟨#[]⟩, .bool false, va] 27)
  kids : Ko (B + 3) va acc W
  bel : Below B w0 W
  siz : B + 2 < W.heap.size
theorem tkw_start (w : World) (kd : Int) : TkW w.heap.size w (.slice none 0 0) [] kd (((w.alloc (.cells #[.int .i64 0, .string ⟨#[]⟩, .string ⟨#[]⟩, .string ⟨#[]⟩, .slice none 0 0, .string ⟨#[]⟩, .bool false, .bool false, .string ⟨#[]⟩, .bool false, .slice none 0 0] 27)).alloc (.cells #[.int .i64 0, .string ⟨#[]⟩, .string ⟨#[]⟩, .string ⟨#[]⟩, .slice none 0 0, .string ⟨#[]⟩, .bool false, .bool false, .string ⟨#[]⟩, .bool false, .slice none 0 0] 27)).alloc (.cells #[.int .i64 kd, .string ⟨#[]⟩, .string ⟨#[]⟩, .string ⟨#[]⟩, .slice none 0 0, .string ⟨#[]⟩, .bool false, .bool false, .string ⟨#[]⟩, .bool false, .slice none 0 0] 27)) := by
  refine ⟨keep_blk (two_blk w _ _) (Below.one _ _), ?_, ?_, Ko.nil _ _, (((Gr.one w _).alloc _).alloc _).below, by simp⟩
  · have h := keep_blk (heap_new (w.alloc (.cells #[.int .i64 0, .string ⟨#[]⟩, .string ⟨#[]⟩, .string ⟨#[]⟩, .slice none 0 0, .string ⟨#[]⟩, .bool false, .bool false, .string ⟨#[]⟩, .bool false, .slice none 0 0] 27)) (.cells #[.int .i64 0, .string ⟨#[]⟩, .string ⟨#[]⟩, .string ⟨#[]⟩, .slice none 0 0, .string ⟨#[]⟩, .bool false, .bool false, .string ⟨#[]⟩, .bool false, .slice none 0 0] 27)) (Below.one _ (.cells #[.int .i64 kd, .string ⟨#[]⟩, .string ⟨#[]⟩, .string ⟨#[]⟩, .slice none 0 0, .string ⟨#[]⟩, .bool false, .bool false, .string ⟨#[]⟩, .bool false, .slice none 0 0] 27))
    rwa [World.size_alloc] at h
  · have h := heap_new ((w.alloc (.cells #[.int .i64 0, .string ⟨#[]⟩, .string ⟨#[]⟩, .string ⟨#[]⟩, .slice none 0 0, .string ⟨#[]⟩, .bool false, .bool false, .string ⟨#[]⟩, .bool false, .slice none 0 0] 27)).alloc (.cells #[.int .i64 0, .string ⟨#[]⟩, .string ⟨#[]⟩, .string ⟨#[]⟩, .slice none 0 0, .string ⟨#[]⟩, .bool false, .bool false, .string ⟨#[]⟩, .bool false, .slice none 0 0] 27)) (.cells #[.int .i64 kd, .string ⟨#[]⟩, .string ⟨#[]⟩, .string ⟨#[]⟩, .slice none 0 0, .string ⟨#[]⟩, .bool false, .bool false, .string ⟨#[]⟩, .bool false, .slice none 0 0] 27)
    rwa [World.size_alloc, World.size_alloc] at h
theorem TkW.grow {B : Nat} {w0 : World} {va : Value} {acc : List Fl} {kd : Int} {W W2 : World} (h : TkW B w0 va acc kd W) (b : Below W.heap.size W W2) : TkW B w0 va acc kd W2 :=
  ⟨keep_blk h.res b, keep_blk h.non b, keep_blk h.box b, h.kids.below b, h.bel.trans (b.mono (by have := h.siz; omega)), Nat.lt_of_lt_of_le h.siz b.size⟩
theorem put10h {W : World} {g : Nat} {a0 a1 a2 a3 a4 a5 a6 a7 a8 a9 a10 b1 : Value} {T : TypeId} (h : W.heap[g]? = some (.cells #[a0, a1, a2, a3, a4, a5, a6, a7, a8, a9, a10] T)) : (W.setCell ⟨g, 10, none⟩ b1).heap[g]? = some (.cells #[a0, a1, a2, a3, a4, a5, a6, a7, a8, a9, b1] T) := by
  simp [World.setCell, Array.getElem?_modify, h]
theorem size_set24 (W : World) (a : Addr) (v : Value) : (W.setCell a v).heap.size = W.heap.size := by simp [World.setCell]
theorem TkW.set {B : Nat} {w0 : World} {va v2 : Value} {acc acc2 : List Fl} {kd : Int} {W w9 : World} (h : TkW B w0 va acc kd W) (b : Below (B + 3) W w9) (hk : Ko (B + 3) v2 acc2 w9) : TkW B w0 v2 acc2 kd (w9.setCell ⟨B + 2, 10, none⟩ v2) := by
  refine ⟨?_, ?_, put10h ((b.block (B + 2) (by omega)).trans h.box), ?_, ?_, ?_⟩
  · rw [Below.heap_setCell _ _ _ _ (by show B ≠ B + 2; omega)]; exact (b.block B (by omega)).trans h.res
  · rw [Below.heap_setCell _ _ _ _ (by show B + 1 ≠ B + 2; omega)]; exact (b.block (B + 1) (by omega)).trans h.non
  · refine hk.kept (by rw [size_set24]; exact Nat.le_refl _) fun k h1 _ => Below.heap_setCell _ _ _ _ (by show k ≠ B + 2; omega)
  · exact Below.setCell (h.bel.trans (b.mono (by omega))) (by show B ≤ B + 2; omega) _
  · rw [size_set24]; exact Nat.lt_of_lt_of_le h.siz b.size
set_option maxRecDepth 4000 in
set_option maxHeartbeats 12800000 in
theorem take_deep : TkOf 0 := by
  intro s a p w hs ha hp
  have HX : Hid (takeL 0 p ((nums s).drop a) = none) := takeL_zero _ _
  have z9 : (8 : Int) < 9 - ((0 : Nat) : Int) := by omega
  have zp : IntKind.i64.wrap ((p : Int) + 1) = (p : Int) + 1 := wrap_in (by omega) (by omega)
  clear hs ha hp
  go_enter Tryz.func28, Tryz.ntmps28
  go_wp2
  refine bodyPost_ret (res_fil3 rfl _ _ w.heap.size (.int .i64 0) (.string ⟨#[]⟩) (.string ⟨#[]⟩) (.string ⟨#[]⟩) (.slice none 0 0) (.string ⟨#[]⟩) (.bool false) (.bool false) (.string ⟨#[]⟩) (.bool false) (.slice none 0 0) rfl (two_blk _ _ _)) rfl ?_
  rw [unhide HX]
  exact ⟨_, rfl, two_below _ _ _⟩
set_option maxRecDepth 4000 in
set_option maxHeartbeats 25600000 in
theorem take_any : ∀ m, m ≤ 8 → TkOf m := by
  intro m
  induction m with
  | zero => exact fun _ => take_deep
  | succ m IH0 =>
    intro hm s a p w hs ha hp
    have IH := IH0 (by omega)
    clear IH0
    have z9 : ¬ (8 : Int) < 9 - ((m + 1 : Nat) : Int) := by omega
    have zp : IntKind.i64.wrap ((p : Int) + 1) = (p : Int) + 1 := wrap_in (by omega) (by omega)
    have zl : IntKind.i64.wrap (9 - ((m + 1 : Nat) : Int) + 1) = 9 - (m : Int) := by rw [wrap_in (by omega) (by omega)]; omega
    have za0 : (0 : Int) ≤ (a : Int) := by omega
    by_cases h60 : 60 < p + 1
    · have HX : Hid (takeL (m + 1) p ((nums s).drop a) = none) := takeL_many h60
      have zp2 : (60 : Int) < (p : Int) + 1 := by omega
      clear hs ha hp IH hm h60 zl
      generalize 9 - ((m + 1 : Nat) : Int) = lv at *
      go_enter Tryz.func28, Tryz.ntmps28
      go_wp2
      refine bodyPost_ret (res_fil3 rfl _ _ w.heap.size (.int .i64 0) (.string ⟨#[]⟩) (.string ⟨#[]⟩) (.string ⟨#[]⟩) (.slice none 0 0) (.string ⟨#[]⟩) (.bool false) (.bool false) (.string ⟨#[]⟩) (.bool false) (.slice none 0 0) rfl (two_blk _ _ _)) rfl ?_
      rw [unhide HX]
      exact ⟨_, rfl, two_below _ _ _⟩
    have zp2 : ¬ (60 : Int) < (p : Int) + 1 := by omega
    by_cases hal : ¬ a < s.size
    · have HX : Hid (takeL (m + 1) p ((nums s).drop a) = none) := by show _ = _; rw [List.drop_eq_nil_of_le (by rw [nums_length]; omega)]; exact takeL_nil _ _
      have zal : (s.size : Int) ≤ (a : Int) := by omega
      clear hs ha hp IH hm h60 zl hal
      generalize 9 - ((m + 1 : Nat) : Int) = lv at *
      go_enter Tryz.func28, Tryz.ntmps28
      go_wp2
      refine bodyPost_ret (res_fil3 rfl _ _ w.heap.size (.int .i64 0) (.string ⟨#[]⟩) (.string ⟨#[]⟩) (.string ⟨#[]⟩) (.slice none 0 0) (.string ⟨#[]⟩) (.bool false) (.bool false) (.string ⟨#[]⟩) (.bool false) (.slice none 0 0) rfl (two_blk _ _ _)) rfl ?_
      rw [unhide HX]
      exact ⟨_, rfl, two_below _ _ _⟩
    replace hal : a < s.size := Classical.not_not.1 hal
    have zal : ¬ (s.size : Int) ≤ (a : Int) := by omega
    have zal2 : (a : Int) < (s.size : Int) := by omega
    obtain ⟨c, hc⟩ : ∃ c : Int, (s[a].toNat : Int) = c := ⟨_, rfl⟩
    have hat : (nums s).getD a 0 = c := by rw [nums_at s a hal]; exact hc
    have hcons : (nums s).drop a = c :: (nums s).drop (a + 1) := by rw [drop_consI (nums s) a (by rw [nums_length]; exact hal), hat]
    by_cases h40 : ¬ c = 40
    · have g40 : (c == 40) = false := by rw [beq_eq_false_iff_ne]; exact h40
      have HX : Hid (takeL (m + 1) p ((nums s).drop a) = none) := by show _ = _; rw [hcons]; exact takeL_bad h40
      clear hs ha hp IH hm h60 zl hat hcons h40
      generalize 9 - ((m + 1 : Nat) : Int) = lv at *
      go_enter Tryz.func28, Tryz.ntmps28
      go_wp2
      refine bodyPost_ret (res_fil3 rfl _ _ w.heap.size (.int .i64 0) (.string ⟨#[]⟩) (.string ⟨#[]⟩) (.string ⟨#[]⟩) (.slice none 0 0) (.string ⟨#[]⟩) (.bool false) (.bool false) (.string ⟨#[]⟩) (.bool false) (.slice none 0 0) rfl (two_blk _ _ _)) rfl ?_
      rw [unhide HX]
      exact ⟨_, rfl, two_below _ _ _⟩
    replace h40 : c = 40 := Classical.not_not.1 h40
    rw [h40] at hcons
    subst h40
    obtain ⟨a1, ha1⟩ : ∃ a1, a1 = a + 1 := ⟨_, rfl⟩
    rw [← ha1] at hcons
    have hd0 : ((nums s).drop a1).getD 0 0 = (nums s).getD a1 0 := getD_drop0 _ _
    have za1 : IntKind.i64.wrap ((a : Int) + 1) = (a1 : Int) := by rw [wrap_in (by omega) (by omega)]; omega
    have z10 : (0 : Int) ≤ (a1 : Int) := by omega
    have hnl := hide (nums_length s)
    have haa1 : a < a1 := by omega
    have ha1s : a1 ≤ s.size := by omega
    have HA1 := hide ha1
    clear ha1
    by_cases hal1 : ¬ a1 < s.size
    · have HX : Hid (takeL (m + 1) p ((nums s).drop a) = none) := by
        show _ = _
        rw [hcons, takeL_item h60 (by rw [hd0, List.getD, List.getElem?_eq_none (by rw [unhide hnl]; omega)]; decide), List.drop_eq_nil_of_le (by rw [unhide hnl]; omega)]
        rfl
      have z11 : ¬ (a1 : Int) < (s.size : Int) := by omega
      have z1s : (s.size : Int) ≤ (a1 : Int) := by omega
      have HZ := hide (tkw_start w (-1))
      clear hs ha hp IH hm h60 zl hat hcons hd0 hnl hal1
      generalize 9 - ((m + 1 : Nat) : Int) = lv at *
      go_enter Tryz.func28, Tryz.ntmps28
      go_wp2
      go_loopw [13] (fun vi wr => vi = .int .i64 (a1 : Int) ∧ Hid (TkW w.heap.size w (.slice none 0 0) [] (-1) wr)) (fun _ _ => 0)
      case atStart => exact ⟨rfl, HZ⟩
      case round =>
        obtain ⟨rfl, HW⟩ := hrel
        clear HZ
        have hR := (unhide HW).res
        have hN := (unhide HW).non
        have hB := (unhide HW).bel
        clear HW
        obtain ⟨m0, m1, m2, m3, m4, m5, m6, m7, m8, m9, m10⟩ := cells11 hR
        obtain ⟨k0, k1, k2, k3, k4, k5, k6, k7, k8, k9, k10⟩ := cells11 hN
        have frR := froz11 hR
        go_wp2
        refine bodyPost_ret (res_fil3 rfl _ _ w.heap.size (.int .i64 0) (.string ⟨#[]⟩) (.string ⟨#[]⟩) (.string ⟨#[]⟩) (.slice none 0 0) (.string ⟨#[]⟩) (.bool false) (.bool false) (.string ⟨#[]⟩) (.bool false) (.slice none 0 0) rfl (by
          refine put11h (a0 := (.int .i64 0)) (a1 := (.string ⟨#[]⟩)) (a2 := (.string ⟨#[]⟩)) (a3 := (.string ⟨#[]⟩)) (a4 := (.slice none 0 0)) (a5 := (.string ⟨#[]⟩)) (a6 := (.bool false)) (a7 := (.bool false)) (a8 := (.string ⟨#[]⟩)) (a9 := (.bool false)) (a10 := (.slice none 0 0)) ?_
          with_reducible exact hR)) rfl ?_
        rw [unhide HX]
        refine ⟨_, rfl, ?_⟩
        repeat (first | with_reducible exact hB | refine Below.setCell ?_ (by first | omega | (dsimp only; omega)) _)
    replace hal1 : a1 < s.size := Classical.not_not.1 hal1
    have z11 : (a1 : Int) < (s.size : Int) := by omega
    obtain ⟨a2, ha2⟩ : ∃ a2, a2 = a1 + 1 := ⟨_, rfl⟩
    have za2 : IntKind.i64.wrap ((a1 : Int) + 1) = (a2 : Int) := by rw [wrap_in (by omega) (by omega)]; omega
    have haa2 : a1 < a2 := by omega
    have ha2s : a2 ≤ s.size := by omega
    have HA2 := hide ha2
    clear ha2
    obtain ⟨d, hd⟩ : ∃ d : Int, (s[a1].toNat : Int) = d := ⟨_, rfl⟩
    have hdt : (nums s).getD a1 0 = d := by rw [nums_at s a1 hal1]; exact hd
    rw [hdt] at hd0
    have CB := hide (fun W => rbool24_any d W)
    obtain ⟨kd, hkd⟩ : ∃ kd, kd = boolK d := ⟨_, rfl⟩
    rw [← hkd] at CB
    have HZ := hide (tkw_start w kd)
    by_cases hb : ¬ 0 ≤ kd
    · have hX : takeL (m + 1) p ((nums s).drop a) = match cutL 41 ((nums s).drop a1) with
          | none => none
          | some (x, r) => (itemP x).map fun g => (g, r, p + 1) := by rw [hcons]; exact takeL_item h60 (by rw [hd0, ← hkd]; exact hb)
      have HX := hide hX
      have zkd : kd < 0 := by omega
      have HIT := hide (fun (i : Nat) (W : World) => ritem_any (s.extract a1 i) W (by rw [ByteArray.size_extract]; omega))
      have hs4 := hide hs
      clear hX hcons hd0 hb hat IH hp hm h60 zl hkd hdt
      generalize 9 - ((m + 1 : Nat) : Int) = lv at *
      go_enter Tryz.func28, Tryz.ntmps28
      go_upto_region 9 with (go_at_call 45; refine (unhide CB _).mono ?_; rintro e w2 ⟨rfl, rfl⟩)
      clear CB
      skip
      go_wp2
      go_loopw [13] (fun vi wr => ∃ i : Nat, vi = .int .i64 (i : Int) ∧ a1 ≤ i ∧ i ≤ s.size ∧ Hid (∀ x ∈ ((nums s).drop a1).take (i - a1), x ≠ 41) ∧ Hid (TkW w.heap.size w (.slice none 0 0) [] kd wr)) (fun i _ => s.size - (intOf i).toNat)
      case atStart => exact ⟨a1, rfl, Nat.le_refl _, by omega, by show ∀ x ∈ ((nums s).drop a1).take (a1 - a1), x ≠ 41; rw [Nat.sub_self]; simp, HZ⟩
      case round =>
        obtain ⟨i, rfl, hai, his, HT, HW⟩ := hrel
        clear HZ
        have zi0 : (0 : Int) ≤ (i : Int) := by omega
        have hR := (unhide HW).res
        have hN := (unhide HW).non
        have hB := (unhide HW).bel
        have hsz := (unhide HW).siz
        have zai : (a1 : Int) ≤ (i : Int) := by omega
        have zis : (i : Int) ≤ (s.size : Int) := by omega
        by_cases hlt : i < s.size
        · have zil : (i : Int) < (s.size : Int) := by omega
          obtain ⟨d, hd⟩ : ∃ d : Int, (s[i].toNat : Int) = d := ⟨_, rfl⟩
          have hdt : (nums s).getD i 0 = d := by rw [nums_at s i hlt]; exact hd
          have hdd : ((nums s).drop a1).getD (i - a1) 0 = d := by
            rw [← hdt]; simp only [List.getD, List.getElem?_drop]; rw [show a1 + (i - a1) = i by omega]
          have hil : i - a1 < ((nums s).drop a1).length := by rw [List.length_drop, unhide hnl]; omega
          by_cases h41 : d = 41
          · have hcut : cutL 41 ((nums s).drop a1) = some (nums (s.extract a1 i), (nums s).drop (i + 1)) := by
              have e : (nums s).drop a1 = ((nums s).drop a1).take (i - a1) ++ 41 :: (nums s).drop (i + 1) := by
                conv => lhs; rw [← List.take_append_drop (i - a1) ((nums s).drop a1), drop_consI _ _ hil, hdd, h41, List.drop_drop]
                rw [show a1 + (i - a1 + 1) = i + 1 by omega]
              have e2 : nums (s.extract a1 i) = ((nums s).drop a1).take (i - a1) := nums_sub s _ _
              rw [e2]
              conv => lhs; rw [e]
              exact cut_at 41 _ _ (unhide HT)
            have CI := hide (unhide HIT i wr)
            have zge : ¬ (s.size : Int) ≤ (i : Int) := by omega
            have zi1 : IntKind.i64.wrap ((i : Int) + 1) = ((i + 1 : Nat) : Int) := by rw [wrap_in (by omega) (by omega)]; omega
            have hai2 : a < i + 1 := by omega
            have his2 : i + 1 ≤ s.size := by omega
            have HFIN := hide (And.intro hai2 his2)
            cases hi : itemP (nums (s.extract a1 i)) with
            | none =>
              have HE : Hid (takeL (m + 1) p ((nums s).drop a) = none) := by show _ = _; rw [unhide HX, hcut]; dsimp only; rw [hi]; rfl
              rw [hi] at CI
              subst h41
              clear hcut hi hdt hdd hil HT HX HIT hai2 his2
              go_wp2_with (go_at_call 46; refine (unhide CI).mono ?_; rintro e w4 ⟨x, rfl, ⟨e4, hx, -⟩, b4⟩; obtain ⟨x1, y1, x2, y2, rfl, -⟩ := hx.flv.open; have t4 := hB.trans (b4.mono hB.size); have R4 := keep_blk hR b4; have N4 := keep_blk hN b4; have t5 := t4.trans ((Below.one w4 (.cells (cFl e4.kin e4.nam e4.val e4.ini x1 e4.any.length y1 e4.fin e4.hi e4.hf e4.rul e4.dn x2 e4.kids.length y2) 27)).mono t4.size); have R5 := keep_blk R4 (Below.one w4 (.cells (cFl e4.kin e4.nam e4.val e4.ini x1 e4.any.length y1 e4.fin e4.hi e4.hf e4.rul e4.dn x2 e4.kids.length y2) 27)); have N5 := keep_blk N4 (Below.one w4 (.cells (cFl e4.kin e4.nam e4.val e4.ini x1 e4.any.length y1 e4.fin e4.hi e4.hf e4.rul e4.dn x2 e4.kids.length y2) 27)); obtain ⟨m0, m1, m2, m3, m4, m5, m6, m7, m8, m9, m10⟩ := cells11 R5; obtain ⟨k0, k1, k2, k3, k4, k5, k6, k7, k8, k9, k10⟩ := cells11 N5; have frR := froz11 R5)
              refine bodyPost_ret (res_fil3 rfl _ _ w.heap.size (.int .i64 0) (.string ⟨#[]⟩) (.string ⟨#[]⟩) (.string ⟨#[]⟩) (.slice none 0 0) (.string ⟨#[]⟩) (.bool false) (.bool false) (.string ⟨#[]⟩) (.bool false) (.slice none 0 0) rfl (by
                refine put11h (a0 := (.int .i64 0)) (a1 := (.string ⟨#[]⟩)) (a2 := (.string ⟨#[]⟩)) (a3 := (.string ⟨#[]⟩)) (a4 := (.slice none 0 0)) (a5 := (.string ⟨#[]⟩)) (a6 := (.bool false)) (a7 := (.bool false)) (a8 := (.string ⟨#[]⟩)) (a9 := (.bool false)) (a10 := (.slice none 0 0)) ?_
                with_reducible exact R5)) rfl ?_
              rw [unhide HE]
              refine ⟨_, rfl, ?_⟩
              repeat (first | with_reducible exact t5 | refine Below.setCell ?_ (by first | omega | (dsimp only; omega)) _)
            | some g =>
              have HE : Hid (takeL (m + 1) p ((nums s).drop a) = some (g, (nums s).drop (i + 1), p + 1)) := by show _ = _; rw [unhide HX, hcut]; dsimp only; rw [hi]; rfl
              rw [hi] at CI
              subst h41
              clear hcut hi hdt hdd hil HT HX HIT hai2 his2
              go_wp2_with (go_at_call 46; refine (unhide CI).mono ?_; rintro e w4 ⟨x, rfl, ⟨e4, hx, he4⟩, b4⟩; obtain ⟨x1, y1, x2, y2, rfl, -⟩ := hx.flv.open; have t4 := hB.trans (b4.mono hB.size); have R4 := keep_blk hR b4; have t5 := t4.trans ((Below.one w4 (.cells (cFl e4.kin e4.nam e4.val e4.ini x1 e4.any.length y1 e4.fin e4.hi e4.hf e4.rul e4.dn x2 e4.kids.length y2) 27)).mono t4.size); have R5 := keep_blk R4 (Below.one w4 (.cells (cFl e4.kin e4.nam e4.val e4.ini x1 e4.any.length y1 e4.fin e4.hi e4.hf e4.rul e4.dn x2 e4.kids.length y2) 27)); obtain ⟨m0, m1, m2, m3, m4, m5, m6, m7, m8, m9, m10⟩ := cells11 R5; have frR := froz11 R5; have HE4 := hide (he4 _ rfl); have HXP : Hid (FlVP (fun b => w.heap.size < b ∧ b < w4.heap.size) (w4.alloc (.cells (cFl e4.kin e4.nam e4.val e4.ini x1 e4.any.length y1 e4.fin e4.hi e4.hf e4.rul e4.dn x2 e4.kids.length y2) 27)) e4 (.agg #[.int .i64 e4.kin, .string e4.nam, .string e4.val, .string e4.ini, .slice x1 e4.any.length y1, .string e4.fin, .bool e4.hi, .bool e4.hf, .string e4.rul, .bool e4.dn, .slice x2 e4.kids.length y2])) := hx.mono (fun b hb => ⟨by omega, hb.2⟩) (fun b hb => (Below.one w4 (.cells (cFl e4.kin e4.nam e4.val e4.ini x1 e4.any.length y1 e4.fin e4.hi e4.hf e4.rul e4.dn x2 e4.kids.length y2) 27)).block b hb.2); have HSZ : Hid (w4.heap.size < (w4.alloc (.cells (cFl e4.kin e4.nam e4.val e4.ini x1 e4.any.length y1 e4.fin e4.hi e4.hf e4.rul e4.dn x2 e4.kids.length y2) 27)).heap.size) := (by show _ < _; rw [World.size_alloc]; omega); clear hx he4)
              refine bodyPost_ret (res_fil3 rfl _ _ w.heap.size (.int .i64 e4.kin) (.string e4.nam) (.string e4.val) (.string e4.ini) (.slice x1 e4.any.length y1) (.string e4.fin) (.bool e4.hi) (.bool e4.hf) (.string e4.rul) (.bool e4.dn) (.slice x2 e4.kids.length y2) rfl (by
                refine put11h (a0 := (.int .i64 0)) (a1 := (.string ⟨#[]⟩)) (a2 := (.string ⟨#[]⟩)) (a3 := (.string ⟨#[]⟩)) (a4 := (.slice none 0 0)) (a5 := (.string ⟨#[]⟩)) (a6 := (.bool false)) (a7 := (.bool false)) (a8 := (.string ⟨#[]⟩)) (a9 := (.bool false)) (a10 := (.slice none 0 0)) ?_
                with_reducible exact R5)) rfl ?_
              rw [unhide HE]
              refine ⟨_, i + 1, rfl, (unhide HFIN).1, (unhide HFIN).2, rfl, ?_, ?_⟩
              · rw [unhide HE4]
                exact (unhide HXP).mono (fun b hb => ⟨Nat.le_of_lt hb.1, by simp only [size_set24]; exact Nat.lt_trans hb.2 (unhide HSZ)⟩) (fun b hb => by
                  have hne : b ≠ w.heap.size := by have := hb.1; omega
                  repeat (first | with_reducible rfl | refine (Below.heap_setCell _ _ _ _ hne).trans ?_))
              · repeat (first | with_reducible exact t5 | refine Below.setCell ?_ (by first | omega | (dsimp only; omega)) _)
          · have g41 : (d == 41) = false := by rw [beq_eq_false_iff_ne]; exact h41
            have HT2 : Hid (∀ x ∈ ((nums s).drop a1).take (i + 1 - a1), x ≠ 41) := fun x hx => by
              rw [show i + 1 - a1 = i - a1 + 1 by omega, List.take_succ_eq_append_getElem hil] at hx
              rcases List.mem_append.1 hx with h | h
              · exact unhide HT x h
              · rw [List.mem_singleton.1 h]
                have e := hdd
                rw [List.getD, List.getElem?_eq_getElem hil, Option.getD_some] at e
                rw [e]; exact h41
            have wi : IntKind.i64.wrap ((i : Int) + 1) = (i : Int) + 1 := wrap_in (by omega) (by omega)
            clear HT hdt hdd hil h41 HIT HX hR hN hB hsz
            go_wp2
            go_roundw
            case rel => exact ⟨i + 1, by go_num, by omega, by omega, HT2, HW⟩
            case measure => simp [intOf]; omega
        · have zil : ¬ (i : Int) < (s.size : Int) := by omega
          have zge : (s.size : Int) ≤ (i : Int) := by omega
          have HE : Hid (takeL (m + 1) p ((nums s).drop a) = none) := by
            show _ = _
            rw [unhide HX, cut_none 41 _ fun x hx => unhide HT x (by rw [List.take_of_length_le (by rw [List.length_drop, unhide hnl]; omega)]; exact hx)]
          clear HT HX HIT
          obtain ⟨m0, m1, m2, m3, m4, m5, m6, m7, m8, m9, m10⟩ := cells11 hR
          obtain ⟨k0, k1, k2, k3, k4, k5, k6, k7, k8, k9, k10⟩ := cells11 hN
          have frR := froz11 hR
          go_wp2
          refine bodyPost_ret (res_fil3 rfl _ _ w.heap.size (.int .i64 0) (.string ⟨#[]⟩) (.string ⟨#[]⟩) (.string ⟨#[]⟩) (.slice none 0 0) (.string ⟨#[]⟩) (.bool false) (.bool false) (.string ⟨#[]⟩) (.bool false) (.slice none 0 0) rfl (by
            refine put11h (a0 := (.int .i64 0)) (a1 := (.string ⟨#[]⟩)) (a2 := (.string ⟨#[]⟩)) (a3 := (.string ⟨#[]⟩)) (a4 := (.slice none 0 0)) (a5 := (.string ⟨#[]⟩)) (a6 := (.bool false)) (a7 := (.bool false)) (a8 := (.string ⟨#[]⟩)) (a9 := (.bool false)) (a10 := (.slice none 0 0)) ?_
            with_reducible exact hR)) rfl ?_
          rw [unhide HE]
          refine ⟨_, rfl, ?_⟩
          repeat (first | with_reducible exact hB | refine Below.setCell ?_ (by first | omega | (dsimp only; omega)) _)
    replace hb : 0 ≤ kd := Classical.not_not.1 hb
    have hX : takeL (m + 1) p ((nums s).drop a) = (kidsG (takeL m) (((nums s).drop a1).length + 1) (p + 1) [] (((nums s).drop a1).drop 1)).map fun x => (kndF kd x.1, x.2.1, x.2.2) := by
      rw [hcons, takeL_kids h60 (by rw [hd0, ← hkd]; exact hb), hd0, ← hkd]
    obtain ⟨N0, hN0⟩ : ∃ N, N = ((nums s).drop a1).length + 1 := ⟨_, rfl⟩
    have hN1 : s.size - a2 < N0 := by rw [hN0, List.length_drop, unhide hnl]; omega
    rw [← hN0, List.drop_drop, ← unhide HA2] at hX
    obtain ⟨G, hG⟩ : ∃ G, G = kidsG (takeL m) N0 (p + 1) [] ((nums s).drop a2) := ⟨_, rfl⟩
    rw [← hG] at hX
    have HX := hide hX
    have HG0 : Hid (G = kidsG (takeL m) N0 (p + 1) [] ((nums s).drop a2)) := hG
    have HIH := hide IH
    have zkd : ¬ kd < 0 := by omega
    obtain ⟨i0, hi, hz0, hz1, hz2⟩ := info_parts fl_info
    clear hX hG hN0 hcons hd0 hb hat IH hm hkd hdt
    generalize 9 - ((m + 1 : Nat) : Int) = lv at *
    go_enter Tryz.func28, Tryz.ntmps28
    go_upto_region 9 with (go_at_call 45; refine (unhide CB _).mono ?_; rintro e w2 ⟨rfl, rfl⟩)
    clear CB
    skip
    go_wp2
    go_loopw [1, 3] (fun vi vp wr => ∃ (b q n : Nat) (acc : List Fl) (va : Value), vi = .int .i64 (b : Int) ∧ vp = .int .i64 (q : Int) ∧ a2 ≤ b ∧ b ≤ s.size ∧ q ≤ 60 ∧ acc.length ≤ b ∧ s.size - b < n ∧ Hid (G = kidsG (takeL m) n q acc ((nums s).drop b)) ∧ Hid (TkW w.heap.size w va acc kd wr)) (fun vi _ _ => s.size - (intOf vi).toNat)
    case atStart => exact ⟨a2, p + 1, N0, [], _, rfl, by go_num, Nat.le_refl _, by omega, by omega, Nat.zero_le _, hN1, HG0, HZ⟩
    case round =>
      obtain ⟨b, q, n, acc, va, rfl, rfl, hab, hbs, hq, hac, hn, HG, HW⟩ := hrel
      clear HZ HG0
      obtain ⟨n, rfl⟩ : ∃ j, n = j + 1 := ⟨n - 1, by omega⟩
      obtain ⟨ka, kc, rfl⟩ := (unhide HW).kids.shape
      have zb0 : (0 : Int) ≤ (b : Int) := by omega
      have hR := (unhide HW).res
      have hN := (unhide HW).non
      have hB := (unhide HW).bel
      have hF := (unhide HW).box
      have hsz := (unhide HW).siz
      by_cases hlt : ¬ b < s.size
      · have zlt : ¬ (b : Int) < (s.size : Int) := by omega
        have zge : (s.size : Int) ≤ (b : Int) := by omega
        have HE : Hid (takeL (m + 1) p ((nums s).drop a) = none) := by
          show _ = _
          rw [unhide HX, unhide HG, List.drop_eq_nil_of_le (by rw [unhide hnl]; omega), kidsG]
          rfl
        clear HX HG HIH
        obtain ⟨m0, m1, m2, m3, m4, m5, m6, m7, m8, m9, m10⟩ := cells11 hR
        obtain ⟨k0, k1, k2, k3, k4, k5, k6, k7, k8, k9, k10⟩ := cells11 hN
        have frR := froz11 hR
        go_wp2
        refine bodyPost_ret (res_fil3 rfl _ _ w.heap.size (.int .i64 0) (.string ⟨#[]⟩) (.string ⟨#[]⟩) (.string ⟨#[]⟩) (.slice none 0 0) (.string ⟨#[]⟩) (.bool false) (.bool false) (.string ⟨#[]⟩) (.bool false) (.slice none 0 0) rfl (by
          refine put11h (a0 := (.int .i64 0)) (a1 := (.string ⟨#[]⟩)) (a2 := (.string ⟨#[]⟩)) (a3 := (.string ⟨#[]⟩)) (a4 := (.slice none 0 0)) (a5 := (.string ⟨#[]⟩)) (a6 := (.bool false)) (a7 := (.bool false)) (a8 := (.string ⟨#[]⟩)) (a9 := (.bool false)) (a10 := (.slice none 0 0)) ?_
          with_reducible exact hR)) rfl ?_
        rw [unhide HE]
        refine ⟨_, rfl, ?_⟩
        repeat (first | with_reducible exact hB | refine Below.setCell ?_ (by first | omega | (dsimp only; omega)) _)
      replace hlt : b < s.size := Classical.not_not.1 hlt
      have zlt : (b : Int) < (s.size : Int) := by omega
      have zge : ¬ (s.size : Int) ≤ (b : Int) := by omega
      obtain ⟨c, hc⟩ : ∃ c : Int, (s[b].toNat : Int) = c := ⟨_, rfl⟩
      have hct : (nums s).getD b 0 = c := by rw [nums_at s b hlt]; exact hc
      have hcons : (nums s).drop b = c :: (nums s).drop (b + 1) := by rw [drop_consI (nums s) b (by rw [unhide hnl]; exact hlt), hct]
      by_cases h41 : c = 41
      · have HE : Hid (takeL (m + 1) p ((nums s).drop a) = some (kndF kd acc, (nums s).drop (b + 1), q)) := by
          show _ = _
          rw [unhide HX, unhide HG, hcons, kidsG, if_pos h41]
          rfl
        have HKV := hide ((unhide HW).kids.flvp (by omega) kd)
        have zb1 : IntKind.i64.wrap ((b : Int) + 1) = ((b + 1 : Nat) : Int) := by rw [wrap_in (by omega) (by omega)]; omega
        subst h41
        clear HX HG HIH hct hcons
        obtain ⟨m0, m1, m2, m3, m4, m5, m6, m7, m8, m9, m10⟩ := cells11 hR
        obtain ⟨o0, o1, o2, o3, o4, o5, o6, o7, o8, o9, o10⟩ := cells11 hF
        have frR := froz11 hR
        go_wp2
        refine bodyPost_ret (res_fil3 rfl _ _ w.heap.size (.int .i64 kd) (.string ⟨#[]⟩) (.string ⟨#[]⟩) (.string ⟨#[]⟩) (.slice none 0 0) (.string ⟨#[]⟩) (.bool false) (.bool false) (.string ⟨#[]⟩) (.bool false) (.slice ka acc.length kc) rfl (by
          refine put11h (a0 := (.int .i64 0)) (a1 := (.string ⟨#[]⟩)) (a2 := (.string ⟨#[]⟩)) (a3 := (.string ⟨#[]⟩)) (a4 := (.slice none 0 0)) (a5 := (.string ⟨#[]⟩)) (a6 := (.bool false)) (a7 := (.bool false)) (a8 := (.string ⟨#[]⟩)) (a9 := (.bool false)) (a10 := (.slice none 0 0)) ?_
          with_reducible exact hR)) rfl ?_
        rw [unhide HE]
        refine ⟨_, b + 1, rfl, by omega, by omega, rfl, (unhide HKV).mono (fun g hg => ⟨by have := hg.1; omega, by simp only [size_set24]; exact hg.2⟩) (fun g hg => by
          have hne : g ≠ w.heap.size := by have := hg.1; omega
          repeat (first | with_reducible rfl | refine (Below.heap_setCell _ _ _ _ hne).trans ?_)), ?_⟩
        repeat (first | with_reducible exact hB | refine Below.setCell ?_ (by first | omega | (dsimp only; omega)) _)
      have g41 : (c == 41) = false := by rw [beq_eq_false_iff_ne]; exact h41
      have CR := hide (unhide HIH s b q wr hs hbs (by omega))
      cases ht : takeL m q ((nums s).drop b) with
      | none =>
        have HE : Hid (takeL (m + 1) p ((nums s).drop a) = none) := by
          show _ = _
          rw [unhide HX, unhide HG, hcons, kidsG, if_neg h41, ← hcons, ht]
          rfl
        rw [ht] at CR
        clear HX HG HIH hct hcons h41 ht
        go_wp2_with (go_at_call 28; refine (unhide CR).mono ?_; rintro e w2 ⟨p2, rfl, b2⟩; have t4 := hB.trans (b2.mono hB.size); have t5 := t4.trans ((Below.one w2 (.cells #[.int .i64 0, .string ⟨#[]⟩, .string ⟨#[]⟩, .string ⟨#[]⟩, .slice none 0 0, .string ⟨#[]⟩, .bool false, .bool false, .string ⟨#[]⟩, .bool false, .slice none 0 0] 27)).mono t4.size); have R5 := keep_blk (keep_blk hR b2) (Below.one w2 (.cells #[.int .i64 0, .string ⟨#[]⟩, .string ⟨#[]⟩, .string ⟨#[]⟩, .slice none 0 0, .string ⟨#[]⟩, .bool false, .bool false, .string ⟨#[]⟩, .bool false, .slice none 0 0] 27)); have N5 := keep_blk (keep_blk hN b2) (Below.one w2 (.cells #[.int .i64 0, .string ⟨#[]⟩, .string ⟨#[]⟩, .string ⟨#[]⟩, .slice none 0 0, .string ⟨#[]⟩, .bool false, .bool false, .string ⟨#[]⟩, .bool false, .slice none 0 0] 27)); obtain ⟨m0, m1, m2, m3, m4, m5, m6, m7, m8, m9, m10⟩ := cells11 R5; obtain ⟨k0, k1, k2, k3, k4, k5, k6, k7, k8, k9, k10⟩ := cells11 N5; have frR := froz11 R5)
        refine bodyPost_ret (res_fil3 rfl _ _ w.heap.size (.int .i64 0) (.string ⟨#[]⟩) (.string ⟨#[]⟩) (.string ⟨#[]⟩) (.slice none 0 0) (.string ⟨#[]⟩) (.bool false) (.bool false) (.string ⟨#[]⟩) (.bool false) (.slice none 0 0) rfl (by
          refine put11h (a0 := (.int .i64 0)) (a1 := (.string ⟨#[]⟩)) (a2 := (.string ⟨#[]⟩)) (a3 := (.string ⟨#[]⟩)) (a4 := (.slice none 0 0)) (a5 := (.string ⟨#[]⟩)) (a6 := (.bool false)) (a7 := (.bool false)) (a8 := (.string ⟨#[]⟩)) (a9 := (.bool false)) (a10 := (.slice none 0 0)) ?_
          with_reducible exact R5)) rfl ?_
        rw [unhide HE]
        refine ⟨_, rfl, ?_⟩
        repeat (first | with_reducible exact t5 | refine Below.setCell ?_ (by first | omega | (dsimp only; omega)) _)
      | some x =>
        obtain ⟨e4, r, q2⟩ := x
        have HQ2 := hide (takeL_q m q _ e4 r q2 ht)
        have HK2 : Hid (G = kidsG (takeL m) n q2 (acc ++ [e4]) r) := by
          show _ = _
          rw [unhide HG, hcons, kidsG, if_neg h41, ← hcons, ht]
        rw [ht] at CR
        obtain ⟨cs, ho, hf⟩ := (unhide HW).kids
        obtain ⟨N, hNN⟩ : ∃ N, N = acc.length := ⟨_, rfl⟩
        have HN := hide hNN
        rw [← hNN] at hac ho hf hF HW
        have HO := hide ho
        have HFL := hide hf
        have HLT : Hid (∀ g, (Value.slice ka N kc).ownBlock = some g → g < wr.heap.size) := fun g hg => (World.ownsRow.lt ho g hg).2
        have hm1 : N + 1 ≤ maxLen := by unfold maxLen; omega
        have hm2 : (N + 1) * 152 ≤ 140737488355328 := by omega
        clear HG HX HIH hct hcons h41 ht hNN ho hf hR hN
        go_wp2_with (first
          | (at_builtin; refine wpList_append_lies _ rfl _ _ 25 rfl (w.heap.size + 3) 27 i0 _ 11 152 Tryz.underlying25 hi hz0 hz1 hz2 rfl (by omega) _ N _ rfl (World.ownsRow.alloc (World.ownsRow.alloc (unhide O1) _) _) ⟨w2.heap.size + 1, 0, none⟩ 1 1 [.int .i64 e4.kin, .string e4.nam, .string e4.val, .string e4.ini, .slice x1 e4.any.length y1, .string e4.fin, .bool e4.hi, .bool e4.hf, .string e4.rul, .bool e4.dn, .slice x2 e4.kids.length y2] rfl rfl (World.news_of_block (cs := #[.int .i64 e4.kin, .string e4.nam, .string e4.val, .string e4.ini, .slice x1 e4.any.length y1, .string e4.fin, .bool e4.hi, .bool e4.hf, .string e4.rul, .bool e4.dn, .slice x2 e4.kids.length y2]) (t := 27) (fr := (0, 0)) (by have := heap_new (w2.alloc (.cells (cFl e4.kin e4.nam e4.val e4.ini x1 e4.any.length y1 e4.fin e4.hi e4.hf e4.rul e4.dn x2 e4.kids.length y2) 27)) (.cells (cFl e4.kin e4.nam e4.val e4.ini x1 e4.any.length y1 e4.fin e4.hi e4.hf e4.rul e4.dn x2 e4.kids.length y2) 27); simpa using this)) (by simp [Value.oneCell']) (by omega) hm1 hm2 (by simp; omega) (w2.heap.size + 1 + 1) (by simp) ?_; intro g9 cap9 w9 hown9 hgrow9 hat9 hlt9; have b9 := hide (below_own hgrow9 (by rw [World.size_alloc, World.size_alloc]; omega) (own_block (unhide HO))); have F9 := ((unhide b9).block (w.heap.size + 2) (Nat.lt_succ_self _)).trans (keep_blk F5 (Below.one (w2.alloc (.cells (cFl e4.kin e4.nam e4.val e4.ini x1 e4.any.length y1 e4.fin e4.hi e4.hf e4.rul e4.dn x2 e4.kids.length y2) 27)) (.cells (cFl e4.kin e4.nam e4.val e4.ini x1 e4.any.length y1 e4.fin e4.hi e4.hf e4.rul e4.dn x2 e4.kids.length y2) 27))); obtain ⟨d0, d1, d2, d3, d4, d5, d6, d7, d8, d9, d10⟩ := cells11 F9; have frF9 := froz11 F9)
          | (go_at_call 28; refine (unhide CR).mono ?_; rintro e w2 ⟨v, t, rfl, hbt, hts, hrt, hx, b2⟩; obtain ⟨x1, y1, x2, y2, rfl, -⟩ := hx.flv.open; have HP := hide hx; have HRT := hide hrt; have zt : ¬ (t : Int) < 0 := (by omega); have s1 := b2.size; have O1 := hide (own_below (unhide HO) b2); have F5 := keep_blk (keep_blk hF b2) (Below.one w2 (.cells (cFl e4.kin e4.nam e4.val e4.ini x1 e4.any.length y1 e4.fin e4.hi e4.hf e4.rul e4.dn x2 e4.kids.length y2) 27)); obtain ⟨o0, o1, o2, o3, o4, o5, o6, o7, o8, o9, o10⟩ := cells11 F5; clear hx hrt))
        go_roundw
        case rel =>
          have bb : Below w2.heap.size w2 ((w2.alloc (.cells (cFl e4.kin e4.nam e4.val e4.ini x1 e4.any.length y1 e4.fin e4.hi e4.hf e4.rul e4.dn x2 e4.kids.length y2) 27)).alloc (.cells (cFl e4.kin e4.nam e4.val e4.ini x1 e4.any.length y1 e4.fin e4.hi e4.hf e4.rul e4.dn x2 e4.kids.length y2) 27)) := ((Gr.one w2 _).alloc _).below
          have b13 := b2.trans (bb.mono s1)
          have hs3 : ((w2.alloc (.cells (cFl e4.kin e4.nam e4.val e4.ini x1 e4.any.length y1 e4.fin e4.hi e4.hf e4.rul e4.dn x2 e4.kids.length y2) 27)).alloc (.cells (cFl e4.kin e4.nam e4.val e4.ini x1 e4.any.length y1 e4.fin e4.hi e4.hf e4.rul e4.dn x2 e4.kids.length y2) 27)).heap.size = w2.heap.size + 1 + 1 := by simp
          refine ⟨t, q2, n, acc ++ [e4], (.slice (some ⟨g9, 0, none⟩) (N + 1) cap9), by go_num, by go_num, by omega, hts, unhide HQ2, by rw [List.length_append, ← unhide HN]; simp only [List.length_cons, List.length_nil]; omega, by omega, by rw [unhide HRT]; exact unhide HK2, ?_⟩
          refine ((unhide HW).grow b13).set (unhide b9) (Ko.push (unhide HN) (w := ((w2.alloc (.cells (cFl e4.kin e4.nam e4.val e4.ini x1 e4.any.length y1 e4.fin e4.hi e4.hf e4.rul e4.dn x2 e4.kids.length y2) 27)).alloc (.cells (cFl e4.kin e4.nam e4.val e4.ini x1 e4.any.length y1 e4.fin e4.hi e4.hf e4.rul e4.dn x2 e4.kids.length y2) 27))) ?_ ?_ hown9 hgrow9 hat9 hs3)
          · exact FlatF.kept (fun g hg => ⟨hg.1, by rw [hs3]; have := hg.2.1; omega, hg.2.2⟩) (fun g hg => b13.block g hg.2.1) _ _ (unhide HFL)
          · refine (unhide HP).mono (fun g hg => ⟨by have := hg.1; omega, by rw [hs3]; have := hg.2; omega, fun e => ?_⟩) (fun g hg => bb.block g hg.2)
            have h5 := unhide HLT g e.symm
            have h6 := hg.1
            omega
        case measure => simp [intOf]; omega
end Go.Proofs.YthbldkkjjjmegaaGreatDoor
/- The landed readKids, readFilter of layer 24. (By gen_rfl.py.) -/
namespace Go.Proofs.YthbldkkjjjmegaaGreatDoor
set_option maxRecDepth 100000
open Go.RowKit

/-- That a filter is read so, from texts of at most so many bytes. -/
def RdOf (k : Nat) : Prop := ∀ (s : ByteArray) (w : World), Ly w → s.size ≤ k → s.size ≤ 4000 → Calls Tryz.prog 27 #[.string s] w fun e w' => RfPost (readN k (nums s)) w e w'
/-- What readKids answers. -/
def RkPost (o : Option (List Fl × List Int)) (w : World) (e : Ending) (w' : World) : Prop :=
  match o with
  | none => ∃ v rs, e = .returned (.tuple #[v, .string rs, .bool false]) ∧ v = .slice none 0 0 ∧ Below w.heap.size w w'
  | some x => ∃ v rs, e = .returned (.tuple #[v, .string rs, .bool true]) ∧ Ko w.heap.size v x.1 w' ∧ nums rs = x.2 ∧ x.1.length ≤ 100000 ∧ Below w.heap.size w w'
theorem ret_vsb25 {v v2 : Value} {a b : ByteArray} {x y : Bool} (h1 : v = v2) (h2 : a = b) (h3 : x = y) : Ending.returned (.tuple #[v, .string a, .bool x]) = .returned (.tuple #[v2, .string b, .bool y]) := by rw [h1, h2, h3]
set_option maxRecDepth 4000 in
set_option maxHeartbeats 12800000 in
theorem rkids_land (k : Nat) (IH : RdOf k) (s : ByteArray) (n : Nat) (w : World) (hL : Ly w) (hk : s.size ≤ k) (hs : s.size ≤ 4000) (hn : s.size < n) : Calls Tryz.prog 44 #[.string s] w fun e w' => RkPost (kidsN (readN k) n [] (nums s)) w e w' := by
  obtain ⟨i0, hi, hz0, hz1, hz2⟩ := info_parts fl_info
  have HIH := hide IH
  have HLL := hide hL
  clear hL IH
  go_enter Tryz.func44, Tryz.ntmps44
  go_wp2
  go_loopw [0, 5] (fun vs vo wr => ∃ (cur : ByteArray) (acc : List Fl) (m : Nat), vs = .string cur ∧ cur.size ≤ s.size ∧ acc.length + cur.size ≤ s.size ∧ cur.size < m ∧ Hid (kidsN (readN k) n [] (nums s) = kidsN (readN k) m acc (nums cur)) ∧ Hid (Ko w.heap.size vo acc wr) ∧ Below w.heap.size w wr) (fun vs _ _ => szOf vs)
  case atStart => exact ⟨s, [], n, rfl, Nat.le_refl _, by simp, hn, by show _ = _; rfl, Ko.nil _ _, Below.refl _ _⟩
  case round =>
    obtain ⟨cur, acc, m, rfl, hcs, hacc, hm, HG, HK, hb⟩ := hrel
    have hsz := hb.size
    obtain ⟨m, rfl⟩ : ∃ j, m = j + 1 := ⟨m - 1, by omega⟩
    obtain ⟨ka, kc, rfl⟩ := (unhide HK).shape
    by_cases h0 : cur.size = 0
    · have he : cur.toList.isEmpty = true := by rw [emp_sz, decide_eq_true h0]
      have HX : Hid (kidsN (readN k) n [] (nums s) = none) := by
        show _ = _
        rw [unhide HG, List.length_eq_zero_iff.1 (by rw [nums_length]; exact h0 : (nums cur).length = 0)]
        rfl
      clear HG h0
      go_wp2
      go_ret3
      rw [unhide HX]
      exact ⟨_, ⟨#[]⟩, rfl, rfl, hb⟩
    have hem : cur.toList.isEmpty = false := by rw [emp_sz, decide_eq_false h0]
    have hs0 : 0 < cur.size := by omega
    obtain ⟨c, hc⟩ : ∃ c : Int, (cur[0].toNat : Int) = c := ⟨_, rfl⟩
    have hat : (nums cur).getD 0 0 = c := by rw [nums_at cur 0 hs0]; exact hc
    have hcons : nums cur = c :: nums (cur.extract 1 cur.size) := by
      rw [nums_drop, ← hat]
      have h := drop_consI (nums cur) 0 (by rw [nums_length]; exact hs0)
      rw [List.drop_zero] at h
      exact h
    have z00 : (0 : Int) < (cur.size : Int) := by omega
    have z11 : (1 : Int) ≤ (cur.size : Int) := by omega
    by_cases h41 : c = 41
    · have HX : Hid (kidsN (readN k) n [] (nums s) = some (acc, nums (cur.extract 1 cur.size))) := by
        show _ = _
        rw [unhide HG, hcons, kidsN, if_pos h41]
      have hal : acc.length ≤ 100000 := by omega
      subst h41
      clear HG h0 hat hcons
      go_wp2
      go_quiet (fail)
      go_wp2
      go_ret3
      rw [unhide HX]
      exact ⟨_, _, rfl, (unhide HK).below (below_drewN (Below.refl _ _) _), rfl, hal, below_drewN hb _⟩
    · have g41 : (c == 41) = false := by rw [beq_eq_false_iff_ne]; exact h41
      have CR := hide (unhide HIH cur wr ((unhide HLL).keep hb) (by omega) (by omega))
      cases hr : readN k (nums cur) with
      | none =>
        have HX : Hid (kidsN (readN k) n [] (nums s) = none) := by
          show _ = _
          rw [unhide HG, hcons, kidsN, if_neg h41, ← hcons, hr]
        rw [hr] at CR
        clear HG h0 hat hcons hr
        go_wp2_with (go_at_call 27; refine (unhide CR).mono ?_; rintro e w2 ⟨x, rs, e4, rfl, hx, -, b2⟩; obtain ⟨x1, y1, x2, y2, rfl, -⟩ := hx.flv.open)
        go_ret3
        rw [unhide HX]
        exact ⟨_, ⟨#[]⟩, rfl, rfl, hb.trans ((b2.mono hsz).trans ((Below.one _ _).mono (hb.trans (b2.mono hsz)).size))⟩
      | some y =>
        obtain ⟨f, r⟩ := y
        have HX : Hid (kidsN (readN k) n [] (nums s) = kidsN (readN k) m (acc ++ [f]) r) := by
          show _ = _
          rw [unhide HG, hcons, kidsN, if_neg h41, ← hcons, hr]
        obtain ⟨hrl, hrb, -⟩ := read_doc k (nums cur) f r (nums_bound cur) hr
        rw [nums_length] at hrl
        rw [hr] at CR
        obtain ⟨cs, ho, hf⟩ := unhide HK
        obtain ⟨N, hN⟩ : ∃ N, N = acc.length := ⟨_, rfl⟩
        have HN := hide hN
        rw [← hN] at hacc ho hf ⊢
        have HO := hide ho
        have HF := hide hf
        have HLT : Hid (∀ g, (Value.slice ka N kc).ownBlock = some g → g < wr.heap.size) := fun g hg => (World.ownsRow.lt ho g hg).2
        have hm1 : N + 1 ≤ maxLen := by unfold maxLen; omega
        have hm2 : (N + 1) * 152 ≤ 140737488355328 := by omega
        have HRL : Hid (r.length < cur.size) := hrl
        clear HG h0 hat hcons hr hN hrb hrl ho hf HK
        go_wp2_with (first
          | (at_builtin; refine wpList_append_lies _ rfl _ _ 25 rfl w.heap.size 27 i0 _ 11 152 Tryz.underlying25 hi hz0 hz1 hz2 rfl (by omega) _ N _ rfl (World.ownsRow.alloc (World.ownsRow.alloc (unhide O1) _) _) ⟨w2.heap.size + 1, 0, none⟩ 1 1 [.int .i64 e4.kin, .string e4.nam, .string e4.val, .string e4.ini, .slice x1 e4.any.length y1, .string e4.fin, .bool e4.hi, .bool e4.hf, .string e4.rul, .bool e4.dn, .slice x2 e4.kids.length y2] rfl rfl (World.news_of_block (cs := #[.int .i64 e4.kin, .string e4.nam, .string e4.val, .string e4.ini, .slice x1 e4.any.length y1, .string e4.fin, .bool e4.hi, .bool e4.hf, .string e4.rul, .bool e4.dn, .slice x2 e4.kids.length y2]) (t := 27) (fr := (0, 0)) (by have := heap_new (w2.alloc (.cells (cFl e4.kin e4.nam e4.val e4.ini x1 e4.any.length y1 e4.fin e4.hi e4.hf e4.rul e4.dn x2 e4.kids.length y2) 27)) (.cells (cFl e4.kin e4.nam e4.val e4.ini x1 e4.any.length y1 e4.fin e4.hi e4.hf e4.rul e4.dn x2 e4.kids.length y2) 27); simpa using this)) (by simp [Value.oneCell']) (by omega) hm1 hm2 (by simp; omega) (w2.heap.size + 1 + 1) (by simp) ?_; intro g9 cap9 w9 hown9 hgrow9 hat9 hlt9)
          | (go_at_call 27; refine (unhide CR).mono ?_; rintro e w2 ⟨x, rs, e4, rfl, hx, hfr, b2⟩; obtain ⟨x1, y1, x2, y2, rfl, -⟩ := hx.flv.open; obtain ⟨hfe, hrs⟩ := hfr _ _ rfl; have HFE := hide hfe; have HRS := hide hrs; have HP := hide hx; have s1 := b2.size; have O1 := hide (own_below (unhide HO) b2); clear hx hfr hfe hrs))
        go_roundw
        case rel =>
          have bb : Below w2.heap.size w2 ((w2.alloc (.cells (cFl e4.kin e4.nam e4.val e4.ini x1 e4.any.length y1 e4.fin e4.hi e4.hf e4.rul e4.dn x2 e4.kids.length y2) 27)).alloc (.cells (cFl e4.kin e4.nam e4.val e4.ini x1 e4.any.length y1 e4.fin e4.hi e4.hf e4.rul e4.dn x2 e4.kids.length y2) 27)) := ((Gr.one w2 _).alloc _).below
          have b13 := b2.trans (bb.mono s1)
          have hs3 : ((w2.alloc (.cells (cFl e4.kin e4.nam e4.val e4.ini x1 e4.any.length y1 e4.fin e4.hi e4.hf e4.rul e4.dn x2 e4.kids.length y2) 27)).alloc (.cells (cFl e4.kin e4.nam e4.val e4.ini x1 e4.any.length y1 e4.fin e4.hi e4.hf e4.rul e4.dn x2 e4.kids.length y2) 27)).heap.size = w2.heap.size + 1 + 1 := by simp
          have hrz : rs.size = r.length := by rw [← unhide HRS, nums_length]
          have hrl := unhide HRL
          refine ⟨rs, acc ++ [f], m, rfl, by omega, by rw [List.length_append, ← unhide HN]; simp only [List.length_cons, List.length_nil]; omega, by omega, by rw [unhide HRS]; exact HX, ?_, ?_⟩
          · rw [unhide HFE]
            refine Ko.push (unhide HN) (w := (w2.alloc (.cells (cFl e4.kin e4.nam e4.val e4.ini x1 e4.any.length y1 e4.fin e4.hi e4.hf e4.rul e4.dn x2 e4.kids.length y2) 27)).alloc (.cells (cFl e4.kin e4.nam e4.val e4.ini x1 e4.any.length y1 e4.fin e4.hi e4.hf e4.rul e4.dn x2 e4.kids.length y2) 27)) ?_ ?_ hown9 hgrow9 hat9 hs3
            · exact FlatF.kept (fun g hg => ⟨hg.1, by rw [hs3]; have := hg.2.1; omega, hg.2.2⟩) (fun g hg => b13.block g hg.2.1) _ _ (unhide HF)
            · refine (unhide HP).mono (fun g hg => ⟨by have := hg.1; omega, by rw [hs3]; have := hg.2; omega, fun e => ?_⟩) (fun g hg => bb.block g hg.2)
              have h5 := unhide HLT g e.symm
              have h6 := hg.1
              omega
          · exact (hb.trans (b13.mono hsz)).trans (below_own hgrow9 (by rw [hs3]; omega) (own_block (unhide HO)))
        case measure =>
          show szOf (.string rs) < szOf (.string cur)
          have hrz : rs.size = r.length := by rw [← unhide HRS, nums_length]
          have hrl := unhide HRL
          simp only [szOf]
          omega
end Go.Proofs.YthbldkkjjjmegaaGreatDoor
