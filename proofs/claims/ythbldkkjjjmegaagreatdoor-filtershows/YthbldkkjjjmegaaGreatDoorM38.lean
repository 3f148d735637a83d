/- The landed readItem of layer 24. (By gen_ril.py.) -/
import Derived.Test.YthbldkkjjjmegaaGreatDoorM33
import Derived.Test.YthbldkkjjjmegaaGreatDoorM19
import Derived.Test.YthbldkkjjjmegaaGreatDoorM34
import Derived.Test.YthbldkkjjjmegaaGreatDoorM37
namespace Go.Proofs.YthbldkkjjjmegaaGreatDoor
set_option maxRecDepth 100000
open Go.RowKit

/-- What a reading answers: the filter and the rest, or neither. -/
def RfPost (o : Option (Fl × List Int)) (w : World) (e : Ending) (w' : World) : Prop :=
  ∃ x rs e0, e = .returned (.tuple #[x, .string rs, .bool o.isSome]) ∧ FlVP (fun b => w.heap.size ≤ b ∧ b < w'.heap.size) w' e0 x ∧ (∀ f r, o = some (f, r) → f = e0 ∧ nums rs = r) ∧ Below w.heap.size w w'
theorem res_fil3 {fn : Func} {p q s : Tmp} (h : fn.results = #[.cell p 27, .tmp q, .tmp s]) (tmps : Array Value) (w : World) (g : Nat) (a0 a1 a2 a3 a4 a5 a6 a7 a8 a9 a10 : Value) (hp : tmps.getD p undef = .pointer (some ⟨g, 0, none⟩)) (hg : w.heap[g]? = some (.cells #[a0, a1, a2, a3, a4, a5, a6, a7, a8, a9, a10] 27)) :
    (results fn tmps).run Tryz.prog w = .ok (.tuple #[.agg #[a0, a1, a2, a3, a4, a5, a6, a7, a8, a9, a10], tmps.getD q undef, tmps.getD s undef]) w := by
  have hp' : tmps[p]?.getD undef = .pointer (some ⟨g, 0, none⟩) := by simpa using hp
  have hl := run_loadVar_row (P := Tryz.prog) w g 27 27 #[a0, a1, a2, a3, a4, a5, a6, a7, a8, a9, a10] (0, 0) _ hg Tryz.underlying27 rfl (by kernel_rfl)
  simp [results, h, hp', asAddr, hl]
theorem flv_zeroP (P : Nat → Prop) (w : World) : FlVP P w fl0 (.agg #[.int .i64 0, .string ⟨#[]⟩, .string ⟨#[]⟩, .string ⟨#[]⟩, .slice none 0 0, .string ⟨#[]⟩, .bool false, .bool false, .string ⟨#[]⟩, .bool false, .slice none 0 0]) := flv_itm2 P w 0 ⟨#[]⟩ ⟨#[]⟩ ⟨#[]⟩ false
theorem cutS_len : ∀ (l : List Int) (h : List Int) (k : Int) (t : List Int), cutS l = some (h, k, t) → h.length ≤ l.length ∧ t.length < l.length
  | [], h, k, t, e => by cases e
  | c :: u, h, k, t, e => by
    rw [cutS] at e
    cases hs : sgA (c :: u) with
    | some p =>
      obtain ⟨k', r⟩ := p
      rw [hs] at e
      cases e
      refine ⟨by simp, ?_⟩
      unfold sgA at hs
      dsimp only at hs
      split at hs
      · cases hs; simp
      · cases u with
        | nil => cases hs
        | cons d v =>
          dsimp only at hs
          simp only [List.length_cons]
          split at hs
          · split at hs
            · cases hs; omega
            · split at hs
              · cases hs; omega
              · split at hs
                · cases hs; omega
                · split at hs
                  · cases hs; omega
                  · cases hs
          · cases hs
    | none =>
      rw [hs] at e
      dsimp only at e
      cases hc : cutS u with
      | none => rw [hc] at e; cases e
      | some q =>
        rw [hc] at e
        obtain ⟨h', k', t'⟩ := q
        cases e
        have := cutS_len u h' k t hc
        simp only [List.length_cons]
        omega
theorem vals_len : ∀ (n : Nat) (s : List Int) (vs : List (List Int)) (r : List Int), valsV n s = some (vs, r) → 0 < vs.length ∧ vs.length ≤ n
  | 0, s, vs, r, h => by rw [valsV] at h; cases h
  | n + 1, s, vs, r, h => by
    rw [valsV] at h
    cases hv : valV s with
    | none => rw [hv] at h; cases h
    | some p =>
      rw [hv] at h
      dsimp only at h
      split at h
      · cases h; simp
      · cases hw : valsV n (p.2.drop 1) with
        | none => rw [hw] at h; cases h
        | some q =>
          rw [hw] at h
          cases h
          have := vals_len n _ q.1 q.2 hw
          simp only [List.length_cons]
          omega
theorem vals_byt (s : ByteArray) (n : Nat) (vs : List (List Int)) (r : List Int) (h : valsV n (nums s) = some (vs, r)) : byt r := by
  obtain ⟨y, h1, -, -⟩ := vals_some _ _ _ _ h
  intro x hx
  exact nums_bound s x (by rw [h1]; simp [hx])
theorem Tx.at2 {w : World} {B : Nat} {v : Value} {ps : List ByteArray} (h : Tx B v ps w) (hp : 0 < ps.length) : ∃ g c, v = .slice (some ⟨g, 0, none⟩) ps.length c ∧ ps.length ≤ c ∧ ∀ j, j < ps.length → w.cell? ⟨g, j, none⟩ = some (.string (ps.getD j ByteArray.empty)) := by
  obtain ⟨g, c, hv, hc⟩ := h.at hp
  rcases h.2 with ⟨_, h2⟩ | ⟨g2, cap, cur, hv2, _, _, hm, _⟩
  · omega
  · refine ⟨g, c, hv, ?_, hc⟩
    rw [hv] at hv2
    cases hv2
    exact hm
set_option maxRecDepth 4000 in
set_option maxHeartbeats 12800000 in
theorem ritem_land (s : ByteArray) (n : Nat) (w : World) (hL : Ly w) (hs : s.size ≤ 4000) (hn : s.size < n) (hn2 : n ≤ 100000) : Calls Tryz.prog 43 #[.string s] w fun e w' => RfPost (rItm n (nums s)) w e w' := by
  have HR := heap_new w (.cells #[.int .i64 0, .string ⟨#[]⟩, .string ⟨#[]⟩, .string ⟨#[]⟩, .slice none 0 0, .string ⟨#[]⟩, .bool false, .bool false, .string ⟨#[]⟩, .bool false, .slice none 0 0] 27)
  have HB := Below.one w (.cells #[.int .i64 0, .string ⟨#[]⟩, .string ⟨#[]⟩, .string ⟨#[]⟩, .slice none 0 0, .string ⟨#[]⟩, .bool false, .bool false, .string ⟨#[]⟩, .bool false, .slice none 0 0] 27)
  have CC := hide (cuts_land s _ (hL.keep HB) (by omega))
  have hnl := nums_length s
  cases hc : cutS (nums s) with
  | none =>
    have HX : Hid (rItm n (nums s) = none) := by show _ = _; unfold rItm; rw [cutS_none hc]
    rw [hc] at CC
    clear hc hnl
    go_enter Tryz.func43, Tryz.ntmps43
    go_upto_region 2 with (go_at_call 60; refine (unhide CC).mono ?_; rintro e w2 ⟨⟨t, rfl⟩, b2⟩)
    have HR2 := keep_blk HR b2
    have t2 := HB.trans (b2.mono HB.size)
    obtain ⟨m0, m1, m2, m3, m4, m5, m6, m7, m8, m9, m10⟩ := cells11 HR2
    have frR := froz11 HR2
    go_wp2
    refine bodyPost_ret (res_fil3 rfl _ _ w.heap.size (.int .i64 0) (.string ⟨#[]⟩) (.string ⟨#[]⟩) (.string ⟨#[]⟩) (.slice none 0 0) (.string ⟨#[]⟩) (.bool false) (.bool false) (.string ⟨#[]⟩) (.bool false) (.slice none 0 0) rfl (by
      refine put11h (a0 := (.int .i64 0)) (a1 := (.string ⟨#[]⟩)) (a2 := (.string ⟨#[]⟩)) (a3 := (.string ⟨#[]⟩)) (a4 := (.slice none 0 0)) (a5 := (.string ⟨#[]⟩)) (a6 := (.bool false)) (a7 := (.bool false)) (a8 := (.string ⟨#[]⟩)) (a9 := (.bool false)) (a10 := (.slice none 0 0)) ?_
      with_reducible exact HR2)) rfl ?_
    refine ⟨_, ⟨#[]⟩, fl0, by rw [unhide HX]; rfl, flv_zeroP _ _, (fun f r hf => by rw [unhide HX] at hf; cases hf), ?_⟩
    repeat (first | with_reducible exact t2 | refine Below.setCell ?_ (by first | omega | (dsimp only; omega)) _)
  | some q =>
    obtain ⟨h, k, t⟩ := q
    obtain ⟨g0, hcut, hk, hsm⟩ := cutS_some hc
    obtain ⟨hhl, htl⟩ := cutS_len _ _ _ _ hc
    rw [hc] at CC
    have CR := hide (fun (tl : ByteArray) (W : World) (h1 : nums tl = t) (h2 : Ly W) => rvalues24_land tl n W h2 (by rw [← nums_length tl, h1]; omega) (by rw [← nums_length tl, h1]; omega))
    cases hv : valsV n t with
    | none =>
      have HX : Hid (rItm n (nums s) = none) := by show _ = _; unfold rItm; rw [hcut]; dsimp only; rw [hv]
      have HV := hide hv
      have HL := hide hL
      clear hc hnl hcut hk hsm hhl htl hv
      go_enter Tryz.func43, Tryz.ntmps43
      go_upto_region 5 with (first
        | (go_at_call 61; refine (unhide CR _ _ ht2 (unhide HL2)).mono ?_; rintro e w3 ⟨hp3, b3⟩; rw [ht2, unhide HV] at hp3; obtain rfl : e = .returned (.tuple #[.slice none 0 0, .string ⟨#[]⟩, .bool false]) := hp3; have HR3 := keep_blk HR2 b3; have t3 := t2.trans (b3.mono t2.size))
        | (go_at_call 60; refine (unhide CC).mono ?_; rintro e w2 ⟨⟨hd, tl, rfl, hh2, ht2⟩, b2⟩; dsimp only at hh2 ht2; have HR2 := keep_blk HR b2; have t2 := HB.trans (b2.mono HB.size); have HL2 := hide ((unhide HL).keep t2)))
      obtain ⟨m0, m1, m2, m3, m4, m5, m6, m7, m8, m9, m10⟩ := cells11 HR3
      have frR := froz11 HR3
      clear HR2 HR CC CR ht2 hh2
      go_wp2
      refine bodyPost_ret (res_fil3 rfl _ _ w.heap.size (.int .i64 0) (.string ⟨#[]⟩) (.string ⟨#[]⟩) (.string ⟨#[]⟩) (.slice none 0 0) (.string ⟨#[]⟩) (.bool false) (.bool false) (.string ⟨#[]⟩) (.bool false) (.slice none 0 0) rfl (by
        refine put11h (a0 := (.int .i64 0)) (a1 := (.string ⟨#[]⟩)) (a2 := (.string ⟨#[]⟩)) (a3 := (.string ⟨#[]⟩)) (a4 := (.slice none 0 0)) (a5 := (.string ⟨#[]⟩)) (a6 := (.bool false)) (a7 := (.bool false)) (a8 := (.string ⟨#[]⟩)) (a9 := (.bool false)) (a10 := (.slice none 0 0)) ?_
        with_reducible exact HR3)) rfl ?_
      refine ⟨_, ⟨#[]⟩, fl0, by rw [unhide HX]; rfl, flv_zeroP _ _, (fun f r hf => by rw [unhide HX] at hf; cases hf), ?_⟩
      repeat (first | with_reducible exact t3 | refine Below.setCell ?_ (by first | omega | (dsimp only; omega)) _)
    | some y =>
      obtain ⟨vs, r⟩ := y
      obtain ⟨hv0, hvn⟩ := vals_len _ _ _ _ hv
      obtain ⟨hs1, hhs⟩ : ∃ hs1, hs1 = strOfNums (h.map smlC) := ⟨_, rfl⟩
      have HX : Hid (rItm n (nums s) = (itmL (hdL g0) k vs).map fun f => (f, r)) := by show _ = _; unfold rItm; rw [hcut]; dsimp only; rw [hv, hk]
      have HV := hide hv
      have HL := hide hL
      have CSm : Hid (∀ (hd : ByteArray) (W : World), nums hd = h → Calls Tryz.prog 63 #[.string hd] W fun e w' => e = .returned (.string hs1) ∧ Below W.heap.size W w') := fun hd W h1 => by
        have := small24_land hd W (by rw [← nums_length hd, h1]; omega)
        rwa [h1, ← hhs] at this
      have CI : Hid (∀ (ps : List ByteArray) (g c : Nat) (W : World), nums hs1 = hdL g0 → ps.map nums = vs → Ly W → ps.length ≤ c → (∀ j, j < ps.length → W.cell? ⟨g, j, none⟩ = some (.string (ps.getD j ByteArray.empty))) → Calls Tryz.prog 62 #[.string hs1, .int .i64 k, .slice (some ⟨g, 0, none⟩) ps.length c] W fun e w' => ItPost (itmL (hdL g0) k vs) W e w') := fun ps g c W h0 h1 h2 h3 h4 => by
        have hpl : ps.length = vs.length := by rw [← h1, List.length_map]
        have := it_land hs1 k ps g c W h2 (by rw [← nums_length hs1, h0, ← hsm, List.length_map]; omega) (by omega) (by omega) h3 h4
        rwa [h0, h1] at this
      have HS1 : Hid (∀ hd : ByteArray, nums hd = h → nums hs1 = hdL g0) := fun hd h1 => by
        rw [hhs, ← hsm, nums_strOfNums]
        intro x hx
        obtain ⟨z, hz, rfl⟩ := List.mem_map.1 hx
        have := nums_bound hd z (by rw [h1]; exact hz)
        unfold smlC
        split <;> omega
      have HPS : Hid (∀ ps : List ByteArray, ps.map nums = vs → 0 < ps.length) := fun ps h1 => by rw [← h1, List.length_map] at hv0; exact hv0
      have HBR : Hid (∀ tl : ByteArray, nums tl = t → nums (strOfNums r) = r) := fun tl h1 => nums_strOfNums r (vals_byt tl n vs r (by rw [h1]; exact unhide HV))
      clear hc hnl hcut hk hsm hhl htl hv hv0 hvn hhs
      go_enter Tryz.func43, Tryz.ntmps43
      go_upto_region 8 with (first
        | (go_at_call 62; refine (unhide CI ps g9 c9 _ (unhide HS1 _ hh2) hps ((unhide HL).keep t4) hcap hcel).mono ?_; rintro e w5 ⟨x, e4, rfl, hx, hfe, b5⟩; obtain ⟨x1, y1, x2, y2, rfl, -⟩ := hx.flv.open; have HR5 := keep_blk HR4 b5; have t5 := t4.trans (b5.mono t4.size); have HXX := hide hx; have HFE := hide hfe; clear hx hfe)
        | (go_at_call 63; refine (unhide CSm _ _ hh2).mono ?_; rintro e w4 ⟨rfl, b4⟩; have HR4 := keep_blk HR3 b4; have t4 := t3.trans (b4.mono t3.size); have hcel := (fun j hj => (b4.cell (cell_lt (hc3 j hj))).trans (hc3 j hj)))
        | (go_at_call 61; refine (unhide CR _ _ ht2 (unhide HL2)).mono ?_; rintro e w3 ⟨hp3, b3⟩; rw [ht2, unhide HV] at hp3; obtain ⟨v3, ps, rfl, hT, hps⟩ := hp3; dsimp only at hps; have hps0 := unhide HPS _ hps; obtain ⟨g9, c9, rfl, hcap, hc3⟩ := hT.at2 hps0; have HR3 := keep_blk HR2 b3; have t3 := t2.trans (b3.mono t2.size))
        | (go_at_call 60; refine (unhide CC).mono ?_; rintro e w2 ⟨⟨hd, tl, rfl, hh2, ht2⟩, b2⟩; dsimp only at hh2 ht2; have HR2 := keep_blk HR b2; have t2 := HB.trans (b2.mono HB.size); have HL2 := hide ((unhide HL).keep t2)))
      have HBX := heap_new w5 (.cells (cFl e4.kin e4.nam e4.val e4.ini x1 e4.any.length y1 e4.fin e4.hi e4.hf e4.rul e4.dn x2 e4.kids.length y2) 27)
      have HR6 := keep_blk HR5 (Below.one w5 (.cells (cFl e4.kin e4.nam e4.val e4.ini x1 e4.any.length y1 e4.fin e4.hi e4.hf e4.rul e4.dn x2 e4.kids.length y2) 27))
      have t6 := t5.trans ((Below.one w5 (.cells (cFl e4.kin e4.nam e4.val e4.ini x1 e4.any.length y1 e4.fin e4.hi e4.hf e4.rul e4.dn x2 e4.kids.length y2) 27)).mono t5.size)
      have hz5 := blk_lt24 HR5
      have hz4 := t4.size
      have HXP : Hid (FlVP (fun b => w.heap.size < b ∧ b < w5.heap.size) (w5.alloc (.cells (cFl e4.kin e4.nam e4.val e4.ini x1 e4.any.length y1 e4.fin e4.hi e4.hf e4.rul e4.dn x2 e4.kids.length y2) 27)) e4 (.agg #[.int .i64 e4.kin, .string e4.nam, .string e4.val, .string e4.ini, .slice x1 e4.any.length y1, .string e4.fin, .bool e4.hi, .bool e4.hf, .string e4.rul, .bool e4.dn, .slice x2 e4.kids.length y2])) := (unhide HXX).mono (fun b hb => ⟨by have z := blk_lt24 HR4; omega, hb.2⟩) (fun b hb => (Below.one w5 (.cells (cFl e4.kin e4.nam e4.val e4.ini x1 e4.any.length y1 e4.fin e4.hi e4.hf e4.rul e4.dn x2 e4.kids.length y2) 27)).block b hb.2)
      have HRB := hide (unhide HBR _ ht2)
      have hg5 : ¬ w.heap.size = w5.heap.size := by omega
      have hg6 : ¬ w5.heap.size = w.heap.size := by omega
      clear HXX HR5 HR4 HR3 HR2 HR t5 t4 t3 t2 CC CR CSm CI HS1 HPS HBR hz5 hz4 b5 b4 b3 b2 HB hcel hc3 hT ht2 hh2 hps hps0 hcap HL2 HL
      have HSZ : Hid (w5.heap.size < (w5.alloc (.cells (cFl e4.kin e4.nam e4.val e4.ini x1 e4.any.length y1 e4.fin e4.hi e4.hf e4.rul e4.dn x2 e4.kids.length y2) 27)).heap.size) := by show _ < _; rw [World.size_alloc]; omega
      generalize w5.alloc (.cells (cFl e4.kin e4.nam e4.val e4.ini x1 e4.any.length y1 e4.fin e4.hi e4.hf e4.rul e4.dn x2 e4.kids.length y2) 27) = w6 at *
      obtain ⟨m0, m1, m2, m3, m4, m5, m6, m7, m8, m9, m10⟩ := cells11 HR6
      obtain ⟨k0, k1, k2, k3, k4, k5, k6, k7, k8, k9, k10⟩ := cells11 HBX
      have frR := froz11 HR6
      go_wp2
      refine bodyPost_ret (res_fil3 rfl _ _ w.heap.size (.int .i64 e4.kin) (.string e4.nam) (.string e4.val) (.string e4.ini) (.slice x1 e4.any.length y1) (.string e4.fin) (.bool e4.hi) (.bool e4.hf) (.string e4.rul) (.bool e4.dn) (.slice x2 e4.kids.length y2) rfl (by
        refine put11h (a0 := (.int .i64 0)) (a1 := (.string ⟨#[]⟩)) (a2 := (.string ⟨#[]⟩)) (a3 := (.string ⟨#[]⟩)) (a4 := (.slice none 0 0)) (a5 := (.string ⟨#[]⟩)) (a6 := (.bool false)) (a7 := (.bool false)) (a8 := (.string ⟨#[]⟩)) (a9 := (.bool false)) (a10 := (.slice none 0 0)) ?_
        with_reducible exact HR6)) rfl ?_
      refine ⟨_, _, e4, by rw [unhide HX, Option.isSome_map]; rfl, (unhide HXP).mono (fun b hb => ⟨Nat.le_of_lt hb.1, by have z := unhide HSZ; have y := hb.2; simp only [World.setCell]; simpa using (by omega : b < w6.heap.size)⟩) (fun b hb => by
        have hne : b ≠ w.heap.size := by have := hb.1; omega
        repeat (first | with_reducible rfl | refine (Below.heap_setCell _ _ _ _ hne).trans ?_)), (fun f r' hf => by
        rw [unhide HX] at hf
        cases hi : itmL (hdL g0) k vs with
        | none => rw [hi] at hf; cases hf
        | some f' => rw [hi] at hf; cases hf; exact ⟨unhide HFE f hi, unhide HRB⟩), ?_⟩
      repeat (first | with_reducible exact t6 | refine Below.setCell ?_ (by first | omega | (dsimp only; omega)) _)
end Go.Proofs.YthbldkkjjjmegaaGreatDoor
/- The landed readKids, readFilter of layer 24. (By gen_rfl.py.) -/
namespace Go.Proofs.YthbldkkjjjmegaaGreatDoor
set_option maxRecDepth 100000
open Go.RowKit

/-- That a filter is read so, from texts of at most so many bytes. -/
def RdOf (k : Nat) : Prop := ∀ (s : ByteArray) (w : World), Ly w → s.size ≤ k → s.size ≤ 4000 → Calls Tryz.prog 27 #[.string s] w fun e w' => RfPost (readN k (nums s)) w e w'
/-- What readKids answers. -/
def RkPost (o : Option (List Fl × List Int)) (w : World) (e : Ending) (w' : World) : Prop :=
  match o with
  | none => ∃ v rs, e = .returned (.tuple #[v, .string rs, .bool false]) ∧ v = .slice none 0 0 ∧ Below w.heap.size w w'
  | some x => ∃ v rs, e = .returned (.tuple #[v, .string rs, .bool true]) ∧ Ko w.heap.size v x.1 w' ∧ nums rs = x.2 ∧ x.1.length ≤ 100000 ∧ Below w.heap.size w w'
theorem ret_vsb25 {v v2 : Value} {a b : ByteArray} {x y : Bool} (h1 : v = v2) (h2 : a = b) (h3 : x = y) : Ending.returned (.tuple #[v, .string a, .bool x]) = .returned (.tuple #[v2, .string b, .bool y]) := by rw [h1, h2, h3]
set_option maxRecDepth 4000 in
set_option maxHeartbeats 12800000 in
theorem rkids_land (k : Nat) (IH : RdOf k) (s : ByteArray) (n : Nat) (w : World) (hL : Ly w) (hk : s.size ≤ k) (hs : s.size ≤ 4000) (hn : s.size < n) : Calls Tryz.prog 44 #[.string s] w fun e w' => RkPost (kidsN (readN k) n [] (nums s)) w e w' := by
  obtain ⟨i0, hi, hz0, hz1, hz2⟩ := info_parts fl_info
  have HIH := hide IH
  have HLL := hide hL
  clear hL IH
  go_enter Tryz.func44, Tryz.ntmps44
  go_wp2
  go_loopw [0, 5] (fun vs vo wr => ∃ (cur : ByteArray) (acc : List Fl) (m : Nat), vs = .string cur ∧ cur.size ≤ s.size ∧ acc.length + cur.size ≤ s.size ∧ cur.size < m ∧ Hid (kidsN (readN k) n [] (nums s) = kidsN (readN k) m acc (nums cur)) ∧ Hid (Ko w.heap.size vo acc wr) ∧ Below w.heap.size w wr) (fun vs _ _ => szOf vs)
  case atStart => exact ⟨s, [], n, rfl, Nat.le_refl _, by simp, hn, by show _ = _; rfl, Ko.nil _ _, Below.refl _ _⟩
  case round =>
    obtain ⟨cur, acc, m, rfl, hcs, hacc, hm, HG, HK, hb⟩ := hrel
    have hsz := hb.size
    obtain ⟨m, rfl⟩ : ∃ j, m = j + 1 := ⟨m - 1, by omega⟩
    obtain ⟨ka, kc, rfl⟩ := (unhide HK).shape
    by_cases h0 : cur.size = 0
    · have he : cur.toList.isEmpty = true := by rw [emp_sz, decide_eq_true h0]
      have HX : Hid (kidsN (readN k) n [] (nums s) = none) := by
        show _ = _
        rw [unhide HG, List.length_eq_zero_iff.1 (by rw [nums_length]; exact h0 : (nums cur).length = 0)]
        rfl
      clear HG h0
      go_wp2
      go_ret3
      rw [unhide HX]
      exact ⟨_, ⟨#[]⟩, rfl, rfl, hb⟩
    have hem : cur.toList.isEmpty = false := by rw [emp_sz, decide_eq_false h0]
    have hs0 : 0 < cur.size := by omega
    obtain ⟨c, hc⟩ : ∃ c : Int, (cur[0].toNat : Int) = c := ⟨_, rfl⟩
    have hat : (nums cur).getD 0 0 = c := by rw [nums_at cur 0 hs0]; exact hc
    have hcons : nums cur = c :: nums (cur.extract 1 cur.size) := by
      rw [nums_drop, ← hat]
      have h := drop_consI (nums cur) 0 (by rw [nums_length]; exact hs0)
      rw [List.drop_zero] at h
      exact h
    have z00 : (0 : Int) < (cur.size : Int) := by omega
    have z11 : (1 : Int) ≤ (cur.size : Int) := by omega
    by_cases h41 : c = 41
    · have HX : Hid (kidsN (readN k) n [] (nums s) = some (acc, nums (cur.extract 1 cur.size))) := by
        show _ = _
        rw [unhide HG, hcons, kidsN, if_pos h41]
      have hal : acc.length ≤ 100000 := by omega
      subst h41
      clear HG h0 hat hcons
      go_wp2
      go_quiet (fail)
      go_wp2
      go_ret3
      rw [unhide HX]
      exact ⟨_, _, rfl, (unhide HK).below (below_drewN (Below.refl _ _) _), rfl, hal, below_drewN hb _⟩
    · have g41 : (c == 41) = false := by rw [beq_eq_false_iff_ne]; exact h41
      have CR := hide (unhide HIH cur wr ((unhide HLL).keep hb) (by omega) (by omega))
      cases hr : readN k (nums cur) with
      | none =>
        have HX : Hid (kidsN (readN k) n [] (nums s) = none) := by
          show _ = _
          rw [unhide HG, hcons, kidsN, if_neg h41, ← hcons, hr]
        rw [hr] at CR
        clear HG h0 hat hcons hr
        go_wp2_with (go_at_call 27; refine (unhide CR).mono ?_; rintro e w2 ⟨x, rs, e4, rfl, hx, -, b2⟩; obtain ⟨x1, y1, x2, y2, rfl, -⟩ := hx.flv.open)
        go_ret3
        rw [unhide HX]
        exact ⟨_, ⟨#[]⟩, rfl, rfl, hb.trans ((b2.mono hsz).trans ((Below.one _ _).mono (hb.trans (b2.mono hsz)).size))⟩
      | some y =>
        obtain ⟨f, r⟩ := y
        have HX : Hid (kidsN (readN k) n [] (nums s) = kidsN (readN k) m (acc ++ [f]) r) := by
          show _ = _
          rw [unhide HG, hcons, kidsN, if_neg h41, ← hcons, hr]
        obtain ⟨hrl, hrb, -⟩ := read_doc k (nums cur) f r (nums_bound cur) hr
        rw [nums_length] at hrl
        rw [hr] at CR
        obtain ⟨cs, ho, hf⟩ := unhide HK
        obtain ⟨N, hN⟩ : ∃ N, N = acc.length := ⟨_, rfl⟩
        have HN := hide hN
        rw [← hN] at hacc ho hf ⊢
        have HO := hide ho
        have HF := hide hf
        have HLT : Hid (∀ g, (Value.slice ka N kc).ownBlock = some g → g < wr.heap.size) := fun g hg => (World.ownsRow.lt ho g hg).2
        have hm1 : N + 1 ≤ maxLen := by unfold maxLen; omega
        have hm2 : (N + 1) * 152 ≤ 140737488355328 := by omega
        have HRL : Hid (r.length < cur.size) := hrl
        clear HG h0 hat hcons hr hN hrb hrl ho hf HK
        go_wp2_with (first
          | (at_builtin; refine wpList_append_lies _ rfl _ _ 25 rfl w.heap.size 27 i0 _ 11 152 Tryz.underlying25 hi hz0 hz1 hz2 rfl (by omega) _ N _ rfl (World.ownsRow.alloc (World.ownsRow.alloc (unhide O1) _) _) ⟨w2.heap.size + 1, 0, none⟩ 1 1 [.int .i64 e4.kin, .string e4.nam, .string e4.val, .string e4.ini, .slice x1 e4.any.length y1, .string e4.fin, .bool e4.hi, .bool e4.hf, .string e4.rul, .bool e4.dn, .slice x2 e4.kids.length y2] rfl rfl (World.news_of_block (cs := #[.int .i64 e4.kin, .string e4.nam, .string e4.val, .string e4.ini, .slice x1 e4.any.length y1, .string e4.fin, .bool e4.hi, .bool e4.hf, .string e4.rul, .bool e4.dn, .slice x2 e4.kids.length y2]) (t := 27) (fr := (0, 0)) (by have := heap_new (w2.alloc (.cells (cFl e4.kin e4.nam e4.val e4.ini x1 e4.any.length y1 e4.fin e4.hi e4.hf e4.rul e4.dn x2 e4.kids.length y2) 27)) (.cells (cFl e4.kin e4.nam e4.val e4.ini x1 e4.any.length y1 e4.fin e4.hi e4.hf e4.rul e4.dn x2 e4.kids.length y2) 27); simpa using this)) (by simp [Value.oneCell']) (by omega) hm1 hm2 (by simp; omega) (w2.heap.size + 1 + 1) (by simp) ?_; intro g9 cap9 w9 hown9 hgrow9 hat9 hlt9)
          | (go_at_call 27; refine (unhide CR).mono ?_; rintro e w2 ⟨x, rs, e4, rfl, hx, hfr, b2⟩; obtain ⟨x1, y1, x2, y2, rfl, -⟩ := hx.flv.open; obtain ⟨hfe, hrs⟩ := hfr _ _ rfl; have HFE := hide hfe; have HRS := hide hrs; have HP := hide hx; have s1 := b2.size; have O1 := hide (own_below (unhide HO) b2); clear hx hfr hfe hrs))
        go_roundw
        case rel =>
          have bb : Below w2.heap.size w2 ((w2.alloc (.cells (cFl e4.kin e4.nam e4.val e4.ini x1 e4.any.length y1 e4.fin e4.hi e4.hf e4.rul e4.dn x2 e4.kids.length y2) 27)).alloc (.cells (cFl e4.kin e4.nam e4.val e4.ini x1 e4.any.length y1 e4.fin e4.hi e4.hf e4.rul e4.dn x2 e4.kids.length y2) 27)) := ((Gr.one w2 _).alloc _).below
          have b13 := b2.trans (bb.mono s1)
          have hs3 : ((w2.alloc (.cells (cFl e4.kin e4.nam e4.val e4.ini x1 e4.any.length y1 e4.fin e4.hi e4.hf e4.rul e4.dn x2 e4.kids.length y2) 27)).alloc (.cells (cFl e4.kin e4.nam e4.val e4.ini x1 e4.any.length y1 e4.fin e4.hi e4.hf e4.rul e4.dn x2 e4.kids.length y2) 27)).heap.size = w2.heap.size + 1 + 1 := by simp
          have hrz : rs.size = r.length := by rw [← unhide HRS, nums_length]
          have hrl := unhide HRL
          refine ⟨rs, acc ++ [f], m, rfl, by omega, by rw [List.length_append, ← unhide HN]; simp only [List.length_cons, List.length_nil]; omega, by omega, by rw [unhide HRS]; exact HX, ?_, ?_⟩
          · rw [unhide HFE]
            refine Ko.push (unhide HN) (w := (w2.alloc (.cells (cFl e4.kin e4.nam e4.val e4.ini x1 e4.any.length y1 e4.fin e4.hi e4.hf e4.rul e4.dn x2 e4.kids.length y2) 27)).alloc (.cells (cFl e4.kin e4.nam e4.val e4.ini x1 e4.any.length y1 e4.fin e4.hi e4.hf e4.rul e4.dn x2 e4.kids.length y2) 27)) ?_ ?_ hown9 hgrow9 hat9 hs3
            · exact FlatF.kept (fun g hg => ⟨hg.1, by rw [hs3]; have := hg.2.1; omega, hg.2.2⟩) (fun g hg => b13.block g hg.2.1) _ _ (unhide HF)
            · refine (unhide HP).mono (fun g hg => ⟨by have := hg.1; omega, by rw [hs3]; have := hg.2; omega, fun e => ?_⟩) (fun g hg => bb.block g hg.2)
              have h5 := unhide HLT g e.symm
              have h6 := hg.1
              omega
          · exact (hb.trans (b13.mono hsz)).trans (below_own hgrow9 (by rw [hs3]; omega) (own_block (unhide HO)))
        case measure =>
          show szOf (.string rs) < szOf (.string cur)
          have hrz : rs.size = r.length := by rw [← unhide HRS, nums_length]
          have hrl := unhide HRL
          simp only [szOf]
          omega
end Go.Proofs.YthbldkkjjjmegaaGreatDoor
