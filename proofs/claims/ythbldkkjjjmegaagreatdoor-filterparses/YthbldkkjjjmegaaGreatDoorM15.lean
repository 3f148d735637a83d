/- The document's item of layer 24. (By gen_ri.py.) -/
import Derived.Test.YthbldkkjjjmegaaGreatDoorM14
namespace Go.Proofs.YthbldkkjjjmegaaGreatDoor
set_option maxRecDepth 100000
open Go.RowKit

theorem exF_open {w : World} {n r : ByteArray} {d : Bool} {x : Value} (h : FlV w (exF n r d) x) : ∃ a1 c1 a2 c2, x = .agg #[.int .i64 9, .string n, .string ⟨#[]⟩, .string ⟨#[]⟩, .slice a1 0 c1, .string ⟨#[]⟩, .bool false, .bool false, .string r, .bool d, .slice a2 0 c2] := by
  unfold exF at h
  simp only [FlV] at h
  obtain ⟨a1, c1, a2, c2, hx, _⟩ := h
  exact ⟨a1, c1, a2, c2, hx⟩
theorem flv_itm (P : Nat → Prop) (w : World) (k : Int) (n v r : ByteArray) (d : Bool) (a1 a2 : Option Addr) (c1 c2 : Nat) : FlVP P w (.mk k n v ⟨#[]⟩ [] ⟨#[]⟩ false false r d []) (.agg #[.int .i64 k, .string n, .string v, .string ⟨#[]⟩, .slice a1 0 c1, .string ⟨#[]⟩, .bool false, .bool false, .string r, .bool d, .slice a2 0 c2]) := fun W2 _ => by
  simp only [FlV]
  exact ⟨a1, c1, a2, c2, rfl, TxC.nil _ _, by decide, .inl rfl⟩
theorem put1h {W : World} {g : Nat} {a0 a1 a2 a3 a4 a5 a6 a7 a8 a9 a10 b1 : Value} {T : TypeId} (h : W.heap[g]? = some (.cells #[a0, a1, a2, a3, a4, a5, a6, a7, a8, a9, a10] T)) : (W.setCell ⟨g, 1, none⟩ b1).heap[g]? = some (.cells #[a0, b1, a2, a3, a4, a5, a6, a7, a8, a9, a10] T) := by
  simp [World.setCell, Array.getElem?_modify, h]
theorem item_none {l : List Int} (h : cutL 61 l = none) : itemP l = none := by unfold itemP; rw [h]
theorem item_gt {l h t : List Int} (hc : cutL 61 l = some (h, t)) (hl : h.getLast? = some 62) : itemP l = (plainV t).map fun v => itmF 5 (h.dropLast.map smlC) v [] false := by
  unfold itemP; rw [hc]; dsimp only; rw [if_pos hl]
theorem item_lt {l h t : List Int} (hc : cutL 61 l = some (h, t)) (hl : h.getLast? = some 60) : itemP l = (plainV t).map fun v => itmF 6 (h.dropLast.map smlC) v [] false := by
  unfold itemP; rw [hc]; dsimp only; rw [hl, if_neg (by decide), if_pos rfl]
theorem item_ap {l h t : List Int} (hc : cutL 61 l = some (h, t)) (hl : h.getLast? = some 126) : itemP l = (plainV t).map fun v => itmF 8 (h.dropLast.map smlC) v [] false := by
  unfold itemP; rw [hc]; dsimp only; rw [hl, if_neg (by decide), if_neg (by decide), if_pos rfl]
theorem item_ex {l h t : List Int} (hc : cutL 61 l = some (h, t)) (hl : h.getLast? = some 58) : itemP l = (match extP (splitL 58 (h.dropLast.map smlC)) with
    | none => none
    | some (n, d, r) => (plainV t).map fun v => itmF 9 n v r d) := by
  unfold itemP; rw [hc]; dsimp only; rw [hl, if_neg (by decide), if_neg (by decide), if_neg (by decide), if_pos rfl]
  rfl
theorem item_df {l h t : List Int} (hc : cutL 61 l = some (h, t)) (h1 : ¬ h.getLast? = some 62) (h2 : ¬ h.getLast? = some 60) (h3 : ¬ h.getLast? = some 126) (h4 : ¬ h.getLast? = some 58) : itemP l = if 1 < (splitL 42 t).length then starP (h.map smlC) (splitL 42 t) else (plainV t).map fun v => itmF 3 (h.map smlC) v [] false := by
  unfold itemP; rw [hc]; dsimp only; rw [if_neg h1, if_neg h2, if_neg h3, if_neg h4]
theorem last_take (l : List Int) (j : Nat) (h : j < l.length) : (l.take (j + 1)).getLast? = some (l.getD j 0) ∧ (l.take (j + 1)).dropLast = l.take j := by
  rw [List.take_succ_eq_append_getElem h, List.dropLast_concat, last_one]
  exact ⟨by simp [List.getD, h], rfl⟩
theorem nums_head (s : ByteArray) (j : Nat) : nums (s.extract 0 j) = (nums s).take j := by rw [nums_sub]; simp
set_option maxRecDepth 4000 in
set_option maxHeartbeats 12800000 in
theorem ritem_any (s : ByteArray) (w : World) (hs : s.size ≤ 4000) : Calls Tryz.prog 46 #[.string s] w fun y w' => ∃ x, y = .returned (.tuple #[x, .bool (itemP (nums s)).isSome]) ∧ (∃ e, FlVP (fun k => w.heap.size ≤ k ∧ k < w'.heap.size) w' e x ∧ ∀ e', itemP (nums s) = some e' → e' = e) ∧ Below w.heap.size w w' := by
  have HZ0 : Hid ((w.alloc (.cells #[.int .i64 0, .string ⟨#[]⟩, .string ⟨#[]⟩, .string ⟨#[]⟩, .slice none 0 0, .string ⟨#[]⟩, .bool false, .bool false, .string ⟨#[]⟩, .bool false, .slice none 0 0] 27)).heap[w.heap.size]? = some (.cells #[.int .i64 0, .string ⟨#[]⟩, .string ⟨#[]⟩, .string ⟨#[]⟩, .slice none 0 0, .string ⟨#[]⟩, .bool false, .bool false, .string ⟨#[]⟩, .bool false, .slice none 0 0] 27) ∧ Below w.heap.size w (w.alloc (.cells #[.int .i64 0, .string ⟨#[]⟩, .string ⟨#[]⟩, .string ⟨#[]⟩, .slice none 0 0, .string ⟨#[]⟩, .bool false, .bool false, .string ⟨#[]⟩, .bool false, .slice none 0 0] 27)) ∧ w.heap.size < (w.alloc (.cells #[.int .i64 0, .string ⟨#[]⟩, .string ⟨#[]⟩, .string ⟨#[]⟩, .slice none 0 0, .string ⟨#[]⟩, .bool false, .bool false, .string ⟨#[]⟩, .bool false, .slice none 0 0] 27)).heap.size) := ⟨heap_new w (.cells #[.int .i64 0, .string ⟨#[]⟩, .string ⟨#[]⟩, .string ⟨#[]⟩, .slice none 0 0, .string ⟨#[]⟩, .bool false, .bool false, .string ⟨#[]⟩, .bool false, .slice none 0 0] 27), Below.one w (.cells #[.int .i64 0, .string ⟨#[]⟩, .string ⟨#[]⟩, .string ⟨#[]⟩, .slice none 0 0, .string ⟨#[]⟩, .bool false, .bool false, .string ⟨#[]⟩, .bool false, .slice none 0 0] 27), by rw [World.size_alloc]; omega⟩
  have hnl := hide (nums_length s)
  go_enter Tryz.func46, Tryz.ntmps46
  go_upto_region 1 with fail
  go_wp2
  go_loopw [4] (fun vi wr => ∃ i : Nat, vi = .int .i64 (i : Int) ∧ i ≤ s.size ∧ Hid (∀ x ∈ (nums s).take i, x ≠ 61) ∧ Hid (wr.heap[w.heap.size]? = some (.cells #[.int .i64 0, .string ⟨#[]⟩, .string ⟨#[]⟩, .string ⟨#[]⟩, .slice none 0 0, .string ⟨#[]⟩, .bool false, .bool false, .string ⟨#[]⟩, .bool false, .slice none 0 0] 27) ∧ Below w.heap.size w wr ∧ w.heap.size < wr.heap.size)) (fun i _ => s.size - (intOf i).toNat)
  case atStart => exact ⟨0, rfl, Nat.zero_le _, by show ∀ x ∈ (nums s).take 0, x ≠ 61; simp, HZ0⟩
  case round =>
    obtain ⟨i, rfl, his, HT, HZ⟩ := hrel
    clear HZ0
    have zi0 : (0 : Int) ≤ (i : Int) := by omega
    by_cases hlt : i < s.size
    · have zl : (i : Int) < (s.size : Int) := by omega
      obtain ⟨c, hc⟩ : ∃ c : Int, (s[i].toNat : Int) = c := ⟨_, rfl⟩
      have HAT : Hid ((nums s).getD i 0 = c) := by show _ = _; rw [nums_at s i hlt]; exact hc
      by_cases hq : c = 61
      · have nz : ((i : Int) == (s.size : Int)) = false := by rw [beq_eq_false_iff_ne]; omega
        have HC : Hid (cutL 61 (nums s) = some ((nums s).take i, (nums s).drop (i + 1))) := by
          show _ = _
          have e : nums s = (nums s).take i ++ 61 :: (nums s).drop (i + 1) := by
            conv => lhs; rw [← List.take_append_drop i (nums s), drop_consI (nums s) i (by rw [unhide hnl]; exact hlt), unhide HAT, hq]
          conv => lhs; rw [e]
          exact cut_at 61 _ _ (unhide HT)
        clear HAT HT
        subst hq
        have zwr := (unhide HZ).2.2
        have TT1 : Hid (Below w.heap.size w (wr.alloc (.cells #[.int .i64 3, .string ⟨#[]⟩, .string ⟨#[]⟩, .string ⟨#[]⟩, .slice none 0 0, .string ⟨#[]⟩, .bool false, .bool false, .string ⟨#[]⟩, .bool false, .slice none 0 0] 27))) := (unhide HZ).2.1.trans ((Below.one wr (.cells #[.int .i64 3, .string ⟨#[]⟩, .string ⟨#[]⟩, .string ⟨#[]⟩, .slice none 0 0, .string ⟨#[]⟩, .bool false, .bool false, .string ⟨#[]⟩, .bool false, .slice none 0 0] 27)).mono (unhide HZ).2.1.size)
        have HHR := hide (keep_blk (unhide HZ).1 (Below.one wr (.cells #[.int .i64 3, .string ⟨#[]⟩, .string ⟨#[]⟩, .string ⟨#[]⟩, .slice none 0 0, .string ⟨#[]⟩, .bool false, .bool false, .string ⟨#[]⟩, .bool false, .slice none 0 0] 27)))
        have HHF := hide (heap_new wr (.cells #[.int .i64 3, .string ⟨#[]⟩, .string ⟨#[]⟩, .string ⟨#[]⟩, .slice none 0 0, .string ⟨#[]⟩, .bool false, .bool false, .string ⟨#[]⟩, .bool false, .slice none 0 0] 27))
        obtain ⟨k, hk⟩ : ∃ k, k = i + 1 := ⟨_, rfl⟩
        have wk : IntKind.i64.wrap ((i : Int) + 1) = (k : Int) := by rw [wrap_in (by omega) (by omega)]; omega
        have zk0 : (0 : Int) ≤ (k : Int) := by omega
        have zks : (k : Int) ≤ (s.size : Int) := by omega
        rw [← hk] at HC
        obtain ⟨t, ht⟩ : ∃ t, t = s.extract k s.size := ⟨_, rfl⟩
        have HTN : Hid ((nums s).drop k = nums t) := by show _ = _; rw [ht, nums_drop]
        rw [unhide HTN] at HC
        have hts : t.size ≤ 4000 := by rw [ht, ByteArray.size_extract]; omega
        have CP := hide (fun W => rplain24_any t W (by omega))
        have CSP := hide (fun W => rsplit24_any t 42 W (by omega))
        have CST := hide (fun n W => rstarred_any n t W hts)
        have HTE := hide ht
        rw [ht] at CP CSP CST
        clear hts ht HTN
        have HK := hide hk
        clear hk
        by_cases hi0 : i = 0
        · have HD : Hid (itemP (nums s) = if 1 < (splitL 42 (nums t)).length then starP (((nums s).take i).map smlC) (splitL 42 (nums t)) else (plainV (nums t)).map fun v => itmF 3 (((nums s).take i).map smlC) v [] false) := by
            have e0 : (nums s).take i = [] := by rw [hi0]; rfl
            exact item_df (unhide HC) (by rw [e0]; decide) (by rw [e0]; decide) (by rw [e0]; decide) (by rw [e0]; decide)
          have zi : ¬ (0 : Int) < (i : Int) := by omega
          have zis : (i : Int) ≤ (s.size : Int) := by omega
          clear hi0 HC

          rw [← nums_head s i] at HD
          obtain ⟨nm, hnm⟩ : ∃ nm, nm = strOfNums ((nums (s.extract 0 i)).map smlC) := ⟨_, rfl⟩
          have CL := hide (fun W => rlower24_any (s.extract 0 i) W (by rw [ByteArray.size_extract]; omega))
          rw [← hnm] at CL
          have hnn : nums nm = (nums (s.extract 0 i)).map smlC := by
            rw [hnm, nums_strOfNums]
            intro x hx
            obtain ⟨y, hy, rfl⟩ := List.mem_map.1 hx
            have := nums_bound (s.extract 0 i) y hy
            unfold smlC
            split <;> omega
          rw [← hnn] at HD
          clear hnm hnn
          by_cases hN : 1 < (splitL 42 (nums t)).length
          · have hX : itemP (nums s) = starP (nums nm) (splitL 42 (nums t)) := by rw [unhide HD, if_pos hN]
            have HNN := hide hN
            rw [unhide HTE] at hX
            have HX := hide hX
            rw [← unhide HTE] at CST
            have CSX := hide (fun W => unhide CST nm W hN)
            rw [unhide HTE] at CSX
            clear hX hN CST
            go_wp2_with (first
              | (go_at_call 64; refine (unhide CL _).mono ?_; rintro e w2 ⟨rfl, b2⟩; have HR2 := keep_blk (unhide HHR) b2; have HF2 := keep_blk (unhide HHF) b2; have t2 := (unhide TT1).trans (b2.mono (unhide TT1).size); obtain ⟨k0, k1, k2, k3, k4, k5, k6, k7, k8, k9, k10⟩ := cells11 HF2; obtain ⟨m0, m1, m2, m3, m4, m5, m6, m7, m8, m9, m10⟩ := cells11 HR2; have frF := froz11 HF2; have frR := froz11 HR2)
              | (go_at_call 66; refine (unhide CSP _).mono ?_; rintro e w3 ⟨v9, ps, rfl, hps, hpz, hpl, hT, b3⟩; have HR3 : w3.heap[w.heap.size]? = some (.cells #[.int .i64 0, .string ⟨#[]⟩, .string ⟨#[]⟩, .string ⟨#[]⟩, .slice none 0 0, .string ⟨#[]⟩, .bool false, .bool false, .string ⟨#[]⟩, .bool false, .slice none 0 0] 27) := keep_blk (B := w.heap.size) (by repeat (first | with_reducible exact HR2 | refine heap_far ?_ (by omega))) b3; have HF3 := keep_blk (put1h HF2) b3; have t3 : Below w.heap.size w w3 := Below.trans (by repeat (first | with_reducible exact t2 | refine Below.setCell ?_ (by dsimp only; omega) _)) (b3.mono (by have z := t2.size; simpa [World.setCell] using z)); have hn1 := congrArg List.length hps; rw [List.length_map, ← unhide HTE] at hn1; have hps0 : 0 < ps.length := (by rw [hn1]; exact List.length_pos_iff.2 (split_ne _ _)); obtain ⟨g9, c9, rfl, _⟩ := hT.at hps0; have zN : (1 : Int) < (ps.length : Int) := (by have zz := unhide HNN; omega); clear hps hpz hpl hn1 hps0 hT; obtain ⟨k0, k1, k2, k3, k4, k5, k6, k7, k8, k9, k10⟩ := cells11 HF3; obtain ⟨m0, m1, m2, m3, m4, m5, m6, m7, m8, m9, m10⟩ := cells11 HR3; have frF := froz11 HF3; have frR := froz11 HR3))
            have HSS : Hid (∀ W : World, W.heap[wr.heap.size]? = some (.cells #[.int .i64 3, .string nm, .string ⟨#[]⟩, .string ⟨#[]⟩, .slice none 0 0, .string ⟨#[]⟩, .bool false, .bool false, .string ⟨#[]⟩, .bool false, .slice none 0 0] 27) → W.cell? ⟨wr.heap.size, 1, none⟩ = some (.string nm)) := fun W hW => (cells11 hW).2.1
            have HF3d : w3.drew.heap[wr.heap.size]? = some (.cells #[.int .i64 3, .string nm, .string ⟨#[]⟩, .string ⟨#[]⟩, .slice none 0 0, .string ⟨#[]⟩, .bool false, .bool false, .string ⟨#[]⟩, .bool false, .slice none 0 0] 27) := HF3
            have hne9 : wr.heap.size ≠ w.heap.size := by have := (unhide HZ).2.2; omega
            go_region_held3 (fun W => W.cell? ⟨wr.heap.size, 1, none⟩ = some (.string nm)) (first | with_reducible exact unhide HSS _ HF3 | with_reducible exact unhide HSS _ HF3d | with_reducible exact unhide HSS _ HF4 | with_reducible exact unhide HSS _ HF4s | assumption | go_keep)
              (first | (go_at_call 67; refine (unhide CSX _).mono ?_; rintro e w4 ⟨x, rfl, ⟨e4, hx, he4⟩, b4⟩; obtain ⟨x1, y1, x2, y2, hxx, _⟩ := hx.flv.open; subst hxx; have HXX := hide hx; have HE4 := hide he4; clear hx he4; have HR4 := keep_blk (W := w3.drew) HR3 b4; obtain ⟨m0, m1, m2, m3, m4, m5, m6, m7, m8, m9, m10⟩ := cells11 HR4; have frR := froz11 HR4; have HF4 := keep_blk (W := w3.drew) HF3 b4; obtain ⟨k0, k1, k2, k3, k4, k5, k6, k7, k8, k9, k10⟩ := cells11 HF4; have HF4s := heap_far (b := w.heap.size) (c := 10) (v := (.slice x2 e4.kids.length y2)) (heap_far (b := w.heap.size) (c := 9) (v := (.bool e4.dn)) (heap_far (b := w.heap.size) (c := 8) (v := (.string e4.rul)) (heap_far (b := w.heap.size) (c := 7) (v := (.bool e4.hf)) (heap_far (b := w.heap.size) (c := 6) (v := (.bool e4.hi)) (heap_far (b := w.heap.size) (c := 5) (v := (.string e4.fin)) (heap_far (b := w.heap.size) (c := 4) (v := (.slice x1 e4.any.length y1)) (heap_far (b := w.heap.size) (c := 3) (v := (.string e4.ini)) (heap_far (b := w.heap.size) (c := 2) (v := (.string e4.val)) (heap_far (b := w.heap.size) (c := 1) (v := (.string e4.nam)) (heap_far (b := w.heap.size) (c := 0) (v := (.int .i64 e4.kin)) (HF4) hne9) hne9) hne9) hne9) hne9) hne9) hne9) hne9) hne9) hne9) hne9; have t4 : Below w.heap.size w w4 := t3.drew.trans (Below.mono b4 t3.drew.size)))
            all_goals
              go_wp2
              refine bodyPost_ret (res_fil2 rfl _ _ w.heap.size (.int .i64 e4.kin) (.string e4.nam) (.string e4.val) (.string e4.ini) (.slice x1 e4.any.length y1) (.string e4.fin) (.bool e4.hi) (.bool e4.hf) (.string e4.rul) (.bool e4.dn) (.slice x2 e4.kids.length y2) rfl (by
                refine put11h (a0 := (.int .i64 0)) (a1 := (.string ⟨#[]⟩)) (a2 := (.string ⟨#[]⟩)) (a3 := (.string ⟨#[]⟩)) (a4 := (.slice none 0 0)) (a5 := (.string ⟨#[]⟩)) (a6 := (.bool false)) (a7 := (.bool false)) (a8 := (.string ⟨#[]⟩)) (a9 := (.bool false)) (a10 := (.slice none 0 0)) ?_
                with_reducible exact HR4)) rfl ?_
              have z3 : w.heap.size < w3.heap.size := blk_lt24 HR3
              refine ⟨_, by rw [unhide HX]; rfl, ⟨e4, (unhide HXX).mono (fun k9 hk9 => ⟨Nat.le_trans (Nat.le_of_lt z3) hk9.1, by have := hk9.2; simpa [World.setCell] using this⟩) (fun k9 hk9 => by
                have hne : k9 ≠ w.heap.size := by have := hk9.1; have : w3.drew.heap.size = w3.heap.size := rfl; omega
                repeat (first | with_reducible rfl | refine (Below.heap_setCell _ _ _ _ hne).trans ?_)), (fun e he => unhide HE4 e (by rw [← unhide HX]; exact he))⟩, ?_⟩
              repeat (first | with_reducible exact t4 | refine Below.setCell ?_ (by dsimp only; omega) _)
          · have HNN := hide hN
            clear hN
            cases hpv : plainV (nums t) with
            | none =>
              obtain ⟨hA, hBo⟩ := pl_none hpv
              rw [← unhide HTE, ← hA, ← hBo] at CP
              rw [unhide HTE] at CP
              have hX : itemP (nums s) = none := by
                rw [unhide HD, if_neg (unhide HNN)]
                simp [hpv]
              have HX := hide hX
              clear hX
              clear hA hBo hpv
              go_wp2_with (first
                | (go_at_call 64; refine (unhide CL _).mono ?_; rintro e w2 ⟨rfl, b2⟩; have HR2 := keep_blk (unhide HHR) b2; have HF2 := keep_blk (unhide HHF) b2; have t2 := (unhide TT1).trans (b2.mono (unhide TT1).size); obtain ⟨k0, k1, k2, k3, k4, k5, k6, k7, k8, k9, k10⟩ := cells11 HF2; obtain ⟨m0, m1, m2, m3, m4, m5, m6, m7, m8, m9, m10⟩ := cells11 HR2; have frF := froz11 HF2; have frR := froz11 HR2)
                | (go_at_call 66; refine (unhide CSP _).mono ?_; rintro e w3 ⟨v9, ps, rfl, hps, hpz, hpl, hT, b3⟩; have HR3 : w3.heap[w.heap.size]? = some (.cells #[.int .i64 0, .string ⟨#[]⟩, .string ⟨#[]⟩, .string ⟨#[]⟩, .slice none 0 0, .string ⟨#[]⟩, .bool false, .bool false, .string ⟨#[]⟩, .bool false, .slice none 0 0] 27) := keep_blk (B := w.heap.size) (by repeat (first | with_reducible exact HR2 | refine heap_far ?_ (by omega))) b3; have HF3 := keep_blk (put1h HF2) b3; have t3 : Below w.heap.size w w3 := Below.trans (by repeat (first | with_reducible exact t2 | refine Below.setCell ?_ (by dsimp only; omega) _)) (b3.mono (by have z := t2.size; simpa [World.setCell] using z)); have hn1 := congrArg List.length hps; rw [List.length_map, ← unhide HTE] at hn1; have hps0 : 0 < ps.length := (by rw [hn1]; exact List.length_pos_iff.2 (split_ne _ _)); obtain ⟨g9, c9, rfl, _⟩ := hT.at hps0; have zN : ¬ (1 : Int) < (ps.length : Int) := (by have zz := unhide HNN; omega); clear hps hpz hpl hn1 hps0 hT; obtain ⟨k0, k1, k2, k3, k4, k5, k6, k7, k8, k9, k10⟩ := cells11 HF3; obtain ⟨m0, m1, m2, m3, m4, m5, m6, m7, m8, m9, m10⟩ := cells11 HR3; have frF := froz11 HF3; have frR := froz11 HR3)
                | (go_at_call 68; refine (unhide CP _).mono ?_; rintro e w4 ⟨rfl, b4⟩; have HR4 : w4.heap[w.heap.size]? = some (.cells #[.int .i64 0, .string ⟨#[]⟩, .string ⟨#[]⟩, .string ⟨#[]⟩, .slice none 0 0, .string ⟨#[]⟩, .bool false, .bool false, .string ⟨#[]⟩, .bool false, .slice none 0 0] 27) := keep_blk (B := w.heap.size) (by repeat (first | with_reducible exact HR3 | refine heap_far ?_ (by omega))) b4; have HF4 := keep_blk (HF3) b4; have t4 : Below w.heap.size w w4 := Below.trans (by repeat (first | with_reducible exact t3 | refine Below.setCell ?_ (by dsimp only; omega) _)) (b4.mono (by have z := t3.size; simpa [World.setCell] using z)); obtain ⟨k0, k1, k2, k3, k4, k5, k6, k7, k8, k9, k10⟩ := cells11 HF4; obtain ⟨m0, m1, m2, m3, m4, m5, m6, m7, m8, m9, m10⟩ := cells11 HR4; have frF := froz11 HF4; have frR := froz11 HR4))
              refine bodyPost_ret (res_fil2 rfl _ _ w.heap.size (.int .i64 3) (.string nm) (.string ⟨#[]⟩) (.string ⟨#[]⟩) (.slice none 0 0) (.string ⟨#[]⟩) (.bool false) (.bool false) (.string ⟨#[]⟩) (.bool false) (.slice none 0 0) rfl (by
                refine put11h (a0 := (.int .i64 0)) (a1 := (.string ⟨#[]⟩)) (a2 := (.string ⟨#[]⟩)) (a3 := (.string ⟨#[]⟩)) (a4 := (.slice none 0 0)) (a5 := (.string ⟨#[]⟩)) (a6 := (.bool false)) (a7 := (.bool false)) (a8 := (.string ⟨#[]⟩)) (a9 := (.bool false)) (a10 := (.slice none 0 0)) ?_
                repeat (first | with_reducible exact HR4 | refine heap_far ?_ (by omega)))) rfl ?_
              refine ⟨_, by rw [unhide HX]; rfl, ⟨_, flv_itm _ _ 3 nm ⟨#[]⟩ ⟨#[]⟩ false none none 0 0, (fun e he => by rw [unhide HX] at he; cases he)⟩, ?_⟩
              repeat (first | with_reducible exact t4 | refine Below.setCell ?_ (by dsimp only; omega) _)
            | some v =>
              obtain ⟨hA, hBo⟩ := pl_some hpv
              rw [← unhide HTE, ← hA, ← hBo] at CP
              rw [unhide HTE] at CP
              have hX : itemP (nums s) = some (itmF 3 (nums nm) v [] false) := by
                rw [unhide HD, if_neg (unhide HNN)]
                simp [hpv]
              have HX := hide hX
              clear hX
              clear hA hBo hpv
              go_wp2_with (first
                | (go_at_call 64; refine (unhide CL _).mono ?_; rintro e w2 ⟨rfl, b2⟩; have HR2 := keep_blk (unhide HHR) b2; have HF2 := keep_blk (unhide HHF) b2; have t2 := (unhide TT1).trans (b2.mono (unhide TT1).size); obtain ⟨k0, k1, k2, k3, k4, k5, k6, k7, k8, k9, k10⟩ := cells11 HF2; obtain ⟨m0, m1, m2, m3, m4, m5, m6, m7, m8, m9, m10⟩ := cells11 HR2; have frF := froz11 HF2; have frR := froz11 HR2)
                | (go_at_call 66; refine (unhide CSP _).mono ?_; rintro e w3 ⟨v9, ps, rfl, hps, hpz, hpl, hT, b3⟩; have HR3 : w3.heap[w.heap.size]? = some (.cells #[.int .i64 0, .string ⟨#[]⟩, .string ⟨#[]⟩, .string ⟨#[]⟩, .slice none 0 0, .string ⟨#[]⟩, .bool false, .bool false, .string ⟨#[]⟩, .bool false, .slice none 0 0] 27) := keep_blk (B := w.heap.size) (by repeat (first | with_reducible exact HR2 | refine heap_far ?_ (by omega))) b3; have HF3 := keep_blk (put1h HF2) b3; have t3 : Below w.heap.size w w3 := Below.trans (by repeat (first | with_reducible exact t2 | refine Below.setCell ?_ (by dsimp only; omega) _)) (b3.mono (by have z := t2.size; simpa [World.setCell] using z)); have hn1 := congrArg List.length hps; rw [List.length_map, ← unhide HTE] at hn1; have hps0 : 0 < ps.length := (by rw [hn1]; exact List.length_pos_iff.2 (split_ne _ _)); obtain ⟨g9, c9, rfl, _⟩ := hT.at hps0; have zN : ¬ (1 : Int) < (ps.length : Int) := (by have zz := unhide HNN; omega); clear hps hpz hpl hn1 hps0 hT; obtain ⟨k0, k1, k2, k3, k4, k5, k6, k7, k8, k9, k10⟩ := cells11 HF3; obtain ⟨m0, m1, m2, m3, m4, m5, m6, m7, m8, m9, m10⟩ := cells11 HR3; have frF := froz11 HF3; have frR := froz11 HR3)
                | (go_at_call 68; refine (unhide CP _).mono ?_; rintro e w4 ⟨rfl, b4⟩; have HR4 : w4.heap[w.heap.size]? = some (.cells #[.int .i64 0, .string ⟨#[]⟩, .string ⟨#[]⟩, .string ⟨#[]⟩, .slice none 0 0, .string ⟨#[]⟩, .bool false, .bool false, .string ⟨#[]⟩, .bool false, .slice none 0 0] 27) := keep_blk (B := w.heap.size) (by repeat (first | with_reducible exact HR3 | refine heap_far ?_ (by omega))) b4; have HF4 := keep_blk (HF3) b4; have t4 : Below w.heap.size w w4 := Below.trans (by repeat (first | with_reducible exact t3 | refine Below.setCell ?_ (by dsimp only; omega) _)) (b4.mono (by have z := t3.size; simpa [World.setCell] using z)); obtain ⟨k0, k1, k2, k3, k4, k5, k6, k7, k8, k9, k10⟩ := cells11 HF4; obtain ⟨m0, m1, m2, m3, m4, m5, m6, m7, m8, m9, m10⟩ := cells11 HR4; have frF := froz11 HF4; have frR := froz11 HR4))
              refine bodyPost_ret (res_fil2 rfl _ _ w.heap.size (.int .i64 3) (.string nm) (.string (strOfNums v)) (.string ⟨#[]⟩) (.slice none 0 0) (.string ⟨#[]⟩) (.bool false) (.bool false) (.string ⟨#[]⟩) (.bool false) (.slice none 0 0) rfl (by
                refine put11h (a0 := (.int .i64 0)) (a1 := (.string ⟨#[]⟩)) (a2 := (.string ⟨#[]⟩)) (a3 := (.string ⟨#[]⟩)) (a4 := (.slice none 0 0)) (a5 := (.string ⟨#[]⟩)) (a6 := (.bool false)) (a7 := (.bool false)) (a8 := (.string ⟨#[]⟩)) (a9 := (.bool false)) (a10 := (.slice none 0 0)) ?_
                repeat (first | with_reducible exact HR4 | refine heap_far ?_ (by omega)))) rfl ?_
              refine ⟨_, by rw [unhide HX]; rfl, ⟨_, flv_itm _ _ 3 nm (strOfNums v) ⟨#[]⟩ false none none 0 0, (fun e he => by rw [unhide HX] at he; injection he with he; rw [← he]; unfold itmF; rw [strOfNums_nums]; rfl)⟩, ?_⟩
              repeat (first | with_reducible exact t4 | refine Below.setCell ?_ (by dsimp only; omega) _)

        · obtain ⟨j, hj⟩ : ∃ j, j + 1 = i := ⟨i - 1, by omega⟩
          have wj : IntKind.i64.wrap ((i : Int) - 1) = (j : Int) := by rw [wrap_in (by omega) (by omega)]; omega
          have zi : (0 : Int) < (i : Int) := by omega
          have zj0 : (0 : Int) ≤ (j : Int) := by omega
          have zjs : (j : Int) < (s.size : Int) := by omega
          have zjs2 : (j : Int) ≤ (s.size : Int) := by omega
          have hjs : j < s.size := by omega
          obtain ⟨c, hc⟩ : ∃ c : Int, (s[j].toNat : Int) = c := ⟨_, rfl⟩
          have HL : Hid (((nums s).take i).getLast? = some c) := by
            show _ = _
            rw [← hj, (last_take (nums s) j (by rw [unhide hnl]; exact hjs)).1, nums_at s j hjs, hc]
          have HDR : Hid (((nums s).take i).dropLast = nums (s.extract 0 j)) := by
            show _ = _
            rw [← hj, (last_take (nums s) j (by rw [unhide hnl]; exact hjs)).2, nums_head]
          have HJ := hide hj
          clear hi0 hj
          by_cases c62 : c = 62
          · have CL := hide (fun W => rlower24_any (s.extract 0 j) W (by rw [ByteArray.size_extract]; omega))
            subst c62
            cases hpv : plainV (nums t) with
            | none =>
              obtain ⟨hA, hBo⟩ := pl_none hpv
              rw [← unhide HTE, ← hA, ← hBo] at CP
              rw [unhide HTE] at CP
              have hX : itemP (nums s) = none := by
                rw [item_gt (unhide HC) (unhide HL), unhide HDR]
                simp [hpv]
              have HX := hide hX
              clear hX
              clear hA hBo hpv
              go_wp2_with (first
                | (go_at_call 64; refine (unhide CL _).mono ?_; rintro e w2 ⟨rfl, b2⟩; have HR2 := keep_blk (unhide HHR) b2; have HF2 := keep_blk (unhide HHF) b2; have t2 := (unhide TT1).trans (b2.mono (unhide TT1).size); obtain ⟨k0, k1, k2, k3, k4, k5, k6, k7, k8, k9, k10⟩ := cells11 HF2; obtain ⟨m0, m1, m2, m3, m4, m5, m6, m7, m8, m9, m10⟩ := cells11 HR2; have frF := froz11 HF2; have frR := froz11 HR2)
                | (go_at_call 68; refine (unhide CP _).mono ?_; rintro e w3 ⟨rfl, b3⟩; have HR3 : w3.heap[w.heap.size]? = some (.cells #[.int .i64 0, .string ⟨#[]⟩, .string ⟨#[]⟩, .string ⟨#[]⟩, .slice none 0 0, .string ⟨#[]⟩, .bool false, .bool false, .string ⟨#[]⟩, .bool false, .slice none 0 0] 27) := keep_blk (B := w.heap.size) (by repeat (first | with_reducible exact HR2 | refine heap_far ?_ (by omega))) b3; have HF3 := keep_blk (put11h HF2) b3; have t3 : Below w.heap.size w w3 := Below.trans (by repeat (first | with_reducible exact t2 | refine Below.setCell ?_ (by dsimp only; omega) _)) (b3.mono (by have z := t2.size; simpa [World.setCell] using z)); obtain ⟨k0, k1, k2, k3, k4, k5, k6, k7, k8, k9, k10⟩ := cells11 HF3; obtain ⟨m0, m1, m2, m3, m4, m5, m6, m7, m8, m9, m10⟩ := cells11 HR3; have frF := froz11 HF3; have frR := froz11 HR3))
              refine bodyPost_ret (res_fil2 rfl _ _ w.heap.size (.int .i64 5) (.string (strOfNums ((nums (s.extract 0 j)).map smlC))) (.string ⟨#[]⟩) (.string ⟨#[]⟩) (.slice none 0 0) (.string ⟨#[]⟩) (.bool false) (.bool false) (.string ⟨#[]⟩) (.bool false) (.slice none 0 0) rfl (by
                refine put11h (a0 := (.int .i64 0)) (a1 := (.string ⟨#[]⟩)) (a2 := (.string ⟨#[]⟩)) (a3 := (.string ⟨#[]⟩)) (a4 := (.slice none 0 0)) (a5 := (.string ⟨#[]⟩)) (a6 := (.bool false)) (a7 := (.bool false)) (a8 := (.string ⟨#[]⟩)) (a9 := (.bool false)) (a10 := (.slice none 0 0)) ?_
                repeat (first | with_reducible exact HR3 | refine heap_far ?_ (by omega)))) rfl ?_
              refine ⟨_, by rw [unhide HX]; rfl, ⟨_, flv_itm _ _ 5 (strOfNums ((nums (s.extract 0 j)).map smlC)) ⟨#[]⟩ ⟨#[]⟩ false none none 0 0, (fun e he => by rw [unhide HX] at he; cases he)⟩, ?_⟩
              repeat (first | with_reducible exact t3 | refine Below.setCell ?_ (by dsimp only; omega) _)
            | some v =>
              obtain ⟨hA, hBo⟩ := pl_some hpv
              rw [← unhide HTE, ← hA, ← hBo] at CP
              rw [unhide HTE] at CP
              have hX : itemP (nums s) = some (itmF 5 ((nums (s.extract 0 j)).map smlC) v [] false) := by
                rw [item_gt (unhide HC) (unhide HL), unhide HDR]
                simp [hpv]
              have HX := hide hX
              clear hX
              clear hA hBo hpv
              go_wp2_with (first
                | (go_at_call 64; refine (unhide CL _).mono ?_; rintro e w2 ⟨rfl, b2⟩; have HR2 := keep_blk (unhide HHR) b2; have HF2 := keep_blk (unhide HHF) b2; have t2 := (unhide TT1).trans (b2.mono (unhide TT1).size); obtain ⟨k0, k1, k2, k3, k4, k5, k6, k7, k8, k9, k10⟩ := cells11 HF2; obtain ⟨m0, m1, m2, m3, m4, m5, m6, m7, m8, m9, m10⟩ := cells11 HR2; have frF := froz11 HF2; have frR := froz11 HR2)
                | (go_at_call 68; refine (unhide CP _).mono ?_; rintro e w3 ⟨rfl, b3⟩; have HR3 : w3.heap[w.heap.size]? = some (.cells #[.int .i64 0, .string ⟨#[]⟩, .string ⟨#[]⟩, .string ⟨#[]⟩, .slice none 0 0, .string ⟨#[]⟩, .bool false, .bool false, .string ⟨#[]⟩, .bool false, .slice none 0 0] 27) := keep_blk (B := w.heap.size) (by repeat (first | with_reducible exact HR2 | refine heap_far ?_ (by omega))) b3; have HF3 := keep_blk (put11h HF2) b3; have t3 : Below w.heap.size w w3 := Below.trans (by repeat (first | with_reducible exact t2 | refine Below.setCell ?_ (by dsimp only; omega) _)) (b3.mono (by have z := t2.size; simpa [World.setCell] using z)); obtain ⟨k0, k1, k2, k3, k4, k5, k6, k7, k8, k9, k10⟩ := cells11 HF3; obtain ⟨m0, m1, m2, m3, m4, m5, m6, m7, m8, m9, m10⟩ := cells11 HR3; have frF := froz11 HF3; have frR := froz11 HR3))
              refine bodyPost_ret (res_fil2 rfl _ _ w.heap.size (.int .i64 5) (.string (strOfNums ((nums (s.extract 0 j)).map smlC))) (.string (strOfNums v)) (.string ⟨#[]⟩) (.slice none 0 0) (.string ⟨#[]⟩) (.bool false) (.bool false) (.string ⟨#[]⟩) (.bool false) (.slice none 0 0) rfl (by
                refine put11h (a0 := (.int .i64 0)) (a1 := (.string ⟨#[]⟩)) (a2 := (.string ⟨#[]⟩)) (a3 := (.string ⟨#[]⟩)) (a4 := (.slice none 0 0)) (a5 := (.string ⟨#[]⟩)) (a6 := (.bool false)) (a7 := (.bool false)) (a8 := (.string ⟨#[]⟩)) (a9 := (.bool false)) (a10 := (.slice none 0 0)) ?_
                repeat (first | with_reducible exact HR3 | refine heap_far ?_ (by omega)))) rfl ?_
              refine ⟨_, by rw [unhide HX]; rfl, ⟨_, flv_itm _ _ 5 (strOfNums ((nums (s.extract 0 j)).map smlC)) (strOfNums v) ⟨#[]⟩ false none none 0 0, (fun e he => by rw [unhide HX] at he; injection he with he; rw [← he]; rfl)⟩, ?_⟩
              repeat (first | with_reducible exact t3 | refine Below.setCell ?_ (by dsimp only; omega) _)
          by_cases c60 : c = 60
          · have CL := hide (fun W => rlower24_any (s.extract 0 j) W (by rw [ByteArray.size_extract]; omega))
            subst c60
            cases hpv : plainV (nums t) with
            | none =>
              obtain ⟨hA, hBo⟩ := pl_none hpv
              rw [← unhide HTE, ← hA, ← hBo] at CP
              rw [unhide HTE] at CP
              have hX : itemP (nums s) = none := by
                rw [item_lt (unhide HC) (unhide HL), unhide HDR]
                simp [hpv]
              have HX := hide hX
              clear hX
              clear hA hBo hpv
              go_wp2_with (first
                | (go_at_call 64; refine (unhide CL _).mono ?_; rintro e w2 ⟨rfl, b2⟩; have HR2 := keep_blk (unhide HHR) b2; have HF2 := keep_blk (unhide HHF) b2; have t2 := (unhide TT1).trans (b2.mono (unhide TT1).size); obtain ⟨k0, k1, k2, k3, k4, k5, k6, k7, k8, k9, k10⟩ := cells11 HF2; obtain ⟨m0, m1, m2, m3, m4, m5, m6, m7, m8, m9, m10⟩ := cells11 HR2; have frF := froz11 HF2; have frR := froz11 HR2)
                | (go_at_call 68; refine (unhide CP _).mono ?_; rintro e w3 ⟨rfl, b3⟩; have HR3 : w3.heap[w.heap.size]? = some (.cells #[.int .i64 0, .string ⟨#[]⟩, .string ⟨#[]⟩, .string ⟨#[]⟩, .slice none 0 0, .string ⟨#[]⟩, .bool false, .bool false, .string ⟨#[]⟩, .bool false, .slice none 0 0] 27) := keep_blk (B := w.heap.size) (by repeat (first | with_reducible exact HR2 | refine heap_far ?_ (by omega))) b3; have HF3 := keep_blk (put11h HF2) b3; have t3 : Below w.heap.size w w3 := Below.trans (by repeat (first | with_reducible exact t2 | refine Below.setCell ?_ (by dsimp only; omega) _)) (b3.mono (by have z := t2.size; simpa [World.setCell] using z)); obtain ⟨k0, k1, k2, k3, k4, k5, k6, k7, k8, k9, k10⟩ := cells11 HF3; obtain ⟨m0, m1, m2, m3, m4, m5, m6, m7, m8, m9, m10⟩ := cells11 HR3; have frF := froz11 HF3; have frR := froz11 HR3))
              refine bodyPost_ret (res_fil2 rfl _ _ w.heap.size (.int .i64 6) (.string (strOfNums ((nums (s.extract 0 j)).map smlC))) (.string ⟨#[]⟩) (.string ⟨#[]⟩) (.slice none 0 0) (.string ⟨#[]⟩) (.bool false) (.bool false) (.string ⟨#[]⟩) (.bool false) (.slice none 0 0) rfl (by
                refine put11h (a0 := (.int .i64 0)) (a1 := (.string ⟨#[]⟩)) (a2 := (.string ⟨#[]⟩)) (a3 := (.string ⟨#[]⟩)) (a4 := (.slice none 0 0)) (a5 := (.string ⟨#[]⟩)) (a6 := (.bool false)) (a7 := (.bool false)) (a8 := (.string ⟨#[]⟩)) (a9 := (.bool false)) (a10 := (.slice none 0 0)) ?_
                repeat (first | with_reducible exact HR3 | refine heap_far ?_ (by omega)))) rfl ?_
              refine ⟨_, by rw [unhide HX]; rfl, ⟨_, flv_itm _ _ 6 (strOfNums ((nums (s.extract 0 j)).map smlC)) ⟨#[]⟩ ⟨#[]⟩ false none none 0 0, (fun e he => by rw [unhide HX] at he; cases he)⟩, ?_⟩
              repeat (first | with_reducible exact t3 | refine Below.setCell ?_ (by dsimp only; omega) _)
            | some v =>
              obtain ⟨hA, hBo⟩ := pl_some hpv
              rw [← unhide HTE, ← hA, ← hBo] at CP
              rw [unhide HTE] at CP
              have hX : itemP (nums s) = some (itmF 6 ((nums (s.extract 0 j)).map smlC) v [] false) := by
                rw [item_lt (unhide HC) (unhide HL), unhide HDR]
                simp [hpv]
              have HX := hide hX
              clear hX
              clear hA hBo hpv
              go_wp2_with (first
                | (go_at_call 64; refine (unhide CL _).mono ?_; rintro e w2 ⟨rfl, b2⟩; have HR2 := keep_blk (unhide HHR) b2; have HF2 := keep_blk (unhide HHF) b2; have t2 := (unhide TT1).trans (b2.mono (unhide TT1).size); obtain ⟨k0, k1, k2, k3, k4, k5, k6, k7, k8, k9, k10⟩ := cells11 HF2; obtain ⟨m0, m1, m2, m3, m4, m5, m6, m7, m8, m9, m10⟩ := cells11 HR2; have frF := froz11 HF2; have frR := froz11 HR2)
                | (go_at_call 68; refine (unhide CP _).mono ?_; rintro e w3 ⟨rfl, b3⟩; have HR3 : w3.heap[w.heap.size]? = some (.cells #[.int .i64 0, .string ⟨#[]⟩, .string ⟨#[]⟩, .string ⟨#[]⟩, .slice none 0 0, .string ⟨#[]⟩, .bool false, .bool false, .string ⟨#[]⟩, .bool false, .slice none 0 0] 27) := keep_blk (B := w.heap.size) (by repeat (first | with_reducible exact HR2 | refine heap_far ?_ (by omega))) b3; have HF3 := keep_blk (put11h HF2) b3; have t3 : Below w.heap.size w w3 := Below.trans (by repeat (first | with_reducible exact t2 | refine Below.setCell ?_ (by dsimp only; omega) _)) (b3.mono (by have z := t2.size; simpa [World.setCell] using z)); obtain ⟨k0, k1, k2, k3, k4, k5, k6, k7, k8, k9, k10⟩ := cells11 HF3; obtain ⟨m0, m1, m2, m3, m4, m5, m6, m7, m8, m9, m10⟩ := cells11 HR3; have frF := froz11 HF3; have frR := froz11 HR3))
              refine bodyPost_ret (res_fil2 rfl _ _ w.heap.size (.int .i64 6) (.string (strOfNums ((nums (s.extract 0 j)).map smlC))) (.string (strOfNums v)) (.string ⟨#[]⟩) (.slice none 0 0) (.string ⟨#[]⟩) (.bool false) (.bool false) (.string ⟨#[]⟩) (.bool false) (.slice none 0 0) rfl (by
                refine put11h (a0 := (.int .i64 0)) (a1 := (.string ⟨#[]⟩)) (a2 := (.string ⟨#[]⟩)) (a3 := (.string ⟨#[]⟩)) (a4 := (.slice none 0 0)) (a5 := (.string ⟨#[]⟩)) (a6 := (.bool false)) (a7 := (.bool false)) (a8 := (.string ⟨#[]⟩)) (a9 := (.bool false)) (a10 := (.slice none 0 0)) ?_
                repeat (first | with_reducible exact HR3 | refine heap_far ?_ (by omega)))) rfl ?_
              refine ⟨_, by rw [unhide HX]; rfl, ⟨_, flv_itm _ _ 6 (strOfNums ((nums (s.extract 0 j)).map smlC)) (strOfNums v) ⟨#[]⟩ false none none 0 0, (fun e he => by rw [unhide HX] at he; injection he with he; rw [← he]; rfl)⟩, ?_⟩
              repeat (first | with_reducible exact t3 | refine Below.setCell ?_ (by dsimp only; omega) _)
          by_cases c126 : c = 126
          · have CL := hide (fun W => rlower24_any (s.extract 0 j) W (by rw [ByteArray.size_extract]; omega))
            subst c126
            cases hpv : plainV (nums t) with
            | none =>
              obtain ⟨hA, hBo⟩ := pl_none hpv
              rw [← unhide HTE, ← hA, ← hBo] at CP
              rw [unhide HTE] at CP
              have hX : itemP (nums s) = none := by
                rw [item_ap (unhide HC) (unhide HL), unhide HDR]
                simp [hpv]
              have HX := hide hX
              clear hX
              clear hA hBo hpv
              go_wp2_with (first
                | (go_at_call 64; refine (unhide CL _).mono ?_; rintro e w2 ⟨rfl, b2⟩; have HR2 := keep_blk (unhide HHR) b2; have HF2 := keep_blk (unhide HHF) b2; have t2 := (unhide TT1).trans (b2.mono (unhide TT1).size); obtain ⟨k0, k1, k2, k3, k4, k5, k6, k7, k8, k9, k10⟩ := cells11 HF2; obtain ⟨m0, m1, m2, m3, m4, m5, m6, m7, m8, m9, m10⟩ := cells11 HR2; have frF := froz11 HF2; have frR := froz11 HR2)
                | (go_at_call 68; refine (unhide CP _).mono ?_; rintro e w3 ⟨rfl, b3⟩; have HR3 : w3.heap[w.heap.size]? = some (.cells #[.int .i64 0, .string ⟨#[]⟩, .string ⟨#[]⟩, .string ⟨#[]⟩, .slice none 0 0, .string ⟨#[]⟩, .bool false, .bool false, .string ⟨#[]⟩, .bool false, .slice none 0 0] 27) := keep_blk (B := w.heap.size) (by repeat (first | with_reducible exact HR2 | refine heap_far ?_ (by omega))) b3; have HF3 := keep_blk (put11h HF2) b3; have t3 : Below w.heap.size w w3 := Below.trans (by repeat (first | with_reducible exact t2 | refine Below.setCell ?_ (by dsimp only; omega) _)) (b3.mono (by have z := t2.size; simpa [World.setCell] using z)); obtain ⟨k0, k1, k2, k3, k4, k5, k6, k7, k8, k9, k10⟩ := cells11 HF3; obtain ⟨m0, m1, m2, m3, m4, m5, m6, m7, m8, m9, m10⟩ := cells11 HR3; have frF := froz11 HF3; have frR := froz11 HR3))
              refine bodyPost_ret (res_fil2 rfl _ _ w.heap.size (.int .i64 8) (.string (strOfNums ((nums (s.extract 0 j)).map smlC))) (.string ⟨#[]⟩) (.string ⟨#[]⟩) (.slice none 0 0) (.string ⟨#[]⟩) (.bool false) (.bool false) (.string ⟨#[]⟩) (.bool false) (.slice none 0 0) rfl (by
                refine put11h (a0 := (.int .i64 0)) (a1 := (.string ⟨#[]⟩)) (a2 := (.string ⟨#[]⟩)) (a3 := (.string ⟨#[]⟩)) (a4 := (.slice none 0 0)) (a5 := (.string ⟨#[]⟩)) (a6 := (.bool false)) (a7 := (.bool false)) (a8 := (.string ⟨#[]⟩)) (a9 := (.bool false)) (a10 := (.slice none 0 0)) ?_
                repeat (first | with_reducible exact HR3 | refine heap_far ?_ (by omega)))) rfl ?_
              refine ⟨_, by rw [unhide HX]; rfl, ⟨_, flv_itm _ _ 8 (strOfNums ((nums (s.extract 0 j)).map smlC)) ⟨#[]⟩ ⟨#[]⟩ false none none 0 0, (fun e he => by rw [unhide HX] at he; cases he)⟩, ?_⟩
              repeat (first | with_reducible exact t3 | refine Below.setCell ?_ (by dsimp only; omega) _)
            | some v =>
              obtain ⟨hA, hBo⟩ := pl_some hpv
              rw [← unhide HTE, ← hA, ← hBo] at CP
              rw [unhide HTE] at CP
              have hX : itemP (nums s) = some (itmF 8 ((nums (s.extract 0 j)).map smlC) v [] false) := by
                rw [item_ap (unhide HC) (unhide HL), unhide HDR]
                simp [hpv]
              have HX := hide hX
              clear hX
              clear hA hBo hpv
              go_wp2_with (first
                | (go_at_call 64; refine (unhide CL _).mono ?_; rintro e w2 ⟨rfl, b2⟩; have HR2 := keep_blk (unhide HHR) b2; have HF2 := keep_blk (unhide HHF) b2; have t2 := (unhide TT1).trans (b2.mono (unhide TT1).size); obtain ⟨k0, k1, k2, k3, k4, k5, k6, k7, k8, k9, k10⟩ := cells11 HF2; obtain ⟨m0, m1, m2, m3, m4, m5, m6, m7, m8, m9, m10⟩ := cells11 HR2; have frF := froz11 HF2; have frR := froz11 HR2)
                | (go_at_call 68; refine (unhide CP _).mono ?_; rintro e w3 ⟨rfl, b3⟩; have HR3 : w3.heap[w.heap.size]? = some (.cells #[.int .i64 0, .string ⟨#[]⟩, .string ⟨#[]⟩, .string ⟨#[]⟩, .slice none 0 0, .string ⟨#[]⟩, .bool false, .bool false, .string ⟨#[]⟩, .bool false, .slice none 0 0] 27) := keep_blk (B := w.heap.size) (by repeat (first | with_reducible exact HR2 | refine heap_far ?_ (by omega))) b3; have HF3 := keep_blk (put11h HF2) b3; have t3 : Below w.heap.size w w3 := Below.trans (by repeat (first | with_reducible exact t2 | refine Below.setCell ?_ (by dsimp only; omega) _)) (b3.mono (by have z := t2.size; simpa [World.setCell] using z)); obtain ⟨k0, k1, k2, k3, k4, k5, k6, k7, k8, k9, k10⟩ := cells11 HF3; obtain ⟨m0, m1, m2, m3, m4, m5, m6, m7, m8, m9, m10⟩ := cells11 HR3; have frF := froz11 HF3; have frR := froz11 HR3))
              refine bodyPost_ret (res_fil2 rfl _ _ w.heap.size (.int .i64 8) (.string (strOfNums ((nums (s.extract 0 j)).map smlC))) (.string (strOfNums v)) (.string ⟨#[]⟩) (.slice none 0 0) (.string ⟨#[]⟩) (.bool false) (.bool false) (.string ⟨#[]⟩) (.bool false) (.slice none 0 0) rfl (by
                refine put11h (a0 := (.int .i64 0)) (a1 := (.string ⟨#[]⟩)) (a2 := (.string ⟨#[]⟩)) (a3 := (.string ⟨#[]⟩)) (a4 := (.slice none 0 0)) (a5 := (.string ⟨#[]⟩)) (a6 := (.bool false)) (a7 := (.bool false)) (a8 := (.string ⟨#[]⟩)) (a9 := (.bool false)) (a10 := (.slice none 0 0)) ?_
                repeat (first | with_reducible exact HR3 | refine heap_far ?_ (by omega)))) rfl ?_
              refine ⟨_, by rw [unhide HX]; rfl, ⟨_, flv_itm _ _ 8 (strOfNums ((nums (s.extract 0 j)).map smlC)) (strOfNums v) ⟨#[]⟩ false none none 0 0, (fun e he => by rw [unhide HX] at he; injection he with he; rw [← he]; rfl)⟩, ?_⟩
              repeat (first | with_reducible exact t3 | refine Below.setCell ?_ (by dsimp only; omega) _)
          by_cases c58 : c = 58
          · subst c58
            have CE := hide (fun W => rext24_any (s.extract 0 j) W (by rw [ByteArray.size_extract]; omega))
            have hbx : exB (splitL 58 ((nums (s.extract 0 j)).map smlC)) = (extP (splitL 58 ((nums (s.extract 0 j)).map smlC))).isSome := rfl
            rw [hbx] at CE
            cases hex : extP (splitL 58 ((nums (s.extract 0 j)).map smlC)) with
            | none =>
              have HEX := hide hex
              rw [show (extP (splitL 58 ((nums (s.extract 0 j)).map smlC))).isSome = false from by rw [hex]; rfl] at CE
              clear hex hbx
              cases hpv : plainV (nums t) with
              | none =>
                obtain ⟨hA, hBo⟩ := pl_none hpv
                rw [← unhide HTE, ← hA, ← hBo] at CP
                rw [unhide HTE] at CP
                have hX : itemP (nums s) = none := by
                  rw [item_ex (unhide HC) (unhide HL), unhide HDR, unhide HEX]
                have HX := hide hX
                clear hX
                clear hA hBo hpv
                go_wp2_with (first
                  | (go_at_call 65; refine (unhide CE _).mono ?_; rintro e w2 ⟨x, rfl, _, ⟨n9, r9, d9, hx⟩, b2⟩; obtain ⟨p1, p2, p3, p4, rfl⟩ := exF_open hx; have HR2 := keep_blk (unhide HHR) b2; have HF2 := keep_blk (unhide HHF) b2; have t2 := (unhide TT1).trans (b2.mono (unhide TT1).size); obtain ⟨k0, k1, k2, k3, k4, k5, k6, k7, k8, k9, k10⟩ := cells11 HF2; obtain ⟨m0, m1, m2, m3, m4, m5, m6, m7, m8, m9, m10⟩ := cells11 HR2; have frF := froz11 HF2; have frR := froz11 HR2)
                  | (go_at_call 68; refine (unhide CP _).mono ?_; rintro e w3 ⟨rfl, b3⟩; have HR3 : w3.heap[w.heap.size]? = some (.cells #[.int .i64 0, .string ⟨#[]⟩, .string ⟨#[]⟩, .string ⟨#[]⟩, .slice none 0 0, .string ⟨#[]⟩, .bool false, .bool false, .string ⟨#[]⟩, .bool false, .slice none 0 0] 27) := keep_blk (B := w.heap.size) (by repeat (first | with_reducible exact HR2 | refine heap_far ?_ (by omega))) b3; have HF3 := keep_blk (put11h HF2) b3; have t3 : Below w.heap.size w w3 := Below.trans (by repeat (first | with_reducible exact t2 | refine Below.setCell ?_ (by dsimp only; omega) _)) (b3.mono (by have z := t2.size; simpa [World.setCell] using z)); obtain ⟨k0, k1, k2, k3, k4, k5, k6, k7, k8, k9, k10⟩ := cells11 HF3; obtain ⟨m0, m1, m2, m3, m4, m5, m6, m7, m8, m9, m10⟩ := cells11 HR3; have frF := froz11 HF3; have frR := froz11 HR3))
                refine bodyPost_ret (res_fil2 rfl _ _ w.heap.size (.int .i64 9) (.string n9) (.string ⟨#[]⟩) (.string ⟨#[]⟩) (.slice p1 0 p2) (.string ⟨#[]⟩) (.bool false) (.bool false) (.string r9) (.bool d9) (.slice p3 0 p4) rfl (by
                  refine put11h (a0 := (.int .i64 0)) (a1 := (.string ⟨#[]⟩)) (a2 := (.string ⟨#[]⟩)) (a3 := (.string ⟨#[]⟩)) (a4 := (.slice none 0 0)) (a5 := (.string ⟨#[]⟩)) (a6 := (.bool false)) (a7 := (.bool false)) (a8 := (.string ⟨#[]⟩)) (a9 := (.bool false)) (a10 := (.slice none 0 0)) ?_
                  repeat (first | with_reducible exact HR3 | refine heap_far ?_ (by omega)))) rfl ?_
                refine ⟨_, by rw [unhide HX]; rfl, ⟨_, flv_itm _ _ 9 n9 ⟨#[]⟩ r9 d9 p1 p3 p2 p4, (fun e he => by rw [unhide HX] at he; cases he)⟩, ?_⟩
                repeat (first | with_reducible exact t3 | refine Below.setCell ?_ (by dsimp only; omega) _)
              | some v =>
                obtain ⟨hA, hBo⟩ := pl_some hpv
                rw [← unhide HTE, ← hA, ← hBo] at CP
                rw [unhide HTE] at CP
                have hX : itemP (nums s) = none := by
                  rw [item_ex (unhide HC) (unhide HL), unhide HDR, unhide HEX]
                have HX := hide hX
                clear hX
                clear hA hBo hpv
                go_wp2_with (first
                  | (go_at_call 65; refine (unhide CE _).mono ?_; rintro e w2 ⟨x, rfl, _, ⟨n9, r9, d9, hx⟩, b2⟩; obtain ⟨p1, p2, p3, p4, rfl⟩ := exF_open hx; have HR2 := keep_blk (unhide HHR) b2; have HF2 := keep_blk (unhide HHF) b2; have t2 := (unhide TT1).trans (b2.mono (unhide TT1).size); obtain ⟨k0, k1, k2, k3, k4, k5, k6, k7, k8, k9, k10⟩ := cells11 HF2; obtain ⟨m0, m1, m2, m3, m4, m5, m6, m7, m8, m9, m10⟩ := cells11 HR2; have frF := froz11 HF2; have frR := froz11 HR2)
                  | (go_at_call 68; refine (unhide CP _).mono ?_; rintro e w3 ⟨rfl, b3⟩; have HR3 : w3.heap[w.heap.size]? = some (.cells #[.int .i64 0, .string ⟨#[]⟩, .string ⟨#[]⟩, .string ⟨#[]⟩, .slice none 0 0, .string ⟨#[]⟩, .bool false, .bool false, .string ⟨#[]⟩, .bool false, .slice none 0 0] 27) := keep_blk (B := w.heap.size) (by repeat (first | with_reducible exact HR2 | refine heap_far ?_ (by omega))) b3; have HF3 := keep_blk (put11h HF2) b3; have t3 : Below w.heap.size w w3 := Below.trans (by repeat (first | with_reducible exact t2 | refine Below.setCell ?_ (by dsimp only; omega) _)) (b3.mono (by have z := t2.size; simpa [World.setCell] using z)); obtain ⟨k0, k1, k2, k3, k4, k5, k6, k7, k8, k9, k10⟩ := cells11 HF3; obtain ⟨m0, m1, m2, m3, m4, m5, m6, m7, m8, m9, m10⟩ := cells11 HR3; have frF := froz11 HF3; have frR := froz11 HR3))
                refine bodyPost_ret (res_fil2 rfl _ _ w.heap.size (.int .i64 9) (.string n9) (.string (strOfNums v)) (.string ⟨#[]⟩) (.slice p1 0 p2) (.string ⟨#[]⟩) (.bool false) (.bool false) (.string r9) (.bool d9) (.slice p3 0 p4) rfl (by
                  refine put11h (a0 := (.int .i64 0)) (a1 := (.string ⟨#[]⟩)) (a2 := (.string ⟨#[]⟩)) (a3 := (.string ⟨#[]⟩)) (a4 := (.slice none 0 0)) (a5 := (.string ⟨#[]⟩)) (a6 := (.bool false)) (a7 := (.bool false)) (a8 := (.string ⟨#[]⟩)) (a9 := (.bool false)) (a10 := (.slice none 0 0)) ?_
                  repeat (first | with_reducible exact HR3 | refine heap_far ?_ (by omega)))) rfl ?_
                refine ⟨_, by rw [unhide HX]; rfl, ⟨_, flv_itm _ _ 9 n9 (strOfNums v) r9 d9 p1 p3 p2 p4, (fun e he => by rw [unhide HX] at he; cases he)⟩, ?_⟩
                repeat (first | with_reducible exact t3 | refine Below.setCell ?_ (by dsimp only; omega) _)
            | some y =>
              obtain ⟨n9, d9, r9⟩ := y
              have HEX := hide hex
              rw [show (extP (splitL 58 ((nums (s.extract 0 j)).map smlC))).isSome = true from by rw [hex]; rfl] at CE
              clear hex hbx
              cases hpv : plainV (nums t) with
              | none =>
                obtain ⟨hA, hBo⟩ := pl_none hpv
                rw [← unhide HTE, ← hA, ← hBo] at CP
                rw [unhide HTE] at CP
                have hX : itemP (nums s) = none := by
                  rw [item_ex (unhide HC) (unhide HL), unhide HDR, unhide HEX]
                  simp [hpv]
                have HX := hide hX
                clear hX
                clear hA hBo hpv
                go_wp2_with (first
                  | (go_at_call 65; refine (unhide CE _).mono ?_; rintro e w2 ⟨x, rfl, hx, _, b2⟩; obtain ⟨p1, p2, p3, p4, rfl⟩ := exF_open (hx _ _ _ (unhide HEX)); have HR2 := keep_blk (unhide HHR) b2; have HF2 := keep_blk (unhide HHF) b2; have t2 := (unhide TT1).trans (b2.mono (unhide TT1).size); obtain ⟨k0, k1, k2, k3, k4, k5, k6, k7, k8, k9, k10⟩ := cells11 HF2; obtain ⟨m0, m1, m2, m3, m4, m5, m6, m7, m8, m9, m10⟩ := cells11 HR2; have frF := froz11 HF2; have frR := froz11 HR2)
                  | (go_at_call 68; refine (unhide CP _).mono ?_; rintro e w3 ⟨rfl, b3⟩; have HR3 : w3.heap[w.heap.size]? = some (.cells #[.int .i64 0, .string ⟨#[]⟩, .string ⟨#[]⟩, .string ⟨#[]⟩, .slice none 0 0, .string ⟨#[]⟩, .bool false, .bool false, .string ⟨#[]⟩, .bool false, .slice none 0 0] 27) := keep_blk (B := w.heap.size) (by repeat (first | with_reducible exact HR2 | refine heap_far ?_ (by omega))) b3; have HF3 := keep_blk (put11h HF2) b3; have t3 : Below w.heap.size w w3 := Below.trans (by repeat (first | with_reducible exact t2 | refine Below.setCell ?_ (by dsimp only; omega) _)) (b3.mono (by have z := t2.size; simpa [World.setCell] using z)); obtain ⟨k0, k1, k2, k3, k4, k5, k6, k7, k8, k9, k10⟩ := cells11 HF3; obtain ⟨m0, m1, m2, m3, m4, m5, m6, m7, m8, m9, m10⟩ := cells11 HR3; have frF := froz11 HF3; have frR := froz11 HR3))
                refine bodyPost_ret (res_fil2 rfl _ _ w.heap.size (.int .i64 9) (.string (strOfNums n9)) (.string ⟨#[]⟩) (.string ⟨#[]⟩) (.slice p1 0 p2) (.string ⟨#[]⟩) (.bool false) (.bool false) (.string (strOfNums r9)) (.bool d9) (.slice p3 0 p4) rfl (by
                  refine put11h (a0 := (.int .i64 0)) (a1 := (.string ⟨#[]⟩)) (a2 := (.string ⟨#[]⟩)) (a3 := (.string ⟨#[]⟩)) (a4 := (.slice none 0 0)) (a5 := (.string ⟨#[]⟩)) (a6 := (.bool false)) (a7 := (.bool false)) (a8 := (.string ⟨#[]⟩)) (a9 := (.bool false)) (a10 := (.slice none 0 0)) ?_
                  repeat (first | with_reducible exact HR3 | refine heap_far ?_ (by omega)))) rfl ?_
                refine ⟨_, by rw [unhide HX]; rfl, ⟨_, flv_itm _ _ 9 (strOfNums n9) ⟨#[]⟩ (strOfNums r9) d9 p1 p3 p2 p4, (fun e he => by rw [unhide HX] at he; cases he)⟩, ?_⟩
                repeat (first | with_reducible exact t3 | refine Below.setCell ?_ (by dsimp only; omega) _)
              | some v =>
                obtain ⟨hA, hBo⟩ := pl_some hpv
                rw [← unhide HTE, ← hA, ← hBo] at CP
                rw [unhide HTE] at CP
                have hX : itemP (nums s) = some (itmF 9 n9 v r9 d9) := by
                  rw [item_ex (unhide HC) (unhide HL), unhide HDR, unhide HEX]
                  simp [hpv]
                have HX := hide hX
                clear hX
                clear hA hBo hpv
                go_wp2_with (first
                  | (go_at_call 65; refine (unhide CE _).mono ?_; rintro e w2 ⟨x, rfl, hx, _, b2⟩; obtain ⟨p1, p2, p3, p4, rfl⟩ := exF_open (hx _ _ _ (unhide HEX)); have HR2 := keep_blk (unhide HHR) b2; have HF2 := keep_blk (unhide HHF) b2; have t2 := (unhide TT1).trans (b2.mono (unhide TT1).size); obtain ⟨k0, k1, k2, k3, k4, k5, k6, k7, k8, k9, k10⟩ := cells11 HF2; obtain ⟨m0, m1, m2, m3, m4, m5, m6, m7, m8, m9, m10⟩ := cells11 HR2; have frF := froz11 HF2; have frR := froz11 HR2)
                  | (go_at_call 68; refine (unhide CP _).mono ?_; rintro e w3 ⟨rfl, b3⟩; have HR3 : w3.heap[w.heap.size]? = some (.cells #[.int .i64 0, .string ⟨#[]⟩, .string ⟨#[]⟩, .string ⟨#[]⟩, .slice none 0 0, .string ⟨#[]⟩, .bool false, .bool false, .string ⟨#[]⟩, .bool false, .slice none 0 0] 27) := keep_blk (B := w.heap.size) (by repeat (first | with_reducible exact HR2 | refine heap_far ?_ (by omega))) b3; have HF3 := keep_blk (put11h HF2) b3; have t3 : Below w.heap.size w w3 := Below.trans (by repeat (first | with_reducible exact t2 | refine Below.setCell ?_ (by dsimp only; omega) _)) (b3.mono (by have z := t2.size; simpa [World.setCell] using z)); obtain ⟨k0, k1, k2, k3, k4, k5, k6, k7, k8, k9, k10⟩ := cells11 HF3; obtain ⟨m0, m1, m2, m3, m4, m5, m6, m7, m8, m9, m10⟩ := cells11 HR3; have frF := froz11 HF3; have frR := froz11 HR3))
                refine bodyPost_ret (res_fil2 rfl _ _ w.heap.size (.int .i64 9) (.string (strOfNums n9)) (.string (strOfNums v)) (.string ⟨#[]⟩) (.slice p1 0 p2) (.string ⟨#[]⟩) (.bool false) (.bool false) (.string (strOfNums r9)) (.bool d9) (.slice p3 0 p4) rfl (by
                  refine put11h (a0 := (.int .i64 0)) (a1 := (.string ⟨#[]⟩)) (a2 := (.string ⟨#[]⟩)) (a3 := (.string ⟨#[]⟩)) (a4 := (.slice none 0 0)) (a5 := (.string ⟨#[]⟩)) (a6 := (.bool false)) (a7 := (.bool false)) (a8 := (.string ⟨#[]⟩)) (a9 := (.bool false)) (a10 := (.slice none 0 0)) ?_
                  repeat (first | with_reducible exact HR3 | refine heap_far ?_ (by omega)))) rfl ?_
                refine ⟨_, by rw [unhide HX]; rfl, ⟨_, flv_itm _ _ 9 (strOfNums n9) (strOfNums v) (strOfNums r9) d9 p1 p3 p2 p4, (fun e he => by rw [unhide HX] at he; injection he with he; rw [← he]; rfl)⟩, ?_⟩
                repeat (first | with_reducible exact t3 | refine Below.setCell ?_ (by dsimp only; omega) _)
          have g1 : (c == 62) = false := by rw [beq_eq_false_iff_ne]; exact c62
          have g2 : (c == 60) = false := by rw [beq_eq_false_iff_ne]; exact c60
          have g3 : (c == 126) = false := by rw [beq_eq_false_iff_ne]; exact c126
          have g4 : (c == 58) = false := by rw [beq_eq_false_iff_ne]; exact c58
          have zis : (i : Int) ≤ (s.size : Int) := by omega
          have HD := hide (item_df (unhide HC) (by rw [unhide HL]; simpa using c62) (by rw [unhide HL]; simpa using c60) (by rw [unhide HL]; simpa using c126) (by rw [unhide HL]; simpa using c58))
          clear HC HL HDR c62 c60 c126 c58
          rw [← nums_head s i] at HD
          obtain ⟨nm, hnm⟩ : ∃ nm, nm = strOfNums ((nums (s.extract 0 i)).map smlC) := ⟨_, rfl⟩
          have CL := hide (fun W => rlower24_any (s.extract 0 i) W (by rw [ByteArray.size_extract]; omega))
          rw [← hnm] at CL
          have hnn : nums nm = (nums (s.extract 0 i)).map smlC := by
            rw [hnm, nums_strOfNums]
            intro x hx
            obtain ⟨y, hy, rfl⟩ := List.mem_map.1 hx
            have := nums_bound (s.extract 0 i) y hy
            unfold smlC
            split <;> omega
          rw [← hnn] at HD
          clear hnm hnn
          by_cases hN : 1 < (splitL 42 (nums t)).length
          · have hX : itemP (nums s) = starP (nums nm) (splitL 42 (nums t)) := by rw [unhide HD, if_pos hN]
            have HNN := hide hN
            rw [unhide HTE] at hX
            have HX := hide hX
            rw [← unhide HTE] at CST
            have CSX := hide (fun W => unhide CST nm W hN)
            rw [unhide HTE] at CSX
            clear hX hN CST
            go_wp2_with (first
              | (go_at_call 64; refine (unhide CL _).mono ?_; rintro e w2 ⟨rfl, b2⟩; have HR2 := keep_blk (unhide HHR) b2; have HF2 := keep_blk (unhide HHF) b2; have t2 := (unhide TT1).trans (b2.mono (unhide TT1).size); obtain ⟨k0, k1, k2, k3, k4, k5, k6, k7, k8, k9, k10⟩ := cells11 HF2; obtain ⟨m0, m1, m2, m3, m4, m5, m6, m7, m8, m9, m10⟩ := cells11 HR2; have frF := froz11 HF2; have frR := froz11 HR2)
              | (go_at_call 66; refine (unhide CSP _).mono ?_; rintro e w3 ⟨v9, ps, rfl, hps, hpz, hpl, hT, b3⟩; have HR3 : w3.heap[w.heap.size]? = some (.cells #[.int .i64 0, .string ⟨#[]⟩, .string ⟨#[]⟩, .string ⟨#[]⟩, .slice none 0 0, .string ⟨#[]⟩, .bool false, .bool false, .string ⟨#[]⟩, .bool false, .slice none 0 0] 27) := keep_blk (B := w.heap.size) (by repeat (first | with_reducible exact HR2 | refine heap_far ?_ (by omega))) b3; have HF3 := keep_blk (put1h HF2) b3; have t3 : Below w.heap.size w w3 := Below.trans (by repeat (first | with_reducible exact t2 | refine Below.setCell ?_ (by dsimp only; omega) _)) (b3.mono (by have z := t2.size; simpa [World.setCell] using z)); have hn1 := congrArg List.length hps; rw [List.length_map, ← unhide HTE] at hn1; have hps0 : 0 < ps.length := (by rw [hn1]; exact List.length_pos_iff.2 (split_ne _ _)); obtain ⟨g9, c9, rfl, _⟩ := hT.at hps0; have zN : (1 : Int) < (ps.length : Int) := (by have zz := unhide HNN; omega); clear hps hpz hpl hn1 hps0 hT; obtain ⟨k0, k1, k2, k3, k4, k5, k6, k7, k8, k9, k10⟩ := cells11 HF3; obtain ⟨m0, m1, m2, m3, m4, m5, m6, m7, m8, m9, m10⟩ := cells11 HR3; have frF := froz11 HF3; have frR := froz11 HR3))
            have HSS : Hid (∀ W : World, W.heap[wr.heap.size]? = some (.cells #[.int .i64 3, .string nm, .string ⟨#[]⟩, .string ⟨#[]⟩, .slice none 0 0, .string ⟨#[]⟩, .bool false, .bool false, .string ⟨#[]⟩, .bool false, .slice none 0 0] 27) → W.cell? ⟨wr.heap.size, 1, none⟩ = some (.string nm)) := fun W hW => (cells11 hW).2.1
            have HF3d : w3.drew.heap[wr.heap.size]? = some (.cells #[.int .i64 3, .string nm, .string ⟨#[]⟩, .string ⟨#[]⟩, .slice none 0 0, .string ⟨#[]⟩, .bool false, .bool false, .string ⟨#[]⟩, .bool false, .slice none 0 0] 27) := HF3
            have hne9 : wr.heap.size ≠ w.heap.size := by have := (unhide HZ).2.2; omega
            go_region_held3 (fun W => W.cell? ⟨wr.heap.size, 1, none⟩ = some (.string nm)) (first | with_reducible exact unhide HSS _ HF3 | with_reducible exact unhide HSS _ HF3d | with_reducible exact unhide HSS _ HF4 | with_reducible exact unhide HSS _ HF4s | assumption | go_keep)
              (first | (go_at_call 67; refine (unhide CSX _).mono ?_; rintro e w4 ⟨x, rfl, ⟨e4, hx, he4⟩, b4⟩; obtain ⟨x1, y1, x2, y2, hxx, _⟩ := hx.flv.open; subst hxx; have HXX := hide hx; have HE4 := hide he4; clear hx he4; have HR4 := keep_blk (W := w3.drew) HR3 b4; obtain ⟨m0, m1, m2, m3, m4, m5, m6, m7, m8, m9, m10⟩ := cells11 HR4; have frR := froz11 HR4; have HF4 := keep_blk (W := w3.drew) HF3 b4; obtain ⟨k0, k1, k2, k3, k4, k5, k6, k7, k8, k9, k10⟩ := cells11 HF4; have HF4s := heap_far (b := w.heap.size) (c := 10) (v := (.slice x2 e4.kids.length y2)) (heap_far (b := w.heap.size) (c := 9) (v := (.bool e4.dn)) (heap_far (b := w.heap.size) (c := 8) (v := (.string e4.rul)) (heap_far (b := w.heap.size) (c := 7) (v := (.bool e4.hf)) (heap_far (b := w.heap.size) (c := 6) (v := (.bool e4.hi)) (heap_far (b := w.heap.size) (c := 5) (v := (.string e4.fin)) (heap_far (b := w.heap.size) (c := 4) (v := (.slice x1 e4.any.length y1)) (heap_far (b := w.heap.size) (c := 3) (v := (.string e4.ini)) (heap_far (b := w.heap.size) (c := 2) (v := (.string e4.val)) (heap_far (b := w.heap.size) (c := 1) (v := (.string e4.nam)) (heap_far (b := w.heap.size) (c := 0) (v := (.int .i64 e4.kin)) (HF4) hne9) hne9) hne9) hne9) hne9) hne9) hne9) hne9) hne9) hne9) hne9; have t4 : Below w.heap.size w w4 := t3.drew.trans (Below.mono b4 t3.drew.size)))
            all_goals
              go_wp2
              refine bodyPost_ret (res_fil2 rfl _ _ w.heap.size (.int .i64 e4.kin) (.string e4.nam) (.string e4.val) (.string e4.ini) (.slice x1 e4.any.length y1) (.string e4.fin) (.bool e4.hi) (.bool e4.hf) (.string e4.rul) (.bool e4.dn) (.slice x2 e4.kids.length y2) rfl (by
                refine put11h (a0 := (.int .i64 0)) (a1 := (.string ⟨#[]⟩)) (a2 := (.string ⟨#[]⟩)) (a3 := (.string ⟨#[]⟩)) (a4 := (.slice none 0 0)) (a5 := (.string ⟨#[]⟩)) (a6 := (.bool false)) (a7 := (.bool false)) (a8 := (.string ⟨#[]⟩)) (a9 := (.bool false)) (a10 := (.slice none 0 0)) ?_
                with_reducible exact HR4)) rfl ?_
              have z3 : w.heap.size < w3.heap.size := blk_lt24 HR3
              refine ⟨_, by rw [unhide HX]; rfl, ⟨e4, (unhide HXX).mono (fun k9 hk9 => ⟨Nat.le_trans (Nat.le_of_lt z3) hk9.1, by have := hk9.2; simpa [World.setCell] using this⟩) (fun k9 hk9 => by
                have hne : k9 ≠ w.heap.size := by have := hk9.1; have : w3.drew.heap.size = w3.heap.size := rfl; omega
                repeat (first | with_reducible rfl | refine (Below.heap_setCell _ _ _ _ hne).trans ?_)), (fun e he => unhide HE4 e (by rw [← unhide HX]; exact he))⟩, ?_⟩
              repeat (first | with_reducible exact t4 | refine Below.setCell ?_ (by dsimp only; omega) _)
          · have HNN := hide hN
            clear hN
            cases hpv : plainV (nums t) with
            | none =>
              obtain ⟨hA, hBo⟩ := pl_none hpv
              rw [← unhide HTE, ← hA, ← hBo] at CP
              rw [unhide HTE] at CP
              have hX : itemP (nums s) = none := by
                rw [unhide HD, if_neg (unhide HNN)]
                simp [hpv]
              have HX := hide hX
              clear hX
              clear hA hBo hpv
              go_wp2_with (first
                | (go_at_call 64; refine (unhide CL _).mono ?_; rintro e w2 ⟨rfl, b2⟩; have HR2 := keep_blk (unhide HHR) b2; have HF2 := keep_blk (unhide HHF) b2; have t2 := (unhide TT1).trans (b2.mono (unhide TT1).size); obtain ⟨k0, k1, k2, k3, k4, k5, k6, k7, k8, k9, k10⟩ := cells11 HF2; obtain ⟨m0, m1, m2, m3, m4, m5, m6, m7, m8, m9, m10⟩ := cells11 HR2; have frF := froz11 HF2; have frR := froz11 HR2)
                | (go_at_call 66; refine (unhide CSP _).mono ?_; rintro e w3 ⟨v9, ps, rfl, hps, hpz, hpl, hT, b3⟩; have HR3 : w3.heap[w.heap.size]? = some (.cells #[.int .i64 0, .string ⟨#[]⟩, .string ⟨#[]⟩, .string ⟨#[]⟩, .slice none 0 0, .string ⟨#[]⟩, .bool false, .bool false, .string ⟨#[]⟩, .bool false, .slice none 0 0] 27) := keep_blk (B := w.heap.size) (by repeat (first | with_reducible exact HR2 | refine heap_far ?_ (by omega))) b3; have HF3 := keep_blk (put1h HF2) b3; have t3 : Below w.heap.size w w3 := Below.trans (by repeat (first | with_reducible exact t2 | refine Below.setCell ?_ (by dsimp only; omega) _)) (b3.mono (by have z := t2.size; simpa [World.setCell] using z)); have hn1 := congrArg List.length hps; rw [List.length_map, ← unhide HTE] at hn1; have hps0 : 0 < ps.length := (by rw [hn1]; exact List.length_pos_iff.2 (split_ne _ _)); obtain ⟨g9, c9, rfl, _⟩ := hT.at hps0; have zN : ¬ (1 : Int) < (ps.length : Int) := (by have zz := unhide HNN; omega); clear hps hpz hpl hn1 hps0 hT; obtain ⟨k0, k1, k2, k3, k4, k5, k6, k7, k8, k9, k10⟩ := cells11 HF3; obtain ⟨m0, m1, m2, m3, m4, m5, m6, m7, m8, m9, m10⟩ := cells11 HR3; have frF := froz11 HF3; have frR := froz11 HR3)
                | (go_at_call 68; refine (unhide CP _).mono ?_; rintro e w4 ⟨rfl, b4⟩; have HR4 : w4.heap[w.heap.size]? = some (.cells #[.int .i64 0, .string ⟨#[]⟩, .string ⟨#[]⟩, .string ⟨#[]⟩, .slice none 0 0, .string ⟨#[]⟩, .bool false, .bool false, .string ⟨#[]⟩, .bool false, .slice none 0 0] 27) := keep_blk (B := w.heap.size) (by repeat (first | with_reducible exact HR3 | refine heap_far ?_ (by omega))) b4; have HF4 := keep_blk (HF3) b4; have t4 : Below w.heap.size w w4 := Below.trans (by repeat (first | with_reducible exact t3 | refine Below.setCell ?_ (by dsimp only; omega) _)) (b4.mono (by have z := t3.size; simpa [World.setCell] using z)); obtain ⟨k0, k1, k2, k3, k4, k5, k6, k7, k8, k9, k10⟩ := cells11 HF4; obtain ⟨m0, m1, m2, m3, m4, m5, m6, m7, m8, m9, m10⟩ := cells11 HR4; have frF := froz11 HF4; have frR := froz11 HR4))
              refine bodyPost_ret (res_fil2 rfl _ _ w.heap.size (.int .i64 3) (.string nm) (.string ⟨#[]⟩) (.string ⟨#[]⟩) (.slice none 0 0) (.string ⟨#[]⟩) (.bool false) (.bool false) (.string ⟨#[]⟩) (.bool false) (.slice none 0 0) rfl (by
                refine put11h (a0 := (.int .i64 0)) (a1 := (.string ⟨#[]⟩)) (a2 := (.string ⟨#[]⟩)) (a3 := (.string ⟨#[]⟩)) (a4 := (.slice none 0 0)) (a5 := (.string ⟨#[]⟩)) (a6 := (.bool false)) (a7 := (.bool false)) (a8 := (.string ⟨#[]⟩)) (a9 := (.bool false)) (a10 := (.slice none 0 0)) ?_
                repeat (first | with_reducible exact HR4 | refine heap_far ?_ (by omega)))) rfl ?_
              refine ⟨_, by rw [unhide HX]; rfl, ⟨_, flv_itm _ _ 3 nm ⟨#[]⟩ ⟨#[]⟩ false none none 0 0, (fun e he => by rw [unhide HX] at he; cases he)⟩, ?_⟩
              repeat (first | with_reducible exact t4 | refine Below.setCell ?_ (by dsimp only; omega) _)
            | some v =>
              obtain ⟨hA, hBo⟩ := pl_some hpv
              rw [← unhide HTE, ← hA, ← hBo] at CP
              rw [unhide HTE] at CP
              have hX : itemP (nums s) = some (itmF 3 (nums nm) v [] false) := by
                rw [unhide HD, if_neg (unhide HNN)]
                simp [hpv]
              have HX := hide hX
              clear hX
              clear hA hBo hpv
              go_wp2_with (first
                | (go_at_call 64; refine (unhide CL _).mono ?_; rintro e w2 ⟨rfl, b2⟩; have HR2 := keep_blk (unhide HHR) b2; have HF2 := keep_blk (unhide HHF) b2; have t2 := (unhide TT1).trans (b2.mono (unhide TT1).size); obtain ⟨k0, k1, k2, k3, k4, k5, k6, k7, k8, k9, k10⟩ := cells11 HF2; obtain ⟨m0, m1, m2, m3, m4, m5, m6, m7, m8, m9, m10⟩ := cells11 HR2; have frF := froz11 HF2; have frR := froz11 HR2)
                | (go_at_call 66; refine (unhide CSP _).mono ?_; rintro e w3 ⟨v9, ps, rfl, hps, hpz, hpl, hT, b3⟩; have HR3 : w3.heap[w.heap.size]? = some (.cells #[.int .i64 0, .string ⟨#[]⟩, .string ⟨#[]⟩, .string ⟨#[]⟩, .slice none 0 0, .string ⟨#[]⟩, .bool false, .bool false, .string ⟨#[]⟩, .bool false, .slice none 0 0] 27) := keep_blk (B := w.heap.size) (by repeat (first | with_reducible exact HR2 | refine heap_far ?_ (by omega))) b3; have HF3 := keep_blk (put1h HF2) b3; have t3 : Below w.heap.size w w3 := Below.trans (by repeat (first | with_reducible exact t2 | refine Below.setCell ?_ (by dsimp only; omega) _)) (b3.mono (by have z := t2.size; simpa [World.setCell] using z)); have hn1 := congrArg List.length hps; rw [List.length_map, ← unhide HTE] at hn1; have hps0 : 0 < ps.length := (by rw [hn1]; exact List.length_pos_iff.2 (split_ne _ _)); obtain ⟨g9, c9, rfl, _⟩ := hT.at hps0; have zN : ¬ (1 : Int) < (ps.length : Int) := (by have zz := unhide HNN; omega); clear hps hpz hpl hn1 hps0 hT; obtain ⟨k0, k1, k2, k3, k4, k5, k6, k7, k8, k9, k10⟩ := cells11 HF3; obtain ⟨m0, m1, m2, m3, m4, m5, m6, m7, m8, m9, m10⟩ := cells11 HR3; have frF := froz11 HF3; have frR := froz11 HR3)
                | (go_at_call 68; refine (unhide CP _).mono ?_; rintro e w4 ⟨rfl, b4⟩; have HR4 : w4.heap[w.heap.size]? = some (.cells #[.int .i64 0, .string ⟨#[]⟩, .string ⟨#[]⟩, .string ⟨#[]⟩, .slice none 0 0, .string ⟨#[]⟩, .bool false, .bool false, .string ⟨#[]⟩, .bool false, .slice none 0 0] 27) := keep_blk (B := w.heap.size) (by repeat (first | with_reducible exact HR3 | refine heap_far ?_ (by omega))) b4; have HF4 := keep_blk (HF3) b4; have t4 : Below w.heap.size w w4 := Below.trans (by repeat (first | with_reducible exact t3 | refine Below.setCell ?_ (by dsimp only; omega) _)) (b4.mono (by have z := t3.size; simpa [World.setCell] using z)); obtain ⟨k0, k1, k2, k3, k4, k5, k6, k7, k8, k9, k10⟩ := cells11 HF4; obtain ⟨m0, m1, m2, m3, m4, m5, m6, m7, m8, m9, m10⟩ := cells11 HR4; have frF := froz11 HF4; have frR := froz11 HR4))
              refine bodyPost_ret (res_fil2 rfl _ _ w.heap.size (.int .i64 3) (.string nm) (.string (strOfNums v)) (.string ⟨#[]⟩) (.slice none 0 0) (.string ⟨#[]⟩) (.bool false) (.bool false) (.string ⟨#[]⟩) (.bool false) (.slice none 0 0) rfl (by
                refine put11h (a0 := (.int .i64 0)) (a1 := (.string ⟨#[]⟩)) (a2 := (.string ⟨#[]⟩)) (a3 := (.string ⟨#[]⟩)) (a4 := (.slice none 0 0)) (a5 := (.string ⟨#[]⟩)) (a6 := (.bool false)) (a7 := (.bool false)) (a8 := (.string ⟨#[]⟩)) (a9 := (.bool false)) (a10 := (.slice none 0 0)) ?_
                repeat (first | with_reducible exact HR4 | refine heap_far ?_ (by omega)))) rfl ?_
              refine ⟨_, by rw [unhide HX]; rfl, ⟨_, flv_itm _ _ 3 nm (strOfNums v) ⟨#[]⟩ false none none 0 0, (fun e he => by rw [unhide HX] at he; injection he with he; rw [← he]; unfold itmF; rw [strOfNums_nums]; rfl)⟩, ?_⟩
              repeat (first | with_reducible exact t4 | refine Below.setCell ?_ (by dsimp only; omega) _)

      · have hq' : (c == 61) = false := by rw [beq_eq_false_iff_ne]; exact hq
        have HT2 : Hid (∀ x ∈ (nums s).take (i + 1), x ≠ 61) := fun x hx => by
          rw [List.take_succ_eq_append_getElem (by rw [unhide hnl]; exact hlt)] at hx
          rcases List.mem_append.1 hx with h | h
          · exact unhide HT x h
          · rw [List.mem_singleton.1 h]
            have := unhide HAT
            rw [List.getD, List.getElem?_eq_getElem (by rw [unhide hnl]; exact hlt), Option.getD_some] at this
            rw [this]; exact hq
        have wi : IntKind.i64.wrap ((i : Int) + 1) = (i : Int) + 1 := wrap_in (by omega) (by omega)
        clear HT HAT hq
        go_wp2
        go_roundw
        case rel => exact ⟨i + 1, by go_num, by omega, HT2, HZ⟩
        case measure => simp [intOf]; omega
    · have zl : ¬ (i : Int) < (s.size : Int) := by omega
      have hie : i = s.size := by omega
      have ze : ((i : Int) == (s.size : Int)) = true := by rw [hie, beq_iff_eq]
      have HX : Hid (itemP (nums s) = none) := item_none (cut_none 61 _ fun x hx => unhide HT x (by rw [List.take_of_length_le (by rw [unhide hnl]; omega)]; exact hx))
      obtain ⟨m0, m1, m2, m3, m4, m5, m6, m7, m8, m9, m10⟩ := cells11 (unhide HZ).1
      have frR := froz11 (unhide HZ).1
      clear hie HT
      go_wp2
      refine bodyPost_ret (res_fil2 rfl _ _ w.heap.size (.int .i64 0) (.string ⟨#[]⟩) (.string ⟨#[]⟩) (.string ⟨#[]⟩) (.slice none 0 0) (.string ⟨#[]⟩) (.bool false) (.bool false) (.string ⟨#[]⟩) (.bool false) (.slice none 0 0) rfl (by
        refine put11h (a0 := (.int .i64 0)) (a1 := (.string ⟨#[]⟩)) (a2 := (.string ⟨#[]⟩)) (a3 := (.string ⟨#[]⟩)) (a4 := (.slice none 0 0)) (a5 := (.string ⟨#[]⟩)) (a6 := (.bool false)) (a7 := (.bool false)) (a8 := (.string ⟨#[]⟩)) (a9 := (.bool false)) (a10 := (.slice none 0 0)) ?_
        with_reducible exact (unhide HZ).1)) rfl ?_
      refine ⟨_, by rw [unhide HX]; rfl, ⟨_, flv_itm _ _ 0 ⟨#[]⟩ ⟨#[]⟩ ⟨#[]⟩ false none none 0 0, (fun e he => by rw [unhide HX] at he; cases he)⟩, ?_⟩
      repeat (first | with_reducible exact (unhide HZ).2.1 | refine Below.setCell ?_ (by dsimp only; omega) _)
end Go.Proofs.YthbldkkjjjmegaaGreatDoor
