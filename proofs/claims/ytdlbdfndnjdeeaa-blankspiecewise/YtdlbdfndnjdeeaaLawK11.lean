/- The law BlanksKeep. -/
import Derived.Test.YtdlbdfndnjdeeaaLawA11
import Derived.Test.YtdlbdfndnjdeeaaStepA
import Derived.Test.YtdlbdfndnjdeeaaCls
namespace Go.Proofs.Ytdlbdfndnjdeeaa
open Go.RowKit

theorem is_mark (r : Int) (W : World) : Calls Try.prog 23 #[.int .i32 r, .slice (some ⟨W.heap.size, 0, none⟩) 1 1] (W.alloc (.cells #[.int .i64 3] 3)) fun e w' => e = .returned (.bool (mk11 r)) ∧ Below W.heap.size W w' := by
  refine (is_any r _ [3] _ ⟨_, 1, rfl, fun _ => ⟨W.heap.size, 0, rfl, fun j hj => ?_⟩⟩ (by decide)).mono fun e w' ⟨he, hg⟩ => ⟨he.trans (ret_bool (by unfold mk11; simp)), below_new hg.below⟩
  have hj0 : j = 0 := by simpa using hj
  subst hj0
  exact box1 W _ _
theorem fre_zero (l : List Int) (h : 0 < l.length) : fre mk11 l = !mk11 (l.getD 0 0) := by
  obtain ⟨x, t, rfl⟩ := List.exists_cons_of_ne_nil (List.length_pos_iff.1 h)
  rfl
theorem sp_split (l : List Int) (i : Int) (h : spAt l i = true) : ∃ k : Nat, i = k ∧ k < l.length ∧ l = l.take k ++ 32 :: l.drop (k + 1) ∧ fre mk11 (l.drop (k + 1)) = true := by
  unfold spAt at h
  split at h
  · rename_i hi
    obtain ⟨k, rfl⟩ := Int.eq_ofNat_of_zero_le hi.1
    have hk : k < l.length := by omega
    obtain ⟨h1, h2⟩ := sp_iff.1 h
    have e : (k : Int).toNat = k := by omega
    rw [e] at h1 h2
    refine ⟨k, rfl, hk, ?_, h2⟩
    rw [← h1, ← drop_at l k hk, List.take_append_drop]
  · cases h

set_option maxHeartbeats 12800000 in
theorem keep11_law (a : Option Addr) (cap : Nat) (l : List Int) (i : Int) (w : World) (hL : Ly w) (hcap : l.length ≤ cap) (hr : Row w (.slice a l.length cap) l) : Calls Try.prog 6 #[.slice a l.length cap, .int .i64 i] w fun e w' => e = .returned (.bool true) ∧ Below w.heap.size w w' := by
  have HA := hide awake11
  obtain ⟨i0, hi, hz0, hz1, hz2⟩ := info_parts elem_info
  by_cases hlen : 1000 < l.length
  · have hz : (1000 : Int) < (l.length : Int) := by omega
    go_enter Try.func6, Try.ntmps6
    go_wp2_with (go_at_call 8; refine (unhide HA _ hL).mono ?_; rintro e w5 ⟨rfl, b5⟩)
    go_ret
    exact ⟨rfl, b5⟩
  · have hz : ¬ (1000 : Int) < (l.length : Int) := by omega
    have hvl := val_len l
    have hnl := num_len (M := mk11) l
    have H1 := hide (fun W hW hR => bval_any (.slice a l.length cap) l W hW (by omega) hR (fits_of hcap))
    have H2 := hide (fun W hW hR => solid_any (.slice a l.length cap) l W hW (by omega) hR)
    have H4 := hide (fun v W hW hR => solid_any v (valL mk11 l) W hW (by omega) hR)
    rw [num_val mk11_32] at H4
    have H5 := hide (fun W hW hR => bnum_any (.slice a l.length cap) l W hW (by omega) hR)
    have H6 := hide (fun W hW hR => bsp_any (.slice a l.length cap) l i W hW (by omega) hR)
    have S2 := hide (fun v1 v2 W => same_any v1 v2 (numL mk11 l) W (by omega))
    have S3 := hide (fun v1 v2 W => same_any v1 v2 (valL mk11 l) W (by omega))
    by_cases h0 : 0 < l.length
    · have hl0 : (0 : Int) < (l.length : Int) := by omega
      have hr' := hr
      obtain ⟨_, _, hae, hc⟩ := hr'
      cases hae
      obtain ⟨b, off, rfl, hcc⟩ := hc h0
      have HC := hide hcc
      have k0 := hcc 0 h0
      rw [Nat.add_zero] at k0
      clear hc hcc
      have HF := hide (fre_zero l h0)
      have H3 := hide (fun W => is_mark (l.getD 0 0) W)
      rw [unhide HF] at H4
      have K0 := hide k0
      clear k0
      have HKC : Hid (∀ W, Below w.heap.size w W → W.cell? ⟨b, off, none⟩ = some (.int .i32 (l.getD 0 0))) := fun W h => (h.cell (by exact cell_lt (unhide K0))).trans (unhide K0)
      cases hsp : spAt l i
      · rw [hsp] at H6
        generalize l.getD 0 0 = x at *
        generalize valL mk11 l = V at *
        generalize numL mk11 l = Nu at *
        cases hm : mk11 x
        · rw [hm] at H3 H4
          simp only [Bool.not_false, if_true] at H4
          have S1 := hide (fun v1 v2 W => same_any v1 v2 Nu W (by omega))
          go_enter Try.func6, Try.ntmps6
          go_wp2_with (first
            | (go_at_call 8; refine (unhide HA _ (hL.keep c9)).mono ?_; rintro e w10 ⟨rfl, b10⟩; have c10 := c9.trans (b10.mono c9.size); have V_10 := hide ((unhide V_9).below b10))
            | (go_at_call 18; refine (unhide H6 _ (hL.keep c8) (hr.below c8)).mono ?_; rintro e w9 ⟨rfl, b9⟩; have c9 := c8.trans (b9.mono c8.size); have V_9 := hide ((unhide V_8).below b9))
            | (go_at_call 9; refine (unhide S2 _ _ _ (unhide N_7) (unhide O_7).row).mono ?_; rintro e w8 ⟨rfl, b8⟩; have c8 := c7.trans (b8.mono c7.size); have V_8 := hide ((unhide V_7).below b8); have N_8 := hide ((unhide N_7).below b8); have O_8 := hide ((unhide O_7).below b8))
            | (go_at_call 22; refine (unhide H2 _ (hL.keep c6) (hr.below c6)).mono ?_; rintro e w7 ⟨v7, rfl, r7, b7⟩; have c7 := c6.trans (b7.mono c6.size); have V_7 := hide ((unhide V_6).below b7); have N_7 := hide ((unhide N_6).below b7); have O_7 := hide r7)
            | (go_at_call 12; refine (unhide H5 _ (hL.keep c5) (hr.below c5)).mono ?_; rintro e w6 ⟨v6, rfl, r6, b6⟩; have c6 := c5.trans (b6.mono c5.size); have V_6 := hide ((unhide V_5).below b6); have N_6 := hide r6)
            | (go_at_call 9; refine (unhide S1 _ _ _ (unhide Q_4).row (unhide K_4).row).mono ?_; rintro e w5 ⟨rfl, b5⟩; have c5 := c4.trans (b5.mono c4.size); have V_5 := hide ((unhide V_4).below b5); have K_5 := hide ((unhide K_4).below b5); have Q_5 := hide ((unhide Q_4).below b5))
            | (go_at_call 22; refine (unhide H4 _ _ (hL.keep c3) (unhide V_3)).mono ?_; rintro e w4 ⟨v4, rfl, r4, b4⟩; have c4 := c3.trans (b4.mono c3.size); have V_4 := hide ((unhide V_3).below b4); have K_4 := hide ((unhide K_3).below b4); have Q_4 := hide r4)
            | (go_at_call 23; refine (unhide H3 _).mono ?_; rintro e w3 ⟨rfl, b3⟩; have c3 := c2.trans (b3.mono c2.size); have V_3 := hide ((unhide V_2).below b3); have K_3 := hide ((unhide K_2).below b3))
            | (go_at_call 22; refine (unhide H2 _ (hL.keep c1) (hr.below c1)).mono ?_; rintro e w2 ⟨v2, rfl, r2, b2⟩; have c2 := c1.trans (b2.mono c1.size); have V_2 := hide ((unhide V_1).below b2); have K_2 := hide r2; have kk := unhide HKC w2 c2)
            | (go_at_call 10; refine (unhide H1 _ hL hr).mono ?_; rintro e w1 ⟨v1, rfl, r1, b1⟩; have c1 := b1; have V_1 := hide r1))
          go_ret
          exact ⟨rfl, c10⟩
        · rw [hm] at H3 H4
          simp only [Bool.not_true, Bool.false_eq_true, if_false] at H4
          have S1 := hide (fun v1 v2 W => same_any v1 v2 (32 :: Nu) W (by rw [List.length_cons]; omega))
          go_enter Try.func6, Try.ntmps6
          go_wp2_with (first
            | (go_at_call 8; refine (unhide HA _ (hL.keep c10)).mono ?_; rintro e w11 ⟨rfl, b11⟩; have c11 := c10.trans (b11.mono c10.size); have V_11 := hide ((unhide V_10).below b11))
            | (go_at_call 18; refine (unhide H6 _ (hL.keep c9) (hr.below c9)).mono ?_; rintro e w10 ⟨rfl, b10⟩; have c10 := c9.trans (b10.mono c9.size); have V_10 := hide ((unhide V_9).below b10))
            | (go_at_call 9; refine (unhide S2 _ _ _ (unhide N_8) (unhide O_8).row).mono ?_; rintro e w9 ⟨rfl, b9⟩; have c9 := c8.trans (b9.mono c8.size); have V_9 := hide ((unhide V_8).below b9); have N_9 := hide ((unhide N_8).below b9); have O_9 := hide ((unhide O_8).below b9))
            | (go_at_call 22; refine (unhide H2 _ (hL.keep c7) (hr.below c7)).mono ?_; rintro e w8 ⟨v8, rfl, r8, b8⟩; have c8 := c7.trans (b8.mono c7.size); have V_8 := hide ((unhide V_7).below b8); have N_8 := hide ((unhide N_7).below b8); have O_8 := hide r8)
            | (go_at_call 12; refine (unhide H5 _ (hL.keep c6) (hr.below c6)).mono ?_; rintro e w7 ⟨v7, rfl, r7, b7⟩; have c7 := c6.trans (b7.mono c6.size); have V_7 := hide ((unhide V_6).below b7); have N_7 := hide r7)
            | (go_at_call 9; refine (unhide S1 _ _ _ (unhide Q_5).row (unhide K_5).row).mono ?_; rintro e w6 ⟨rfl, b6⟩; have c6 := c5.trans (b6.mono c5.size); have V_6 := hide ((unhide V_5).below b6); have K_6 := hide ((unhide K_5).below b6); have Q_6 := hide ((unhide Q_5).below b6))
            | (go_at_call 22; refine (unhide H4 _ _ (hL.keep c4) (unhide V_4)).mono ?_; rintro e w5 ⟨v5, rfl, r5, b5⟩; have c5 := c4.trans (b5.mono c4.size); have V_5 := hide ((unhide V_4).below b5); have K_5 := hide ((unhide K_4).below b5); have Q_5 := hide r5)
            | (at_builtin; refine wpList_append_rn _ rfl _ _ rfl w.heap.size i0 hi hz0 hz1 hz2 _ 1 _ rfl (Rn.own rfl ((Rn.new1 w3 32).base c3.size)) _ Nu w1.heap.size rfl (Rn.below (unhide K_3) (Below.one _ _)) (by unfold maxLen; omega) (by omega) (by simp; have := c3.size; omega) ?_; intro v4 w4 hown4 hgrow4; have b4 : Below w3.heap.size w3 w4 := (Below.one w3 _).trans (below_own hgrow4 (by simp) (own_block (Rn.own rfl (Rn.new1 w3 32)))); have c4 := c3.trans (b4.mono c3.size); have V_4 := hide ((unhide V_3).below b4); have K_4 : Hid (Rn w.heap.size v4 (32 :: Nu) w4) := (by show Rn _ _ _ _; unfold Rn; rw [List.length_cons]; simpa [Nat.add_comm] using hown4); clear hown4 hgrow4)
            | (go_at_call 23; refine (unhide H3 _).mono ?_; rintro e w3 ⟨rfl, b3⟩; have c3 := c2.trans (b3.mono c2.size); have V_3 := hide ((unhide V_2).below b3); have K_3 := hide ((unhide K_2).below b3))
            | (go_at_call 22; refine (unhide H2 _ (hL.keep c1) (hr.below c1)).mono ?_; rintro e w2 ⟨v2, rfl, r2, b2⟩; have c2 := c1.trans (b2.mono c1.size); have V_2 := hide ((unhide V_1).below b2); have K_2 := hide r2; have kk := unhide HKC w2 c2)
            | (go_at_call 10; refine (unhide H1 _ hL hr).mono ?_; rintro e w1 ⟨v1, rfl, r1, b1⟩; have c1 := b1; have V_1 := hide r1))
          go_ret
          exact ⟨rfl, c11⟩
      · rw [hsp] at H6
        obtain ⟨k, rfl, hk, hsl, hfk⟩ := sp_split l i hsp
        have H7 := hide (fun v W hW hR hF => bval_any v (l.take k ++ 32 :: l.drop k) W hW (by rw [List.length_append, List.length_cons, List.length_take, List.length_drop]; omega) hR hF)
        have e7 : valL mk11 (l.take k ++ 32 :: l.drop k) = valL mk11 l := by
          have e8 : l.drop k = 32 :: l.drop (k + 1) := by
            have h1 := drop_at l k hk
            have h2 : l.getD k 0 = 32 := by
              have := congrArg (fun z => z.getD k 0) hsl
              rw [this]
              simp [List.getD, List.length_take, Nat.min_eq_left (Nat.le_of_lt hk)]
            rw [h1, h2]
          rw [e8, val_more mk11_32 _ _ hfk, ← hsl]
        rw [e7] at H7
        clear e7 hsl hfk hsp
        have hkz : (k : Int) < (l.length : Int) := by omega
        have hkz0 : (0 : Int) ≤ (k : Int) := by omega
        have hkc : (k : Int) ≤ (cap : Int) := by omega
        have hkc2 : (l.length : Int) ≤ (cap : Int) := by omega
        have hkc3 : ¬ cap = k := by omega
        have hkc4 : (k : Int) ≤ (l.length : Int) := by omega
        generalize l.getD 0 0 = x at *
        generalize valL mk11 l = V at *
        generalize numL mk11 l = Nu at *
        cases hm : mk11 x
        · rw [hm] at H3 H4
          simp only [Bool.not_false, if_true] at H4
          have S1 := hide (fun v1 v2 W => same_any v1 v2 Nu W (by omega))
          go_enter Try.func6, Try.ntmps6
          go_wp2_with (first
            | (go_at_call 18; refine (unhide H6 _ (hL.keep c8) (hr.below c8)).mono ?_; rintro e w9 ⟨rfl, b9⟩; have c9 := c8.trans (b9.mono c8.size); have V_9 := hide ((unhide V_8).below b9))
            | (go_at_call 9; refine (unhide S2 _ _ _ (unhide N_7) (unhide O_7).row).mono ?_; rintro e w8 ⟨rfl, b8⟩; have c8 := c7.trans (b8.mono c7.size); have V_8 := hide ((unhide V_7).below b8); have N_8 := hide ((unhide N_7).below b8); have O_8 := hide ((unhide O_7).below b8))
            | (go_at_call 22; refine (unhide H2 _ (hL.keep c6) (hr.below c6)).mono ?_; rintro e w7 ⟨v7, rfl, r7, b7⟩; have c7 := c6.trans (b7.mono c6.size); have V_7 := hide ((unhide V_6).below b7); have N_7 := hide ((unhide N_6).below b7); have O_7 := hide r7)
            | (go_at_call 12; refine (unhide H5 _ (hL.keep c5) (hr.below c5)).mono ?_; rintro e w6 ⟨v6, rfl, r6, b6⟩; have c6 := c5.trans (b6.mono c5.size); have V_6 := hide ((unhide V_5).below b6); have N_6 := hide r6)
            | (go_at_call 9; refine (unhide S1 _ _ _ (unhide Q_4).row (unhide K_4).row).mono ?_; rintro e w5 ⟨rfl, b5⟩; have c5 := c4.trans (b5.mono c4.size); have V_5 := hide ((unhide V_4).below b5); have K_5 := hide ((unhide K_4).below b5); have Q_5 := hide ((unhide Q_4).below b5))
            | (go_at_call 22; refine (unhide H4 _ _ (hL.keep c3) (unhide V_3)).mono ?_; rintro e w4 ⟨v4, rfl, r4, b4⟩; have c4 := c3.trans (b4.mono c3.size); have V_4 := hide ((unhide V_3).below b4); have K_4 := hide ((unhide K_3).below b4); have Q_4 := hide r4)
            | (go_at_call 23; refine (unhide H3 _).mono ?_; rintro e w3 ⟨rfl, b3⟩; have c3 := c2.trans (b3.mono c2.size); have V_3 := hide ((unhide V_2).below b3); have K_3 := hide ((unhide K_2).below b3))
            | (go_at_call 22; refine (unhide H2 _ (hL.keep c1) (hr.below c1)).mono ?_; rintro e w2 ⟨v2, rfl, r2, b2⟩; have c2 := c1.trans (b2.mono c1.size); have V_2 := hide ((unhide V_1).below b2); have K_2 := hide r2; have kk := unhide HKC w2 c2)
            | (go_at_call 10; refine (unhide H1 _ hL hr).mono ?_; rintro e w1 ⟨v1, rfl, r1, b1⟩; have c1 := b1; have V_1 := hide r1))
          have cc := c9
          have VV := V_9
          generalize w9 = wk at *
          clear H1 H2 H3 H4 H5 H6 S1 S2
          have hsk := cc.size
          have PC : Hid (∀ (W : World), Below wk.heap.size wk W → ∀ j u, ((l.take k).map (Value.int .i32))[j]? = some u → W.cell? ((⟨b, off, none⟩ : Addr).add j) = some u) := fun W gg => news_of_cells fun j hj => by
            have hj' : j < l.length := by rw [List.length_take] at hj; omega
            have h := unhide HC j hj'
            rw [((cc.trans (gg.mono hsk)).cell (p := ⟨b, off + j, none⟩) (by exact cell_lt h)), h]
            have hjk : j < k := by rw [List.length_take] at hj; omega
            simp [List.getD, hjk]
          have QC : Hid (∀ (W : World), Below wk.heap.size wk W → ∀ j u, ((l.drop k).map (Value.int .i32))[j]? = some u → W.cell? ((⟨b, off + k, none⟩ : Addr).add j) = some u) := fun W gg => news_of_cells fun j hj => by
            have hj' : k + j < l.length := by rw [List.length_drop] at hj; omega
            have h := unhide HC (k + j) hj'
            rw [Nat.add_assoc, ((cc.trans (gg.mono hsk)).cell (p := ⟨b, off + (k + j), none⟩) (by exact cell_lt h)), h]
            simp [List.getD]
          have HTL : Hid ((l.take k).length = k) := by show _ = _; rw [List.length_take]; omega
          have HDL : Hid ((l.drop k).length = l.length - k) := by show _ = _; rw [List.length_drop]
          have G1 : Hid (Gr wk (wk.drew.alloc (.cells #[] 21))) := ((Gr.refl _).drewN 1).alloc _
          have G2 : Hid (Gr wk ((wk.alloc (.cells #[] 21)).alloc (.cells #[.int .i32 32] 21)).drew) := (((Gr.refl _).alloc _).alloc _).drew
          have G3 : Hid (Gr wk ((wk.alloc (.cells #[.int .i32 32] 21)).alloc (.cells #[] 21)).drew) := (((Gr.refl _).alloc _).alloc _).drew
          have O1 : Hid ((wk.drew.alloc (.cells #[] 21)).ownsRow wk.heap.size 21 1 (.slice (some ⟨wk.heap.size, 0, none⟩) 0 0) 0 []) := own_nil wk.drew _ (Nat.le_refl _)
          have O2 : Hid (((wk.alloc (.cells #[] 21)).alloc (.cells #[.int .i32 32] 21)).drew.ownsRow wk.heap.size 21 1 (.slice (some ⟨wk.heap.size, 0, none⟩) 0 0) 0 []) := own_below (own_nil wk _ (Nat.le_refl _)) ((Gr.one _ _).drew).below
          have O3 : Hid (((wk.alloc (.cells #[.int .i32 32] 21)).alloc (.cells #[] 21)).drew.ownsRow wk.heap.size 21 1 (.slice (some ⟨wk.heap.size + 1, 0, none⟩) 0 0) 0 []) := by
            have h9 := own_below (own_nil (wk.alloc (.cells #[.int .i32 32] 21)) wk.heap.size (by simp)) ((Gr.refl _).drew).below
            rw [World.size_alloc] at h9
            exact h9
          have N2 : Hid (((wk.alloc (.cells #[] 21)).alloc (.cells #[.int .i32 32] 21)).drew.heap[wk.heap.size + 1]? = some (.cells #[.int .i32 32] 21)) := by
            have h9 := heap_new (wk.alloc (.cells #[] 21)) (.cells #[.int .i32 32] 21)
            rw [World.size_alloc] at h9; exact h9
          have N3 : Hid (((wk.alloc (.cells #[.int .i32 32] 21)).alloc (.cells #[] 21)).drew.heap[wk.heap.size]? = some (.cells #[.int .i32 32] 21)) :=
            ((Gr.one (wk.alloc (.cells #[.int .i32 32] 21)) (.cells #[] 21)).below.block _ (by simp)).trans (heap_new wk _)
          have mm1 : 0 + k ≤ maxLen := by unfold maxLen; omega
          have mm2 : (0 + k) * 4 ≤ 140737488355328 := by omega
          have mm3 : 0 + k + 1 ≤ maxLen := by unfold maxLen; omega
          have mm4 : (0 + k + 1) * 4 ≤ 140737488355328 := by omega
          have mm5 : 0 + k + 1 + (l.length - k) ≤ maxLen := by unfold maxLen; omega
          have mm6 : (0 + k + 1 + (l.length - k)) * 4 ≤ 140737488355328 := by omega
          have HRW : Hid (∀ (v9 : Value) (w9 : World), w9.ownsRow wk.heap.size 21 1 v9 (0 + k + 1 + (l.length - k)) ([] ++ (l.take k).map (Value.int .i32) ++ [.int .i32 32] ++ (l.drop k).map (Value.int .i32)) → Rn wk.heap.size v9 (l.take k ++ 32 :: l.drop k) w9) := fun v9 w9 h => by
            unfold Rn
            have e1 : (l.take k ++ 32 :: l.drop k).length = 0 + k + 1 + (l.length - k) := by rw [List.length_append, List.length_cons, unhide HTL, unhide HDL]; omega
            rw [e1]
            simpa using h
          have HPL : Hid (((l.take k).map (Value.int .i32)).length = k * 1) := by show _ = _; rw [List.length_map, unhide HTL, Nat.mul_one]
          have HBL : Hid (((l.drop k).map (Value.int .i32)).length = (l.length - k) * 1) := by show _ = _; rw [List.length_map, unhide HDL, Nat.mul_one]
          have HP1 := hide (ints_one (l.take k))
          have HB1 := hide (ints_one (l.drop k))
          generalize (l.take k).map (Value.int .i32) = pre at *
          generalize (l.drop k).map (Value.int .i32) = beh at *
          generalize l.take k ++ 32 :: l.drop k = MORE at *
          generalize hln : l.length = ln at *
          go_region_held3 (fun _ => True) (trivial)
            (first
              | (refine step_append_at _ (by rfl) _ _ _ (by rfl) wk.heap.size 21 i0 _ 1 4 Try.underlying22 hi hz0 hz1 hz2 rfl (by omega) _ 0 [] (by rfl) (unhide O1) ⟨b, off, none⟩ k cap pre (by rfl) (unhide HPL) (unhide PC _ (unhide G1).below) (unhide HP1) mm1 mm2 (unhide G1).size ?_; intro v7 w7 hown7 hgrow7; have b7 : Below wk.heap.size wk w7 := ((unhide G1).below.trans (below_own hgrow7 (unhide G1).size (own_block (unhide O1)))); have hs7 := b7.size)
              | (refine step_append_at _ (by rfl) _ _ _ (by rfl) wk.heap.size 21 i0 _ 1 4 Try.underlying22 hi hz0 hz1 hz2 rfl (by omega) _ 0 [] (by rfl) (unhide O2) ⟨b, off, none⟩ k cap pre (by rfl) (unhide HPL) (unhide PC _ (unhide G2).below) (unhide HP1) mm1 mm2 (unhide G2).size ?_; intro v7 w7 hown7 hgrow7; have b7 : Below wk.heap.size wk w7 := ((unhide G2).below.trans (below_own hgrow7 (unhide G2).size (own_block (unhide O2)))); have hs7 := b7.size; have hN7 : w7.heap[wk.heap.size + 1]? = some (.cells #[.int .i32 32] 21) := ((hgrow7.block (wk.heap.size + 1) (by simp) (by simp [Value.ownBlock])).trans (unhide N2)))
              | (refine step_append_at _ (by rfl) _ _ _ (by rfl) wk.heap.size 21 i0 _ 1 4 Try.underlying22 hi hz0 hz1 hz2 rfl (by omega) _ 0 [] (by rfl) (unhide O3) ⟨b, off, none⟩ k cap pre (by rfl) (unhide HPL) (unhide PC _ (unhide G3).below) (unhide HP1) mm1 mm2 (unhide G3).size ?_; intro v7 w7 hown7 hgrow7; have b7 : Below wk.heap.size wk w7 := ((unhide G3).below.trans (below_own hgrow7 (unhide G3).size (own_block (unhide O3)))); have hs7 := b7.size; have hN7 : w7.heap[wk.heap.size]? = some (.cells #[.int .i32 32] 21) := ((hgrow7.block (wk.heap.size) (by simp; omega) (by simp [Value.ownBlock])).trans (unhide N3)))
              | (refine step_append_lies _ (by rfl) _ _ _ (by rfl) wk.heap.size 21 i0 _ 1 4 Try.underlying22 hi hz0 hz1 hz2 rfl (by omega) _ (0 + k) _ (by rfl) (hown7.alloc _) ⟨w7.heap.size, 0, none⟩ 1 1 [.int .i32 32] (by rfl) (by rfl) (World.news_of_block (B := w7.heap.size) (cs := #[.int .i32 32]) (t := 21) (fr := (0, 0)) (heap_new w7 _)) (by simp [Value.oneCell']) (by omega) mm3 mm4 (by rw [World.size_alloc]; omega) (w7.heap.size + 1) (by simp) ?_; intro g8 cap8 w8 hown8 hgrow8 hat8 hlt8; have b8 : Below wk.heap.size wk w8 := ((b7.alloc hs7 _).trans (below_own hgrow8 (by rw [World.size_alloc]; omega) (own_block hown7))); have hs8 := b8.size)
              | (refine step_append_lies _ (by rfl) _ _ _ (by rfl) wk.heap.size 21 i0 _ 1 4 Try.underlying22 hi hz0 hz1 hz2 rfl (by omega) _ (0 + k) _ (by rfl) hown7 ⟨wk.heap.size + 1, 0, none⟩ 1 1 [.int .i32 32] (by rfl) (by rfl) (World.news_of_block (B := wk.heap.size + 1) (cs := #[.int .i32 32]) (t := 21) (fr := (0, 0)) hN7) (by simp [Value.oneCell']) (by omega) mm3 mm4 hs7 w7.heap.size (by simp) ?_; intro g8 cap8 w8 hown8 hgrow8 hat8 hlt8; have b8 : Below wk.heap.size wk w8 := (b7.trans (below_own hgrow8 hs7 (own_block hown7))); have hs8 := b8.size)
              | (refine step_append_lies _ (by rfl) _ _ _ (by rfl) wk.heap.size 21 i0 _ 1 4 Try.underlying22 hi hz0 hz1 hz2 rfl (by omega) _ (0 + k) _ (by rfl) hown7 ⟨wk.heap.size, 0, none⟩ 1 1 [.int .i32 32] (by rfl) (by rfl) (World.news_of_block (B := wk.heap.size) (cs := #[.int .i32 32]) (t := 21) (fr := (0, 0)) hN7) (by simp [Value.oneCell']) (by omega) mm3 mm4 hs7 w7.heap.size (by simp) ?_; intro g8 cap8 w8 hown8 hgrow8 hat8 hlt8; have b8 : Below wk.heap.size wk w8 := (b7.trans (below_own hgrow8 hs7 (own_block hown7))); have hs8 := b8.size)
              | (refine step_append_at _ (by rfl) _ _ _ (by rfl) wk.heap.size 21 i0 _ 1 4 Try.underlying22 hi hz0 hz1 hz2 rfl (by omega) _ (0 + k + 1) _ (by rfl) hown8 ⟨b, off + k, none⟩ (ln - k) (cap - k) beh (by rfl) (unhide HBL) (unhide QC _ b8) (unhide HB1) mm5 mm6 hs8 ?_; intro v9 w9 hown9 hgrow9; have b9 : Below wk.heap.size wk w9 := (b8.trans (below_own hgrow9 hs8 (own_block hown8)))))
          all_goals (
            have r9 := unhide HRW _ _ hown9
            have V9 := hide ((unhide VV).below b9)
            have c9 := cc.trans (b9.mono hsk)
            clear hown9 hgrow9
            try simp only [Exit.then]
            go_wp2_with (first
              | (go_at_call 8; refine (unhide HA _ (hL.keep e11)).mono ?_; rintro e w12 ⟨rfl, b12⟩; have e12 := e11.trans (b12.mono e11.size))
              | (go_at_call 9; refine (unhide S3 _ _ _ r10 ((unhide V9).below b10)).mono ?_; rintro e w11 ⟨rfl, b11⟩; have e11 := e10.trans (b11.mono e10.size))
              | (go_at_call 10; refine (unhide H7 _ _ (hL.keep c9) r9.row r9.fits).mono ?_; rintro e w10 ⟨v10, rfl, r10, b10⟩; have e10 := c9.trans (b10.mono c9.size)))
            go_ret
            exact ⟨rfl, e12⟩)
        · rw [hm] at H3 H4
          simp only [Bool.not_true, Bool.false_eq_true, if_false] at H4
          have S1 := hide (fun v1 v2 W => same_any v1 v2 (32 :: Nu) W (by rw [List.length_cons]; omega))
          go_enter Try.func6, Try.ntmps6
          go_wp2_with (first
            | (go_at_call 18; refine (unhide H6 _ (hL.keep c9) (hr.below c9)).mono ?_; rintro e w10 ⟨rfl, b10⟩; have c10 := c9.trans (b10.mono c9.size); have V_10 := hide ((unhide V_9).below b10))
            | (go_at_call 9; refine (unhide S2 _ _ _ (unhide N_8) (unhide O_8).row).mono ?_; rintro e w9 ⟨rfl, b9⟩; have c9 := c8.trans (b9.mono c8.size); have V_9 := hide ((unhide V_8).below b9); have N_9 := hide ((unhide N_8).below b9); have O_9 := hide ((unhide O_8).below b9))
            | (go_at_call 22; refine (unhide H2 _ (hL.keep c7) (hr.below c7)).mono ?_; rintro e w8 ⟨v8, rfl, r8, b8⟩; have c8 := c7.trans (b8.mono c7.size); have V_8 := hide ((unhide V_7).below b8); have N_8 := hide ((unhide N_7).below b8); have O_8 := hide r8)
            | (go_at_call 12; refine (unhide H5 _ (hL.keep c6) (hr.below c6)).mono ?_; rintro e w7 ⟨v7, rfl, r7, b7⟩; have c7 := c6.trans (b7.mono c6.size); have V_7 := hide ((unhide V_6).below b7); have N_7 := hide r7)
            | (go_at_call 9; refine (unhide S1 _ _ _ (unhide Q_5).row (unhide K_5).row).mono ?_; rintro e w6 ⟨rfl, b6⟩; have c6 := c5.trans (b6.mono c5.size); have V_6 := hide ((unhide V_5).below b6); have K_6 := hide ((unhide K_5).below b6); have Q_6 := hide ((unhide Q_5).below b6))
            | (go_at_call 22; refine (unhide H4 _ _ (hL.keep c4) (unhide V_4)).mono ?_; rintro e w5 ⟨v5, rfl, r5, b5⟩; have c5 := c4.trans (b5.mono c4.size); have V_5 := hide ((unhide V_4).below b5); have K_5 := hide ((unhide K_4).below b5); have Q_5 := hide r5)
            | (at_builtin; refine wpList_append_rn _ rfl _ _ rfl w.heap.size i0 hi hz0 hz1 hz2 _ 1 _ rfl (Rn.own rfl ((Rn.new1 w3 32).base c3.size)) _ Nu w1.heap.size rfl (Rn.below (unhide K_3) (Below.one _ _)) (by unfold maxLen; omega) (by omega) (by simp; have := c3.size; omega) ?_; intro v4 w4 hown4 hgrow4; have b4 : Below w3.heap.size w3 w4 := (Below.one w3 _).trans (below_own hgrow4 (by simp) (own_block (Rn.own rfl (Rn.new1 w3 32)))); have c4 := c3.trans (b4.mono c3.size); have V_4 := hide ((unhide V_3).below b4); have K_4 : Hid (Rn w.heap.size v4 (32 :: Nu) w4) := (by show Rn _ _ _ _; unfold Rn; rw [List.length_cons]; simpa [Nat.add_comm] using hown4); clear hown4 hgrow4)
            | (go_at_call 23; refine (unhide H3 _).mono ?_; rintro e w3 ⟨rfl, b3⟩; have c3 := c2.trans (b3.mono c2.size); have V_3 := hide ((unhide V_2).below b3); have K_3 := hide ((unhide K_2).below b3))
            | (go_at_call 22; refine (unhide H2 _ (hL.keep c1) (hr.below c1)).mono ?_; rintro e w2 ⟨v2, rfl, r2, b2⟩; have c2 := c1.trans (b2.mono c1.size); have V_2 := hide ((unhide V_1).below b2); have K_2 := hide r2; have kk := unhide HKC w2 c2)
            | (go_at_call 10; refine (unhide H1 _ hL hr).mono ?_; rintro e w1 ⟨v1, rfl, r1, b1⟩; have c1 := b1; have V_1 := hide r1))
          have cc := c10
          have VV := V_10
          generalize w10 = wk at *
          clear H1 H2 H3 H4 H5 H6 S1 S2
          have hsk := cc.size
          have PC : Hid (∀ (W : World), Below wk.heap.size wk W → ∀ j u, ((l.take k).map (Value.int .i32))[j]? = some u → W.cell? ((⟨b, off, none⟩ : Addr).add j) = some u) := fun W gg => news_of_cells fun j hj => by
            have hj' : j < l.length := by rw [List.length_take] at hj; omega
            have h := unhide HC j hj'
            rw [((cc.trans (gg.mono hsk)).cell (p := ⟨b, off + j, none⟩) (by exact cell_lt h)), h]
            have hjk : j < k := by rw [List.length_take] at hj; omega
            simp [List.getD, hjk]
          have QC : Hid (∀ (W : World), Below wk.heap.size wk W → ∀ j u, ((l.drop k).map (Value.int .i32))[j]? = some u → W.cell? ((⟨b, off + k, none⟩ : Addr).add j) = some u) := fun W gg => news_of_cells fun j hj => by
            have hj' : k + j < l.length := by rw [List.length_drop] at hj; omega
            have h := unhide HC (k + j) hj'
            rw [Nat.add_assoc, ((cc.trans (gg.mono hsk)).cell (p := ⟨b, off + (k + j), none⟩) (by exact cell_lt h)), h]
            simp [List.getD]
          have HTL : Hid ((l.take k).length = k) := by show _ = _; rw [List.length_take]; omega
          have HDL : Hid ((l.drop k).length = l.length - k) := by show _ = _; rw [List.length_drop]
          have G1 : Hid (Gr wk (wk.drew.alloc (.cells #[] 21))) := ((Gr.refl _).drewN 1).alloc _
          have G2 : Hid (Gr wk ((wk.alloc (.cells #[] 21)).alloc (.cells #[.int .i32 32] 21)).drew) := (((Gr.refl _).alloc _).alloc _).drew
          have G3 : Hid (Gr wk ((wk.alloc (.cells #[.int .i32 32] 21)).alloc (.cells #[] 21)).drew) := (((Gr.refl _).alloc _).alloc _).drew
          have O1 : Hid ((wk.drew.alloc (.cells #[] 21)).ownsRow wk.heap.size 21 1 (.slice (some ⟨wk.heap.size, 0, none⟩) 0 0) 0 []) := own_nil wk.drew _ (Nat.le_refl _)
          have O2 : Hid (((wk.alloc (.cells #[] 21)).alloc (.cells #[.int .i32 32] 21)).drew.ownsRow wk.heap.size 21 1 (.slice (some ⟨wk.heap.size, 0, none⟩) 0 0) 0 []) := own_below (own_nil wk _ (Nat.le_refl _)) ((Gr.one _ _).drew).below
          have O3 : Hid (((wk.alloc (.cells #[.int .i32 32] 21)).alloc (.cells #[] 21)).drew.ownsRow wk.heap.size 21 1 (.slice (some ⟨wk.heap.size + 1, 0, none⟩) 0 0) 0 []) := by
            have h9 := own_below (own_nil (wk.alloc (.cells #[.int .i32 32] 21)) wk.heap.size (by simp)) ((Gr.refl _).drew).below
            rw [World.size_alloc] at h9
            exact h9
          have N2 : Hid (((wk.alloc (.cells #[] 21)).alloc (.cells #[.int .i32 32] 21)).drew.heap[wk.heap.size + 1]? = some (.cells #[.int .i32 32] 21)) := by
            have h9 := heap_new (wk.alloc (.cells #[] 21)) (.cells #[.int .i32 32] 21)
            rw [World.size_alloc] at h9; exact h9
          have N3 : Hid (((wk.alloc (.cells #[.int .i32 32] 21)).alloc (.cells #[] 21)).drew.heap[wk.heap.size]? = some (.cells #[.int .i32 32] 21)) :=
            ((Gr.one (wk.alloc (.cells #[.int .i32 32] 21)) (.cells #[] 21)).below.block _ (by simp)).trans (heap_new wk _)
          have mm1 : 0 + k ≤ maxLen := by unfold maxLen; omega
          have mm2 : (0 + k) * 4 ≤ 140737488355328 := by omega
          have mm3 : 0 + k + 1 ≤ maxLen := by unfold maxLen; omega
          have mm4 : (0 + k + 1) * 4 ≤ 140737488355328 := by omega
          have mm5 : 0 + k + 1 + (l.length - k) ≤ maxLen := by unfold maxLen; omega
          have mm6 : (0 + k + 1 + (l.length - k)) * 4 ≤ 140737488355328 := by omega
          have HRW : Hid (∀ (v9 : Value) (w9 : World), w9.ownsRow wk.heap.size 21 1 v9 (0 + k + 1 + (l.length - k)) ([] ++ (l.take k).map (Value.int .i32) ++ [.int .i32 32] ++ (l.drop k).map (Value.int .i32)) → Rn wk.heap.size v9 (l.take k ++ 32 :: l.drop k) w9) := fun v9 w9 h => by
            unfold Rn
            have e1 : (l.take k ++ 32 :: l.drop k).length = 0 + k + 1 + (l.length - k) := by rw [List.length_append, List.length_cons, unhide HTL, unhide HDL]; omega
            rw [e1]
            simpa using h
          have HPL : Hid (((l.take k).map (Value.int .i32)).length = k * 1) := by show _ = _; rw [List.length_map, unhide HTL, Nat.mul_one]
          have HBL : Hid (((l.drop k).map (Value.int .i32)).length = (l.length - k) * 1) := by show _ = _; rw [List.length_map, unhide HDL, Nat.mul_one]
          have HP1 := hide (ints_one (l.take k))
          have HB1 := hide (ints_one (l.drop k))
          generalize (l.take k).map (Value.int .i32) = pre at *
          generalize (l.drop k).map (Value.int .i32) = beh at *
          generalize l.take k ++ 32 :: l.drop k = MORE at *
          generalize hln : l.length = ln at *
          go_region_held3 (fun _ => True) (trivial)
            (first
              | (refine step_append_at _ (by rfl) _ _ _ (by rfl) wk.heap.size 21 i0 _ 1 4 Try.underlying22 hi hz0 hz1 hz2 rfl (by omega) _ 0 [] (by rfl) (unhide O1) ⟨b, off, none⟩ k cap pre (by rfl) (unhide HPL) (unhide PC _ (unhide G1).below) (unhide HP1) mm1 mm2 (unhide G1).size ?_; intro v7 w7 hown7 hgrow7; have b7 : Below wk.heap.size wk w7 := ((unhide G1).below.trans (below_own hgrow7 (unhide G1).size (own_block (unhide O1)))); have hs7 := b7.size)
              | (refine step_append_at _ (by rfl) _ _ _ (by rfl) wk.heap.size 21 i0 _ 1 4 Try.underlying22 hi hz0 hz1 hz2 rfl (by omega) _ 0 [] (by rfl) (unhide O2) ⟨b, off, none⟩ k cap pre (by rfl) (unhide HPL) (unhide PC _ (unhide G2).below) (unhide HP1) mm1 mm2 (unhide G2).size ?_; intro v7 w7 hown7 hgrow7; have b7 : Below wk.heap.size wk w7 := ((unhide G2).below.trans (below_own hgrow7 (unhide G2).size (own_block (unhide O2)))); have hs7 := b7.size; have hN7 : w7.heap[wk.heap.size + 1]? = some (.cells #[.int .i32 32] 21) := ((hgrow7.block (wk.heap.size + 1) (by simp) (by simp [Value.ownBlock])).trans (unhide N2)))
              | (refine step_append_at _ (by rfl) _ _ _ (by rfl) wk.heap.size 21 i0 _ 1 4 Try.underlying22 hi hz0 hz1 hz2 rfl (by omega) _ 0 [] (by rfl) (unhide O3) ⟨b, off, none⟩ k cap pre (by rfl) (unhide HPL) (unhide PC _ (unhide G3).below) (unhide HP1) mm1 mm2 (unhide G3).size ?_; intro v7 w7 hown7 hgrow7; have b7 : Below wk.heap.size wk w7 := ((unhide G3).below.trans (below_own hgrow7 (unhide G3).size (own_block (unhide O3)))); have hs7 := b7.size; have hN7 : w7.heap[wk.heap.size]? = some (.cells #[.int .i32 32] 21) := ((hgrow7.block (wk.heap.size) (by simp; omega) (by simp [Value.ownBlock])).trans (unhide N3)))
              | (refine step_append_lies _ (by rfl) _ _ _ (by rfl) wk.heap.size 21 i0 _ 1 4 Try.underlying22 hi hz0 hz1 hz2 rfl (by omega) _ (0 + k) _ (by rfl) (hown7.alloc _) ⟨w7.heap.size, 0, none⟩ 1 1 [.int .i32 32] (by rfl) (by rfl) (World.news_of_block (B := w7.heap.size) (cs := #[.int .i32 32]) (t := 21) (fr := (0, 0)) (heap_new w7 _)) (by simp [Value.oneCell']) (by omega) mm3 mm4 (by rw [World.size_alloc]; omega) (w7.heap.size + 1) (by simp) ?_; intro g8 cap8 w8 hown8 hgrow8 hat8 hlt8; have b8 : Below wk.heap.size wk w8 := ((b7.alloc hs7 _).trans (below_own hgrow8 (by rw [World.size_alloc]; omega) (own_block hown7))); have hs8 := b8.size)
              | (refine step_append_lies _ (by rfl) _ _ _ (by rfl) wk.heap.size 21 i0 _ 1 4 Try.underlying22 hi hz0 hz1 hz2 rfl (by omega) _ (0 + k) _ (by rfl) hown7 ⟨wk.heap.size + 1, 0, none⟩ 1 1 [.int .i32 32] (by rfl) (by rfl) (World.news_of_block (B := wk.heap.size + 1) (cs := #[.int .i32 32]) (t := 21) (fr := (0, 0)) hN7) (by simp [Value.oneCell']) (by omega) mm3 mm4 hs7 w7.heap.size (by simp) ?_; intro g8 cap8 w8 hown8 hgrow8 hat8 hlt8; have b8 : Below wk.heap.size wk w8 := (b7.trans (below_own hgrow8 hs7 (own_block hown7))); have hs8 := b8.size)
              | (refine step_append_lies _ (by rfl) _ _ _ (by rfl) wk.heap.size 21 i0 _ 1 4 Try.underlying22 hi hz0 hz1 hz2 rfl (by omega) _ (0 + k) _ (by rfl) hown7 ⟨wk.heap.size, 0, none⟩ 1 1 [.int .i32 32] (by rfl) (by rfl) (World.news_of_block (B := wk.heap.size) (cs := #[.int .i32 32]) (t := 21) (fr := (0, 0)) hN7) (by simp [Value.oneCell']) (by omega) mm3 mm4 hs7 w7.heap.size (by simp) ?_; intro g8 cap8 w8 hown8 hgrow8 hat8 hlt8; have b8 : Below wk.heap.size wk w8 := (b7.trans (below_own hgrow8 hs7 (own_block hown7))); have hs8 := b8.size)
              | (refine step_append_at _ (by rfl) _ _ _ (by rfl) wk.heap.size 21 i0 _ 1 4 Try.underlying22 hi hz0 hz1 hz2 rfl (by omega) _ (0 + k + 1) _ (by rfl) hown8 ⟨b, off + k, none⟩ (ln - k) (cap - k) beh (by rfl) (unhide HBL) (unhide QC _ b8) (unhide HB1) mm5 mm6 hs8 ?_; intro v9 w9 hown9 hgrow9; have b9 : Below wk.heap.size wk w9 := (b8.trans (below_own hgrow9 hs8 (own_block hown8)))))
          all_goals (
            have r9 := unhide HRW _ _ hown9
            have V9 := hide ((unhide VV).below b9)
            have c9 := cc.trans (b9.mono hsk)
            clear hown9 hgrow9
            try simp only [Exit.then]
            go_wp2_with (first
              | (go_at_call 8; refine (unhide HA _ (hL.keep e11)).mono ?_; rintro e w12 ⟨rfl, b12⟩; have e12 := e11.trans (b12.mono e11.size))
              | (go_at_call 9; refine (unhide S3 _ _ _ r10 ((unhide V9).below b10)).mono ?_; rintro e w11 ⟨rfl, b11⟩; have e11 := e10.trans (b11.mono e10.size))
              | (go_at_call 10; refine (unhide H7 _ _ (hL.keep c9) r9.row r9.fits).mono ?_; rintro e w10 ⟨v10, rfl, r10, b10⟩; have e10 := c9.trans (b10.mono c9.size)))
            go_ret
            exact ⟨rfl, e12⟩)
    · obtain rfl : l = [] := List.length_eq_zero_iff.1 (by omega)
      have e0 : spAt [] i = false := by unfold spAt; rw [if_neg (by simp)]
      rw [e0] at H6
      have e1 : fre mk11 [] = true := rfl
      rw [e1] at H4
      simp only [if_true] at H4
      generalize valL mk11 [] = V at *
      generalize numL mk11 [] = Nu at *
      have S1 := hide (fun v1 v2 W => same_any v1 v2 Nu W (by omega))
      go_enter Try.func6, Try.ntmps6
      go_wp2_with (first
        | (go_at_call 8; refine (unhide HA _ (hL.keep c8)).mono ?_; rintro e w9 ⟨rfl, b9⟩; have c9 := c8.trans (b9.mono c8.size); have V_9 := hide ((unhide V_8).below b9))
        | (go_at_call 18; refine (unhide H6 _ (hL.keep c7) (hr.below c7)).mono ?_; rintro e w8 ⟨rfl, b8⟩; have c8 := c7.trans (b8.mono c7.size); have V_8 := hide ((unhide V_7).below b8))
        | (go_at_call 9; refine (unhide S2 _ _ _ (unhide N_6) (unhide O_6).row).mono ?_; rintro e w7 ⟨rfl, b7⟩; have c7 := c6.trans (b7.mono c6.size); have V_7 := hide ((unhide V_6).below b7); have N_7 := hide ((unhide N_6).below b7); have O_7 := hide ((unhide O_6).below b7))
        | (go_at_call 22; refine (unhide H2 _ (hL.keep c5) (hr.below c5)).mono ?_; rintro e w6 ⟨v6, rfl, r6, b6⟩; have c6 := c5.trans (b6.mono c5.size); have V_6 := hide ((unhide V_5).below b6); have N_6 := hide ((unhide N_5).below b6); have O_6 := hide r6)
        | (go_at_call 12; refine (unhide H5 _ (hL.keep c4) (hr.below c4)).mono ?_; rintro e w5 ⟨v5, rfl, r5, b5⟩; have c5 := c4.trans (b5.mono c4.size); have V_5 := hide ((unhide V_4).below b5); have N_5 := hide r5)
        | (go_at_call 9; refine (unhide S1 _ _ _ (unhide Q_3).row (unhide K_3).row).mono ?_; rintro e w4 ⟨rfl, b4⟩; have c4 := c3.trans (b4.mono c3.size); have V_4 := hide ((unhide V_3).below b4); have K_4 := hide ((unhide K_3).below b4); have Q_4 := hide ((unhide Q_3).below b4))
        | (go_at_call 22; refine (unhide H4 _ _ (hL.keep c2) (unhide V_2)).mono ?_; rintro e w3 ⟨v3, rfl, r3, b3⟩; have c3 := c2.trans (b3.mono c2.size); have V_3 := hide ((unhide V_2).below b3); have K_3 := hide ((unhide K_2).below b3); have Q_3 := hide r3)
        | (go_at_call 22; refine (unhide H2 _ (hL.keep c1) (hr.below c1)).mono ?_; rintro e w2 ⟨v2, rfl, r2, b2⟩; have c2 := c1.trans (b2.mono c1.size); have V_2 := hide ((unhide V_1).below b2); have K_2 := hide r2)
        | (go_at_call 10; refine (unhide H1 _ hL hr).mono ?_; rintro e w1 ⟨v1, rfl, r1, b1⟩; have c1 := b1; have V_1 := hide r1))
      go_ret
      exact ⟨rfl, c9⟩
end Go.Proofs.Ytdlbdfndnjdeeaa
