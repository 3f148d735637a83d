/- The law BlanksPiecewise. -/
import Derived.Test.YtdlbdfndnjdeeaaLawK11
namespace Go.Proofs.Ytdlbdfndnjdeeaa
open Go.RowKit

theorem begs_take (l p r : List Int) (h : l = p ++ r) : begs l p = true := by
  subst h
  simp [begs]
theorem begs_at (V p Y r : List Int) (h : V = p ++ (Y ++ r)) : begs (V.drop p.length) Y = true := by
  subst h
  rw [List.drop_left]
  simp [begs]
theorem pie_ne (k : Int) (l : List Int) (h : numL mk11 l ≠ []) (hk : k = 1 ∨ k = 2 ∨ k = 3) : 0 < (pieL mk11 k l).length := by
  rcases hk with rfl | rfl | rfl
  · obtain ⟨e, _, h1⟩ := pie_one mk11_32 l h
    rw [h1]; simp
  · obtain ⟨e, f, _, _, h1⟩ := pie_two mk11_32 l h
    have := List.length_pos_iff.2 (inn_ne mk11_32 l h)
    rw [h1, List.length_append, List.length_append]; omega
  · obtain ⟨e, _, h1⟩ := pie_three mk11_32 l h
    rw [h1]; simp; omega
theorem rowc11 {w : World} {a : Option Addr} {cap : Nat} {l : List Int} (hr : Row w (.slice a l.length cap) l) (h0 : 0 < l.length) : ∃ b off, a = some ⟨b, off, none⟩ ∧ ∀ j, j < l.length → w.cell? ⟨b, off + j, none⟩ = some (.int .i32 (l.getD j 0)) := by
  obtain ⟨_, _, hae, hc⟩ := hr
  cases hae
  exact hc h0
theorem news_in {w : World} {b off : Nat} {l : List Int} (hcc : ∀ j, j < l.length → w.cell? ⟨b, off + j, none⟩ = some (.int .i32 (l.getD j 0))) : ∀ (W : World), Below w.heap.size w W → ∀ j u, (l.map (Value.int .i32))[j]? = some u → W.cell? ((⟨b, off, none⟩ : Addr).add j) = some u := fun W h => news_of_cells fun j hj => (h.cell (by exact cell_lt (hcc j hj))).trans (hcc j hj)

set_option maxHeartbeats 12800000 in
theorem wise11_law (a : Option Addr) (ca : Nat) (la : List Int) (b : Option Addr) (cb : Nat) (lb : List Int) (c : Option Addr) (cc : Nat) (lc : List Int) (w : World) (hL : Ly w) (ra : Row w (.slice a la.length ca) la) (rb : Row w (.slice b lb.length cb) lb) (rc : Row w (.slice c lc.length cc) lc) (qa : la.length ≤ ca) (qb : lb.length ≤ cb) (qc : lc.length ≤ cc) :
    Calls Try.prog 7 #[.slice a la.length ca, .slice b lb.length cb, .slice c lc.length cc] w fun e w' => e = .returned (.bool true) ∧ Below w.heap.size w w' := by
  have HA := hide awake11
  obtain ⟨i0, hi, hz0, hz1, hz2⟩ := info_parts elem_info
  by_cases hla : 300 < la.length
  · have hza : (300 : Int) < (la.length : Int) := by omega
    go_enter Try.func7, Try.ntmps7
    go_wp2_with (first
      | (go_at_call 8; refine (unhide HA _ hL).mono ?_; rintro e w99 ⟨rfl, b99⟩; have c99 := b99))
    go_ret
    exact ⟨rfl, c99⟩
  · have hza : ¬ (300 : Int) < (la.length : Int) := by omega
    by_cases hlb : 300 < lb.length
    · have hzb : (300 : Int) < (lb.length : Int) := by omega
      go_enter Try.func7, Try.ntmps7
      go_wp2_with (first
        | (go_at_call 8; refine (unhide HA _ hL).mono ?_; rintro e w99 ⟨rfl, b99⟩; have c99 := b99))
      go_ret
      exact ⟨rfl, c99⟩
    · have hzb : ¬ (300 : Int) < (lb.length : Int) := by omega
      by_cases hlc : 300 < lc.length
      · have hzc : (300 : Int) < (lc.length : Int) := by omega
        go_enter Try.func7, Try.ntmps7
        go_wp2_with (first
          | (go_at_call 8; refine (unhide HA _ hL).mono ?_; rintro e w99 ⟨rfl, b99⟩; have c99 := b99))
        go_ret
        exact ⟨rfl, c99⟩
      · have hzc : ¬ (300 : Int) < (lc.length : Int) := by omega
        have HSa := hide (fun W hW hR => solid_any (.slice a la.length ca) la W hW (by omega) hR)
        have hna := num_len (M := mk11) la
        obtain ⟨na, hNa⟩ : ∃ n, n = (numL mk11 la).length := ⟨_, rfl⟩
        rw [← hNa] at hna
        have HNa := hide hNa
        clear hNa
        have HSb := hide (fun W hW hR => solid_any (.slice b lb.length cb) lb W hW (by omega) hR)
        have hnb := num_len (M := mk11) lb
        obtain ⟨nb, hNb⟩ : ∃ n, n = (numL mk11 lb).length := ⟨_, rfl⟩
        rw [← hNb] at hnb
        have HNb := hide hNb
        clear hNb
        have HSc := hide (fun W hW hR => solid_any (.slice c lc.length cc) lc W hW (by omega) hR)
        have hnc := num_len (M := mk11) lc
        obtain ⟨nc, hNc⟩ : ∃ n, n = (numL mk11 lc).length := ⟨_, rfl⟩
        rw [← hNc] at hnc
        have HNc := hide hNc
        clear hNc
        by_cases ha0 : na = 0
        · have ea : ((na : Int) == 0) = true := by simp [ha0]
          go_enter Try.func7, Try.ntmps7
          go_wp2_with (first
            | (go_at_call 8; refine (unhide HA _ (hL.keep c1)).mono ?_; rintro e w99 ⟨rfl, b99⟩; have c99 := c1.trans (b99.mono c1.size))
            | (go_at_call 22; refine (unhide HSa _ hL ra).mono ?_; rintro e w1 ⟨v1, rfl, s1, b1⟩; obtain ⟨q1, z1, hv1⟩ := s1.shape; rw [← unhide HNa] at hv1; subst hv1; clear s1; have c1 := b1))
          go_ret
          exact ⟨rfl, c99⟩
        · have ea : ((na : Int) == 0) = false := by simpa using ha0
          by_cases hb0 : nb = 0
          · have eb : ((nb : Int) == 0) = true := by simp [hb0]
            go_enter Try.func7, Try.ntmps7
            go_wp2_with (first
              | (go_at_call 8; refine (unhide HA _ (hL.keep c2)).mono ?_; rintro e w99 ⟨rfl, b99⟩; have c99 := c2.trans (b99.mono c2.size))
              | (go_at_call 22; refine (unhide HSb _ (hL.keep c1) (rb.below c1)).mono ?_; rintro e w2 ⟨v2, rfl, s2, b2⟩; obtain ⟨q2, z2, hv2⟩ := s2.shape; rw [← unhide HNb] at hv2; subst hv2; clear s2; have c2 := c1.trans (b2.mono c1.size))
              | (go_at_call 22; refine (unhide HSa _ hL ra).mono ?_; rintro e w1 ⟨v1, rfl, s1, b1⟩; obtain ⟨q1, z1, hv1⟩ := s1.shape; rw [← unhide HNa] at hv1; subst hv1; clear s1; have c1 := b1))
            go_ret
            exact ⟨rfl, c99⟩
          · have eb : ((nb : Int) == 0) = false := by simpa using hb0
            by_cases hc0 : nc = 0
            · have ec : ((nc : Int) == 0) = true := by simp [hc0]
              go_enter Try.func7, Try.ntmps7
              go_wp2_with (first
                | (go_at_call 8; refine (unhide HA _ (hL.keep c3)).mono ?_; rintro e w99 ⟨rfl, b99⟩; have c99 := c3.trans (b99.mono c3.size))
                | (go_at_call 22; refine (unhide HSc _ (hL.keep c2) (rc.below c2)).mono ?_; rintro e w3 ⟨v3, rfl, s3, b3⟩; obtain ⟨q3, z3, hv3⟩ := s3.shape; rw [← unhide HNc] at hv3; subst hv3; clear s3; have c3 := c2.trans (b3.mono c2.size))
                | (go_at_call 22; refine (unhide HSb _ (hL.keep c1) (rb.below c1)).mono ?_; rintro e w2 ⟨v2, rfl, s2, b2⟩; obtain ⟨q2, z2, hv2⟩ := s2.shape; rw [← unhide HNb] at hv2; subst hv2; clear s2; have c2 := c1.trans (b2.mono c1.size))
                | (go_at_call 22; refine (unhide HSa _ hL ra).mono ?_; rintro e w1 ⟨v1, rfl, s1, b1⟩; obtain ⟨q1, z1, hv1⟩ := s1.shape; rw [← unhide HNa] at hv1; subst hv1; clear s1; have c1 := b1))
              go_ret
              exact ⟨rfl, c99⟩
            · have ec : ((nc : Int) == 0) = false := by simpa using hc0
              have HEa : Hid (numL mk11 la ≠ []) := fun h => ha0 (by rw [unhide HNa, h]; rfl)
              have hpa : 0 < la.length := by omega
              obtain ⟨ga, oa, hae, hca⟩ := rowc11 ra hpa
              subst hae
              have hpza : (0 : Int) < (la.length : Int) := by omega
              have NWa := hide (news_in hca)
              have HEb : Hid (numL mk11 lb ≠ []) := fun h => hb0 (by rw [unhide HNb, h]; rfl)
              have hpb : 0 < lb.length := by omega
              obtain ⟨gb, ob, hbe, hcb⟩ := rowc11 rb hpb
              subst hbe
              have hpzb : (0 : Int) < (lb.length : Int) := by omega
              have NWb := hide (news_in hcb)
              have HEc : Hid (numL mk11 lc ≠ []) := fun h => hc0 (by rw [unhide HNc, h]; rfl)
              have hpc : 0 < lc.length := by omega
              obtain ⟨gc, oc, hce, hcc⟩ := rowc11 rc hpc
              subst hce
              have hpzc : (0 : Int) < (lc.length : Int) := by omega
              have NWc := hide (news_in hcc)
              have KB : Hid (∀ W, Below w.heap.size w W → W.cell? ⟨gb, ob, none⟩ = some (.int .i32 (lb.getD 0 0))) := fun W h => (h.cell (by have := hcb 0 hpb; exact cell_lt this)).trans (by have := hcb 0 hpb; rwa [Nat.add_zero] at this)
              have HIb := hide (fun W => is_mark (lb.getD 0 0) W)
              have HFb := hide (fre_zero lb hpb)
              have KC : Hid (∀ W, Below w.heap.size w W → W.cell? ⟨gc, oc, none⟩ = some (.int .i32 (lc.getD 0 0))) := fun W h => (h.cell (by have := hcc 0 hpc; exact cell_lt this)).trans (by have := hcc 0 hpc; rwa [Nat.add_zero] at this)
              have HIc := hide (fun W => is_mark (lc.getD 0 0) W)
              have HFc := hide (fre_zero lc hpc)
              clear hca hcb hcc
              generalize lb.getD 0 0 = xb at *
              generalize lc.getD 0 0 = xc at *
              cases hmb : mk11 xb
              · cases hmc : mk11 xc
                · rw [hmb] at HIb HFb
                  rw [hmc] at HIc HFc
                  have HPI := hide (pieces_in mk11_32 la lb lc (unhide HEa) (unhide HEb) (unhide HEc) (unhide HFb) (unhide HFc))
                  have hX := pie_len 1 la
                  have hY := pie_len 2 lb
                  have hZ := pie_len 3 lc
                  have hY0 := pie_ne 2 lb (unhide HEb) (.inr (.inl rfl))
                  have hZ0 := pie_ne 3 lc (unhide HEc) (.inr (.inr rfl))
                  have H1 := hide (fun v W hW hR hF => bval_fit v (la ++ 32 :: (lb ++ 32 :: lc)) W hW (by simp; omega) hR hF)
                  have hVl := val_len (la ++ 32 :: (lb ++ 32 :: lc))
                  have hVL : (valL mk11 (la ++ 32 :: (lb ++ 32 :: lc))).length ≤ 3000 := by
                    refine Nat.le_trans hVl ?_
                    simp
                    omega
                  have H2 := hide (fun W hW hR => bpie_any 1 (.slice (some ⟨ga, oa, none⟩) la.length ca) la W hW (by omega) hR (fits_of qa))
                  have H3 := hide (fun W hW hR => bpie_any 2 (.slice (some ⟨gb, ob, none⟩) lb.length cb) lb W hW (by omega) hR (fits_of qb))
                  have H4 := hide (fun W hW hR => bpie_any 3 (.slice (some ⟨gc, oc, none⟩) lc.length cc) lc W hW (by omega) hR (fits_of qc))
                  have HALL : Hid (∀ (v9 : Value) (w9 : World) (B : Nat), w9.ownsRow B 21 1 v9 (la.length + 1 + lb.length + 1 + lc.length) ([] ++ la.map (Value.int .i32) ++ [.int .i32 32] ++ lb.map (Value.int .i32) ++ [.int .i32 32] ++ lc.map (Value.int .i32)) → Rn B v9 (la ++ 32 :: (lb ++ 32 :: lc)) w9) := fun v9 w9 B h => by
                    unfold Rn
                    have e1 : (la ++ 32 :: (lb ++ 32 :: lc)).length = la.length + 1 + lb.length + 1 + lc.length := by simp; omega
                    rw [e1]
                    simpa using h
                  have HMa : Hid ((la.map (Value.int .i32)).length = la.length * 1) := by show _ = _; simp
                  have HMb : Hid ((lb.map (Value.int .i32)).length = lb.length * 1) := by show _ = _; simp
                  have HMc : Hid ((lc.map (Value.int .i32)).length = lc.length * 1) := by show _ = _; simp
                  have HOa := hide (ints_one la)
                  have HOb := hide (ints_one lb)
                  have HOc := hide (ints_one lc)
                  generalize valL mk11 (la ++ 32 :: (lb ++ 32 :: lc)) = V at *
                  generalize la ++ 32 :: (lb ++ 32 :: lc) = ALL at *
                  generalize pieL mk11 1 la = X at *
                  generalize pieL mk11 2 lb = Y at *
                  generalize pieL mk11 3 lc = Z at *
                  obtain ⟨⟨rX, hVX⟩, ⟨pZ, hVZ⟩, pY, rY, hVY⟩ := unhide HPI
                  have hNZ : pZ.length + Z.length = V.length := by rw [hVZ]; simp
                  have hNY : pY.length + Y.length ≤ V.length := by rw [hVY]; simp
                  have HBX := hide (begs_take V X rX hVX)
                  have HBY := hide (begs_at V pY Y rY hVY)
                  have HDZ : Hid (V.drop pZ.length = Z) := by show _ = _; rw [hVZ, List.drop_left]
                  clear hVX hVZ hVY HPI HFb HFc HEa HEb HEc hmb hmc hVl
                  generalize la.map (Value.int .i32) = ma at *
                  generalize lb.map (Value.int .i32) = mb at *
                  generalize lc.map (Value.int .i32) = mc at *
                  obtain ⟨N, hN⟩ : ∃ N, N = V.length := ⟨_, rfl⟩
                  rw [← hN] at hNZ hNY hVL
                  have HN := hide hN
                  clear hN
                  obtain ⟨lo, hlo⟩ : ∃ lo, lo = pZ.length := ⟨_, rfl⟩
                  rw [← hlo] at hNZ HDZ
                  obtain ⟨pl, hpl⟩ : ∃ pl, pl = pY.length := ⟨_, rfl⟩
                  rw [← hpl] at hNY HBY
                  clear hlo hpl
                  have q1 : IntKind.i64.wrap ((N : Int) - (Z.length : Int)) = (lo : Int) := by rw [IntKind.wrap_i64]; omega
                  have q2 : ¬ (N : Int) < (Z.length : Int) := by omega
                  have q3 : (0 : Int) ≤ (lo : Int) := by omega
                  have q5 : decide (N < Z.length) = false := decide_eq_false (by omega)
                  have q4 : (lo : Int) ≤ (N : Int) := by omega
                  have mA : 0 + la.length ≤ maxLen := by unfold maxLen; omega
                  have mB : la.length + 1 ≤ maxLen := by unfold maxLen; omega
                  have mC : la.length + 1 + lb.length ≤ maxLen := by unfold maxLen; omega
                  have mD : la.length + 1 + lb.length + 1 ≤ maxLen := by unfold maxLen; omega
                  have mE : la.length + 1 + lb.length + 1 + lc.length ≤ maxLen := by unfold maxLen; omega
                  go_enter Try.func7, Try.ntmps7
                  go_wp2_with (first
                    | (go_at_call 9; refine (same_any _ _ Z w11 (by omega) (by have h := unhide RT11; rw [unhide HDZ] at h; exact h) (unhide RZ11)).mono ?_; rintro e w12 ⟨rfl, b12⟩; have c12 := c11.trans (b12.mono c11.size); have RY12 := hide ((unhide RY11).below b12); have d12 : Below w10.heap.size w10 w12 := b11.trans (b12.mono b11.size))
                    | (go_at_call 24; refine (unhide HST w10 (Below.refl _ _) _ X (unhide RX10)).mono ?_; rw [unhide HBX]; rintro e w11 ⟨rfl, b11⟩; have c11 := c10.trans (b11.mono c10.size); have RZ11 := hide ((unhide RZ).below b11); have RY11 := hide ((unhide RY10).below b11); have RT11 : Hid (Row w11 (.slice (some ⟨g7, o7 + lo, none⟩) (N - lo) (e7 - lo)) (V.drop lo)) := (by have h := row_drop (c := e7 - lo) (l := V) (fun j hj => (b11.cell (by have := unhide VC10 j (by rw [unhide HN]; exact hj); exact cell_lt this)).trans (unhide VC10 j (by rw [unhide HN]; exact hj))) lo (by rw [← unhide HN]; omega); rw [← unhide HN] at h; exact h))
                    | (go_at_call 16; refine (unhide H4 _ (hL.keep c9) (rc.below c9)).mono ?_; rintro e w10 ⟨v10, rfl, r10, b10⟩; have c10 := c9.trans (b10.mono c9.size); obtain ⟨a10, e10, hv10, hc10⟩ := r10; have RZ : Hid (Row w10 (.slice a10 Z.length e10) Z) := ⟨a10, e10, rfl, hc10⟩; clear hc10; subst hv10; have RX10 := hide ((unhide RX9).below b10); have RY10 := hide ((unhide RY).below b10); have VC10 : Hid (∀ j, j < N → w10.cell? ⟨g7, o7 + j, none⟩ = some (.int .i32 (V.getD j 0))) := fun j hj => (b10.cell (by have := unhide VC9 j hj; exact cell_lt this)).trans (unhide VC9 j hj); have HST := hide (fun (W : World) (h : Below w10.heap.size w10 W) (u : Value) (p : List Int) => starts_any g7 o7 e7 V u p W (by rw [← unhide HN]; omega) (by rw [← unhide HN]; omega) (by rw [← unhide HN]; exact hf7) (fun j hj => (h.cell (by have := unhide VC10 j (by rw [unhide HN]; exact hj); exact cell_lt this)).trans (unhide VC10 j (by rw [unhide HN]; exact hj)))); rw [← unhide HN] at HST; have n1 : ¬ e7 = lo := (by omega); have n2 : (N : Int) ≤ (e7 : Int) := (by omega))
                    | (go_at_call 16; refine (unhide H3 _ (hL.keep c8) (rb.below c8)).mono ?_; rintro e w9 ⟨v9, rfl, r9, b9⟩; have c9 := c8.trans (b9.mono c8.size); have RY := hide r9; clear r9; have RX9 := hide ((unhide RX).below b9); have VC9 : Hid (∀ j, j < N → w9.cell? ⟨g7, o7 + j, none⟩ = some (.int .i32 (V.getD j 0))) := fun j hj => (b9.cell (by have := unhide VC8 j hj; exact cell_lt this)).trans (unhide VC8 j hj))
                    | (go_at_call 16; refine (unhide H2 _ (hL.keep c7) (ra.below c7)).mono ?_; rintro e w8 ⟨v8, rfl, r8, b8⟩; have c8 := c7.trans (b8.mono c7.size); have RX := hide r8; clear r8; have VC8 : Hid (∀ j, j < N → w8.cell? ⟨g7, o7 + j, none⟩ = some (.int .i32 (V.getD j 0))) := fun j hj => (b8.cell (by have := unhide VC j hj; exact cell_lt this)).trans (unhide VC j hj))
                    | (go_at_call 10; refine (unhide H1 _ _ (hL.keep c6) (unhide RA).row (unhide RA).fits).mono ?_; rintro e w7 ⟨v7, rfl, r7, b7, f7⟩; have c7 := c6.trans (b7.mono c6.size); obtain ⟨a7, e7, hv7, hc7⟩ := r7; rw [← unhide HN] at hv7 hc7; obtain ⟨g7, o7, hga7, hcc7⟩ := hc7 (by omega); subst hga7; have hf7 := f7 _ _ _ hv7; subst hv7; have VC := hide hcc7; clear hc7 hcc7 f7)
                    | (at_builtin; refine wpList_append_lies _ rfl _ _ 22 rfl w5.heap.size 21 i0 _ 1 4 Try.underlying22 hi hz0 hz1 hz2 rfl (by omega) _ (la.length + 1 + lb.length + 1) _ rfl (unhide OD) ⟨gc, oc, none⟩ lc.length cc mc rfl (unhide HMc) (unhide NWc _ (c5.trans (bD.mono c5.size))) (unhide HOc) hpc mE (by omega) (by omega) wD.heap.size rfl ?_; intro gE capE w6 hownE hgrowE hatE hltE; have b6 : Below w5.heap.size w5 w6 := bD.trans (below_own hgrowE (by omega) (own_block (unhide OD))); have c6 := c5.trans (b6.mono c5.size); have RA := hide (unhide HALL _ _ _ hownE); clear hownE hgrowE hatE hltE OA OB OC OD)
                    | (at_builtin; refine wpList_append_lies _ rfl _ _ 22 rfl w5.heap.size 21 i0 _ 1 4 Try.underlying22 hi hz0 hz1 hz2 rfl (by omega) _ (la.length + 1 + lb.length) _ rfl (World.ownsRow.alloc (unhide OC) _) ⟨wC.heap.size, 0, none⟩ 1 1 [.int .i32 32] rfl rfl (World.news_of_block (cs := #[.int .i32 32]) (t := 21) (fr := (0, 0)) (heap_new wC _)) (by simp [Value.oneCell']) (by omega) mD (by omega) (by simp; omega) (wC.heap.size + 1) (by simp) ?_; intro gD capD wD hownD hgrowD hatD hltD; have bD : Below w5.heap.size w5 wD := (bC.alloc sC _).trans (below_own hgrowD (by simp; omega) (own_block (unhide OC))); have sD := bD.size; have OD := hide hownD; clear hownD hgrowD hatD hltD)
                    | (at_builtin; refine wpList_append_lies _ rfl _ _ 22 rfl w5.heap.size 21 i0 _ 1 4 Try.underlying22 hi hz0 hz1 hz2 rfl (by omega) _ (la.length + 1) _ rfl (unhide OB) ⟨gb, ob, none⟩ lb.length cb mb rfl (unhide HMb) (unhide NWb _ (c5.trans (bB.mono c5.size))) (unhide HOb) hpb mC (by omega) (by omega) wB.heap.size rfl ?_; intro gC capC wC hownC hgrowC hatC hltC; have bC : Below w5.heap.size w5 wC := bB.trans (below_own hgrowC (by omega) (own_block (unhide OB))); have sC := bC.size; have OC := hide hownC; clear hownC hgrowC hatC hltC)
                    | (at_builtin; refine wpList_append_lies _ rfl _ _ 22 rfl w5.heap.size 21 i0 _ 1 4 Try.underlying22 hi hz0 hz1 hz2 rfl (by omega) _ (la.length) _ rfl (World.ownsRow.alloc (unhide OA) _) ⟨wA.heap.size, 0, none⟩ 1 1 [.int .i32 32] rfl rfl (World.news_of_block (cs := #[.int .i32 32]) (t := 21) (fr := (0, 0)) (heap_new wA _)) (by simp [Value.oneCell']) (by omega) mB (by omega) (by simp; omega) (wA.heap.size + 1) (by simp) ?_; intro gB capB wB hownB hgrowB hatB hltB; have bB : Below w5.heap.size w5 wB := (bA.alloc sA _).trans (below_own hgrowB (by simp; omega) (own_block (unhide OA))); have sB := bB.size; have OB := hide hownB; clear hownB hgrowB hatB hltB)
                    | (at_builtin; refine wpList_append_lies _ rfl _ _ 22 rfl w5.heap.size 21 i0 _ 1 4 Try.underlying22 hi hz0 hz1 hz2 rfl (by omega) _ 0 [] rfl (own_nil w5 _ (Nat.le_refl _)) ⟨ga, oa, none⟩ la.length ca ma rfl (unhide HMa) (unhide NWa _ (c5.trans ((Below.one w5 _).mono c5.size))) (unhide HOa) hpa mA (by omega) (by simp) (w5.heap.size + 1) (by simp) ?_; intro gA capA wA hownA hgrowA hatA hltA; have bA : Below w5.heap.size w5 wA := (Below.one w5 _).trans (below_own hgrowA (by simp) (own_block (own_nil w5 _ (Nat.le_refl _)))); have sA := bA.size; rw [Nat.zero_add] at hownA; have OA := hide hownA; clear hownA hgrowA hatA hltA)
                    | (go_at_call 23; refine (unhide HIc w4).mono ?_; rintro e w5 ⟨rfl, b5⟩; have c5 := c4.trans (b5.mono c4.size))
                    | (go_at_call 23; refine (unhide HIb w3).mono ?_; rintro e w4 ⟨rfl, b4⟩; have c4 := c3.trans (b4.mono c3.size); have kc0 := unhide KC w4 c4)
                    | (go_at_call 22; refine (unhide HSc _ (hL.keep c2) (rc.below c2)).mono ?_; rintro e w3 ⟨v3, rfl, s3, b3⟩; obtain ⟨q3, z3, hv3⟩ := s3.shape; rw [← unhide HNc] at hv3; subst hv3; clear s3; have c3 := c2.trans (b3.mono c2.size); have kb0 := unhide KB w3 c3)
                    | (go_at_call 22; refine (unhide HSb _ (hL.keep c1) (rb.below c1)).mono ?_; rintro e w2 ⟨v2, rfl, s2, b2⟩; obtain ⟨q2, z2, hv2⟩ := s2.shape; rw [← unhide HNb] at hv2; subst hv2; clear s2; have c2 := c1.trans (b2.mono c1.size))
                    | (go_at_call 22; refine (unhide HSa _ hL ra).mono ?_; rintro e w1 ⟨v1, rfl, s1, b1⟩; obtain ⟨q1, z1, hv1⟩ := s1.shape; rw [← unhide HNa] at hv1; subst hv1; clear s1; have c1 := b1))
                  go_loopw [12] (fun i wr => ∃ k : Nat, k ≤ pl ∧ i = .int .i64 (k : Int) ∧ Below w12.heap.size w12 wr) (fun i _ => pl + 1 - (intOf i).toNat)
                  case atStart => exact ⟨0, Nat.zero_le _, rfl, Below.refl _ _⟩
                  case round =>
                    obtain ⟨k, hk, rfl, hb⟩ := hrel
                    have hkN : k < N := by omega
                    have hkz : (k : Int) < (N : Int) := by omega
                    have hkz0 : (0 : Int) ≤ (k : Int) := by omega
                    have hkz1 : (k : Int) ≤ (N : Int) := by omega
                    have hkn : ¬ e7 = k := by omega
                    have d13 : Below w10.heap.size w10 wr := d12.trans (hb.mono d12.size)
                    have c13 := c12.trans (hb.mono c12.size)
                    have HCV : Hid (∀ j, j < V.length → wr.cell? ⟨g7, o7 + j, none⟩ = some (.int .i32 (V.getD j 0))) := fun j hj => (d13.cell (by have := unhide VC10 j (by rw [unhide HN]; exact hj); exact cell_lt this)).trans (unhide VC10 j (by rw [unhide HN]; exact hj))
                    have HS2 := hide (starts_any g7 (o7 + k) (e7 - k) (V.drop k) v9 Y wr (by rw [List.length_drop, ← unhide HN]; omega) (by rw [List.length_drop, ← unhide HN]; omega) (by rw [List.length_drop, ← unhide HN]; omega) (fun j hj => by
                      rw [List.length_drop] at hj
                      rw [Nat.add_assoc, unhide HCV (k + j) (by omega)]
                      simp [List.getD]) ((unhide RY12).below hb))
                    rw [List.length_drop, ← unhide HN] at HS2
                    cases hbg : begs (V.drop k) Y
                    · rw [hbg] at HS2
                      have hkp : k ≠ pl := fun e => by
                        subst e
                        rw [unhide HBY] at hbg
                        cases hbg
                      clear hbg HCV
                      go_wp2_with (go_at_call 24; refine (unhide HS2).mono ?_; rintro e w14 ⟨rfl, b14⟩)
                      go_roundw
                      case rel => exact ⟨k + 1, by omega, by go_num, hb.trans (b14.mono hb.size)⟩
                      case measure => simp [intOf]; omega
                    · rw [hbg] at HS2
                      clear hbg HCV
                      go_wp2_with (first
                        | (go_at_call 8; refine (unhide HA _ (hL.keep c14)).mono ?_; rintro e w15 ⟨rfl, b15⟩; have c15 := c14.trans (b15.mono c14.size))
                        | (go_at_call 24; refine (unhide HS2).mono ?_; rintro e w14 ⟨rfl, b14⟩; have c14 := c13.trans (b14.mono c13.size)))
                      go_ret
                      exact ⟨rfl, c15⟩
                · rw [hmb] at HIb HFb
                  rw [hmc] at HIc HFc
                  go_enter Try.func7, Try.ntmps7
                  go_wp2_with (first
                    | (go_at_call 8; refine (unhide HA _ (hL.keep c5)).mono ?_; rintro e w99 ⟨rfl, b99⟩; have c99 := c5.trans (b99.mono c5.size))
                    | (go_at_call 23; refine (unhide HIc w4).mono ?_; rintro e w5 ⟨rfl, b5⟩; have c5 := c4.trans (b5.mono c4.size))
                    | (go_at_call 23; refine (unhide HIb w3).mono ?_; rintro e w4 ⟨rfl, b4⟩; have c4 := c3.trans (b4.mono c3.size); have kc0 := unhide KC w4 c4)
                    | (go_at_call 22; refine (unhide HSc _ (hL.keep c2) (rc.below c2)).mono ?_; rintro e w3 ⟨v3, rfl, s3, b3⟩; obtain ⟨q3, z3, hv3⟩ := s3.shape; rw [← unhide HNc] at hv3; subst hv3; clear s3; have c3 := c2.trans (b3.mono c2.size); have kb0 := unhide KB w3 c3)
                    | (go_at_call 22; refine (unhide HSb _ (hL.keep c1) (rb.below c1)).mono ?_; rintro e w2 ⟨v2, rfl, s2, b2⟩; obtain ⟨q2, z2, hv2⟩ := s2.shape; rw [← unhide HNb] at hv2; subst hv2; clear s2; have c2 := c1.trans (b2.mono c1.size))
                    | (go_at_call 22; refine (unhide HSa _ hL ra).mono ?_; rintro e w1 ⟨v1, rfl, s1, b1⟩; obtain ⟨q1, z1, hv1⟩ := s1.shape; rw [← unhide HNa] at hv1; subst hv1; clear s1; have c1 := b1))
                  go_ret
                  exact ⟨rfl, c99⟩
              · rw [hmb] at HIb HFb
                go_enter Try.func7, Try.ntmps7
                go_wp2_with (first
                  | (go_at_call 8; refine (unhide HA _ (hL.keep c4)).mono ?_; rintro e w99 ⟨rfl, b99⟩; have c99 := c4.trans (b99.mono c4.size))
                  | (go_at_call 23; refine (unhide HIb w3).mono ?_; rintro e w4 ⟨rfl, b4⟩; have c4 := c3.trans (b4.mono c3.size); have kc0 := unhide KC w4 c4)
                  | (go_at_call 22; refine (unhide HSc _ (hL.keep c2) (rc.below c2)).mono ?_; rintro e w3 ⟨v3, rfl, s3, b3⟩; obtain ⟨q3, z3, hv3⟩ := s3.shape; rw [← unhide HNc] at hv3; subst hv3; clear s3; have c3 := c2.trans (b3.mono c2.size); have kb0 := unhide KB w3 c3)
                  | (go_at_call 22; refine (unhide HSb _ (hL.keep c1) (rb.below c1)).mono ?_; rintro e w2 ⟨v2, rfl, s2, b2⟩; obtain ⟨q2, z2, hv2⟩ := s2.shape; rw [← unhide HNb] at hv2; subst hv2; clear s2; have c2 := c1.trans (b2.mono c1.size))
                  | (go_at_call 22; refine (unhide HSa _ hL ra).mono ?_; rintro e w1 ⟨v1, rfl, s1, b1⟩; obtain ⟨q1, z1, hv1⟩ := s1.shape; rw [← unhide HNa] at hv1; subst hv1; clear s1; have c1 := b1))
                go_ret
                exact ⟨rfl, c99⟩
end Go.Proofs.Ytdlbdfndnjdeeaa
