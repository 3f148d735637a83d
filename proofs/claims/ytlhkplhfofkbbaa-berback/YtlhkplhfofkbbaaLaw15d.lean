/- Stage 15: BerBack, over the contracts. -/
import Derived.Test.YtlhkplhfofkbbaaLaw15c
namespace Go.Proofs.Ytlhkplhfofkbbaa
open Go.RowKit

theorem nums_app (a b : ByteArray) : nums (a ++ b) = nums a ++ nums b := by simp [nums]
theorem enc_bad1 {e : El} (h : encE [e] ≠ 0) : encS [e] = ⟨#[]⟩ ∧ encE [e] = chkB e := by
  by_cases hc : chkB e = 0
  · obtain ⟨_, hf, hz⟩ := chkB_ok hc
    have hcl : chkL [e] = 0 := by simp [chkL, hc]
    have hll : layE.L [e] = layE e := by simp [layE.L]
    exact absurd (enc_ok (l := [e]) hcl (by rw [hll, lay_len e hf hz]; exact hz)).2 h
  · have hcl : chkL [e] = chkB e := by simp [chkL, hc]
    unfold encS encE
    rw [hcl, if_neg (fun h => hc h.1), if_neg hc]
    exact ⟨by rfl, rfl⟩
theorem enc_good1 {e : El} (h : encE [e] = 0) : chkB e = 0 ∧ nums (encS [e]) = layE e ∧ (encS [e]).size ≤ 4000 ∧ ∀ r, takeB 11 (layE e ++ r) = (e, (layE e).length, 0) := by
  by_cases hc : chkB e = 0
  · obtain ⟨hd, hf, hz⟩ := chkB_ok hc
    have hcl : chkL [e] = 0 := by simp [chkL, hc]
    have hll : layE.L [e] = layE e := by simp [layE.L]
    have hes := (enc_ok (l := [e]) hcl (by rw [hll, lay_len e hf hz]; exact hz)).1
    have hn : nums (encS [e]) = layE e := by rw [hes, hll]; exact nums_strOfNums _ (lay_byte e hf hz)
    refine ⟨hc, hn, ?_, fun r => take_lay e 11 r hf hz hd⟩
    rw [← nums_length, hn, lay_len e hf hz]; exact hz
  · have hcl : chkL [e] = chkB e := by simp [chkL, hc]
    unfold encE at h
    rw [hcl, if_neg hc] at h
    exact absurd h hc
theorem dec_back (e : El) (bf bh : ByteArray) (h : encE [e] = 0) : decB (nums (bf ++ encS [e] ++ bh)) (bf.size : Int) = (e, ((bf.size + (encS [e]).size : Nat) : Int), 0) := by
  obtain ⟨_, hn, _, ht⟩ := enc_good1 h
  have hl : (layE e).length = (encS [e]).size := by rw [← hn, nums_length]
  unfold decB
  rw [if_neg (by rw [nums_length]; simp [ByteArray.size_append]; omega), show ((bf.size : Int)).toNat = bf.size from rfl, nums_app, nums_app, hn, List.append_assoc, ← nums_length bf, List.drop_left, ht]
  simp only [if_true]
  refine Prod.ext rfl (Prod.ext ?_ rfl)
  show ((nums bf).length : Int) + ((layE e).length : Int) = (((nums bf).length + (encS [e]).size : Nat) : Int)
  rw [hl]; omega
set_option maxHeartbeats 3200000 in
theorem back15_law (e : El) (v : Value) (bf bh : ByteArray) (w : World) (hL : Ly w) (hV : ElV w e v) (hsum : bf.size + bh.size ≤ 9223372036854775807) : Calls Try.prog 6 #[v, .string bf, .string bh] w fun e w' => e = .returned (.bool true) ∧ Below w.heap.size w w' := by
  obtain ⟨ad, cap, rfl, _⟩ := hV.open
  have HV := hide hV
  have e0 := hV.grow (Below.one w (bxE e ad cap))
  clear hV
  have HF := hide (fun w2 h => few_any e 300 (.agg #[.int .i64 e.cls, .bool e.made, .int .i64 e.num, .string e.con, .slice ad e.els.length cap]) w2 h (by decide) (by decide))
  have HA := hide awake15
  have HL := hide hL
  have wz : IntKind.i64.wrap ((bf.size : Int) + (bh.size : Int)) = (bf.size : Int) + (bh.size : Int) := wrap_in (by omega) (by omega)
  obtain ⟨q0, q1, q2, q3, q4⟩ := bxE_cells w e ad cap
  have t0 := Below.one w (bxE e ad cap)
  by_cases hf : fewE e 300 < 0
  · generalize fewE e 300 = f at *
    clear hL
    go_enter Try.func6, Try.ntmps6
    go_wp2_with (first
      | (go_at_call 9; refine (unhide HA _ (Ly.keep (unhide HL) t1)).mono ?_; rintro r w2 ⟨rfl, b2⟩)
      | (go_at_call 10; refine (unhide HF _ e0).mono ?_; rintro r w1 ⟨rfl, g1⟩; have t1 := below_next t0 g1.below))
    go_ret
    exact ⟨rfl, below_next t1 b2⟩
  · by_cases h5 : 5000 < bf.size + bh.size
    · have z5 : (5000 : Int) < (bf.size : Int) + (bh.size : Int) := by omega
      generalize fewE e 300 = f at *
      clear hL
      go_enter Try.func6, Try.ntmps6
      go_wp2_with (first
        | (go_at_call 9; refine (unhide HA _ (Ly.keep (unhide HL) t1)).mono ?_; rintro r w2 ⟨rfl, b2⟩)
        | (go_at_call 10; refine (unhide HF _ e0).mono ?_; rintro r w1 ⟨rfl, g1⟩; have t1 := below_next t0 g1.below))
      go_ret
      exact ⟨rfl, below_next t1 b2⟩
    · have z5 : ¬ (5000 : Int) < (bf.size : Int) + (bh.size : Int) := by omega
      generalize fewE e 300 = f at *
      have HE := hide (fun v w2 (h : Ly w2) hV => bencode_any [e] v w2 h hV)
      have HC := hide (fun v w2 (h : Ly w2) hV => bcheck_any e v w2 h hV)
      by_cases hx : encE [e] = 0
      · obtain ⟨hck, _, hsz, _⟩ := enc_good1 hx
        have HD := hide (fun w2 (h : Ly w2) => bdecode_any (bf ++ encS [e] ++ bh) (bf.size : Int) w2 h (by simp [ByteArray.size_append]; omega) (by omega) (by omega))
        rw [dec_back e bf bh hx] at HD
        rw [hx] at HE
        simp only at HD
        have wy : IntKind.i64.wrap ((bf.size : Int) + ((encS [e]).size : Int)) = (bf.size : Int) + ((encS [e]).size : Int) := wrap_in (by omega) (by omega)
        have zz : ((encS [e]).size : Int) ≤ 4000 := by omega
        have zq : (((bf.size + (encS [e]).size : Nat) : Int) == (bf.size : Int) + ((encS [e]).size : Int)) = true := by simp
        have zt : ((encS [e]).size : Int) = ((encS [e]).size : Int) := rfl
        clear hL hx hck hsz zt HC
        generalize encS [e] = S at *
        have HS := hide (rsame_any e)
        generalize hM : bf.size + S.size = M at *
        clear hM
        go_enter Try.func6, Try.ntmps6
        go_wp2_with (first
          | (go_at_call 9; refine (unhide HA _ (Ly.keep (unhide HL) t4)).mono ?_; rintro r w5 ⟨rfl, b5⟩)
          | (go_at_call 19; refine (unhide HS _ _ _ (e3.grow (Below.one w3 (bxE e ad3 cap3))) (e0.grow x3)).mono ?_; rintro r w4 ⟨rfl, g4⟩; have t4 := below_next t3 g4.below)
          | (go_at_call 17; refine (unhide HD _ (Ly.keep (unhide HL) t2)).mono ?_; rintro r w3 ⟨v3, rfl, p3, b3⟩; obtain ⟨ad3, cap3, rfl⟩ := p3.shape; have e3 := ElP.toV _ _ p3; have t3 := below_next t2 (below_one b3 (bxE e ad3 cap3)); have x3 := below_next x2 (below_one b3 (bxE e ad3 cap3)); obtain ⟨l0, l1, l2, l3, l4⟩ := bxE_cells w3 e ad3 cap3; have n0 := (x3.cell (cell_lt q0)).trans q0; have n1 := (x3.cell (cell_lt q1)).trans q1; have n2 := (x3.cell (cell_lt q2)).trans q2; have n3 := (x3.cell (cell_lt q3)).trans q3; have n4 := (x3.cell (cell_lt q4)).trans q4)
          | (go_at_call 15; refine (unhide HE _ _ (Ly.keep (unhide HL) (below_one t1 (bxE e ad cap))) (els_one rfl (e0.grow x1))).mono ?_; rintro r w2 ⟨rfl, b2⟩; have t2 := below_next (below_one t1 (bxE e ad cap)) b2; have x2 := below_next (below_one x1 (bxE e ad cap)) b2)
          | (go_at_call 10; refine (unhide HF _ e0).mono ?_; rintro r w1 ⟨rfl, g1⟩; have x1 := g1.below; have t1 := below_next t0 x1; have k0 := (x1.cell (cell_lt q0)).trans q0; have k1 := (x1.cell (cell_lt q1)).trans q1; have k2 := (x1.cell (cell_lt q2)).trans q2; have k3 := (x1.cell (cell_lt q3)).trans q3; have k4 := (x1.cell (cell_lt q4)).trans q4))
        go_ret
        exact ⟨rfl, below_next t4 b5⟩
      · obtain ⟨hs0, hs1⟩ := enc_bad1 hx
        have ex : (chkB e == 0) = false := by rw [← hs1]; simpa using hx
        rw [hs0, hs1] at HE
        clear hL hx hs0 hs1
        generalize chkB e = x at *
        go_enter Try.func6, Try.ntmps6
        go_wp2_with (first
          | (go_at_call 9; refine (unhide HA _ (Ly.keep (unhide HL) t3)).mono ?_; rintro r w4 ⟨rfl, b4⟩)
          | (go_at_call 11; refine (unhide HC _ _ (Ly.keep (unhide HL) t2) (e0.grow x2)).mono ?_; rintro r w3 ⟨rfl, b3⟩; have t3 := below_next t2 b3)
          | (go_at_call 15; refine (unhide HE _ _ (Ly.keep (unhide HL) (below_one t1 (bxE e ad cap))) (els_one rfl (e0.grow x1))).mono ?_; rintro r w2 ⟨rfl, b2⟩; have t2 := below_next (below_one t1 (bxE e ad cap)) b2; have x2 := below_next (below_one x1 (bxE e ad cap)) b2; have n0 := (x2.cell (cell_lt q0)).trans q0; have n1 := (x2.cell (cell_lt q1)).trans q1; have n2 := (x2.cell (cell_lt q2)).trans q2; have n3 := (x2.cell (cell_lt q3)).trans q3; have n4 := (x2.cell (cell_lt q4)).trans q4)
          | (go_at_call 10; refine (unhide HF _ e0).mono ?_; rintro r w1 ⟨rfl, g1⟩; have x1 := g1.below; have t1 := below_next t0 x1; have k0 := (x1.cell (cell_lt q0)).trans q0; have k1 := (x1.cell (cell_lt q1)).trans q1; have k2 := (x1.cell (cell_lt q2)).trans q2; have k3 := (x1.cell (cell_lt q3)).trans q3; have k4 := (x1.cell (cell_lt q4)).trans q4))
        go_ret
        exact ⟨rfl, below_next t3 b4⟩
end Go.Proofs.Ytlhkplhfofkbbaa
