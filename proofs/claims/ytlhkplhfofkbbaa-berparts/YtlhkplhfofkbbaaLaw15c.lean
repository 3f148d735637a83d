/- Stage 15: BerForms, over the contracts. -/
import Derived.Test.YtlhkplhfofkbbaaLaw15a
namespace Go.Proofs.Ytlhkplhfofkbbaa
open Go.RowKit

theorem takeH_err (inner : List Int → List El × Int) (s : List Int) (h : (takeH inner s).2.2 ≠ 0) : (takeH inner s).1 = el0 := by
  unfold takeH at h ⊢
  repeat' split
  all_goals first | rfl | skip
  · rename_i h1 h2 h3 h4 h5
    rw [if_neg h1, if_neg h2, if_neg h3, if_pos h4, if_neg h5] at h
    exact absurd rfl h
  · rename_i h1 h2 h3 h4
    rw [if_neg h1, if_neg h2, if_neg h3, if_neg h4] at h
    exact absurd rfl h
theorem decB_err (s : List Int) (i : Int) (h : (decB s i).2.2 ≠ 0) : (decB s i).1 = el0 ∧ (decB s i).2.1 = 0 := by
  unfold decB at h ⊢
  by_cases hb : i < 0 ∨ (s.length : Int) < i
  · rw [if_pos hb]; exact ⟨rfl, rfl⟩
  · rw [if_neg hb] at h ⊢
    simp only at h ⊢
    rw [if_neg h]
    rw [takeB_of] at h ⊢
    exact ⟨takeH_err _ _ h, rfl⟩
theorem decB_good (s : ByteArray) (at_ : Int) (h : (decB (nums s) at_).2.2 = 0) : ∃ i j : Nat, at_ = (i : Int) ∧ i + j ≤ s.size ∧ (decB (nums s) at_).2.1 = ((i + j : Nat) : Int) ∧ chkB (decB (nums s) at_).1 = 0 ∧ encS [(decB (nums s) at_).1] = s.extract i (i + j) ∧ encE [(decB (nums s) at_).1] = 0 ∧ deepE (decB (nums s) at_).1 13 ≤ 12 := by
  by_cases hb : at_ < 0 ∨ ((nums s).length : Int) < at_
  · unfold decB at h; rw [if_pos hb] at h; simp at h
  · rw [nums_length] at hb
    obtain ⟨i, rfl⟩ : ∃ i : Nat, at_ = i := ⟨at_.toNat, by omega⟩
    have hi : i ≤ s.size := by omega
    obtain ⟨e, j, x, hr⟩ : ∃ e j x, takeB 11 ((nums s).drop i) = (e, j, x) := ⟨_, _, _, rfl⟩
    have e1 : decB (nums s) (i : Int) = (e, (if x = 0 then (i : Int) + (j : Int) else 0), x) := by
      unfold decB
      rw [if_neg (by rw [nums_length]; exact hb), show ((i : Int)).toNat = i from rfl, hr]
    rw [e1] at h ⊢
    simp only at h ⊢
    subst h
    obtain ⟨hl, hj, hf, hz, hd⟩ := take_back 11 _ e j ((byt_nums s).drop i) hr
    rw [List.length_drop, nums_length] at hj
    have hck : chkB e = 0 := by
      unfold chkB
      rw [if_neg (by show ¬ 12 < deepE e 13; exact fun h => by have : deepE e 13 ≤ 12 := hd; omega), if_neg (by simp [hf]), if_neg (by omega)]
    have hcl : chkL [e] = 0 := by simp [chkL, hck]
    have hll : layE.L [e] = layE e := by simp [layE.L]
    obtain ⟨s1, s2⟩ := enc_ok (l := [e]) hcl (by rw [hll, lay_len e hf hz]; exact hz)
    refine ⟨i, j, rfl, by omega, ?_, hck, ?_, s2, hd⟩
    · rw [if_pos rfl]; omega
    · rw [s1, hll, hl, ← nums_extract, strOfNums_nums]
set_option maxHeartbeats 3200000 in
theorem forms15_law (s : ByteArray) (at_ : Int) (w : World) (hL : Ly w) (h0 : -9223372036854775808 ≤ at_) (h1 : at_ ≤ 9223372036854775807) : Calls Try.prog 7 #[.string s, .int .i64 at_] w fun e w' => e = .returned (.bool true) ∧ Below w.heap.size w w' := by
  by_cases h8 : 8000 < s.size
  · have z : (8000 : Int) < (s.size : Int) := by omega
    have HA := awake15 w hL
    go_enter Try.func7, Try.ntmps7
    go_wp2_with (go_at_call 9; refine HA.mono ?_; rintro r w1 ⟨rfl, b1⟩)
    go_ret
    exact ⟨rfl, b1⟩
  · have z : ¬ (8000 : Int) < (s.size : Int) := by omega
    have H1 := hide (bdecode_any s at_ w hL (by omega) h0 h1)
    have HA := hide awake15
    have HL := hide hL
    by_cases hx : (decB (nums s) at_).2.2 = 0
    · obtain ⟨i, j, rfl, hij, htq, hck, hes, hee, hdp⟩ := decB_good s at_ hx
      rw [hx, htq] at H1
      have HE := hide (fun v w2 (h : Ly w2) hV => bencode_any [(decB (nums s) i).1] v w2 h hV)
      rw [hes, hee] at HE
      have HC := hide (fun v w2 (h : Ly w2) hV => bcheck_any (decB (nums s) i).1 v w2 h hV)
      rw [hck] at HC
      have HD := hide (fun v w2 (h : Ly w2) hV => bdeep_any (decB (nums s) i).1 v w2 h hV)
      have z2 : ((deepE (decB (nums s) i).1 13 : Nat) : Int) ≤ 12 := by omega
      generalize ((deepE (decB (nums s) i).1 13 : Nat) : Int) = dd at *
      clear hL h0 h1 hx htq hck hes hee hdp
      generalize (decB (nums s) i).1 = e at *
      have y0 : ¬ (i : Int) < 0 := by omega
      have y1 : ¬ ((i + j : Nat) : Int) < (i : Int) := by omega
      have y2 : ¬ (s.size : Int) < ((i + j : Nat) : Int) := by omega
      have y3 : (i : Int) ≤ ((i + j : Nat) : Int) := by omega
      have y4 : ((i + j : Nat) : Int) ≤ (s.size : Int) := by omega
      have y5 : (0 : Int) ≤ (i : Int) := by omega
      have y6 : i + j ≤ s.size := hij
      generalize hm : i + j = m at *
      clear hm
      go_enter Try.func7, Try.ntmps7
      go_wp2_with (first
        | (go_at_call 9; refine (unhide HA _ (Ly.keep (unhide HL) t4)).mono ?_; rintro r w5 ⟨rfl, b5⟩)
        | (go_at_call 13; refine (unhide HD _ _ (Ly.keep (unhide HL) t3) (e1.grow y3')).mono ?_; rintro r w4 ⟨rfl, b4⟩; have t4 := below_next t3 b4)
        | (go_at_call 11; refine (unhide HC _ _ (Ly.keep (unhide HL) t2) (e1.grow y2')).mono ?_; rintro r w3 ⟨rfl, b3⟩; have t3 := below_next t2 b3; have x3 := below_next x2 b3; have y3' := below_next y2' b3; have n0 := (x3.cell (cell_lt q0)).trans q0; have n1 := (x3.cell (cell_lt q1)).trans q1; have n2 := (x3.cell (cell_lt q2)).trans q2; have n3 := (x3.cell (cell_lt q3)).trans q3; have n4 := (x3.cell (cell_lt q4)).trans q4)
        | (go_at_call 15; refine (unhide HE _ _ (Ly.keep (unhide HL) (below_one t1 (bxE e ad1 cap1))) (els_one (by simp) (e1.grow (Below.one w1 (bxE e ad1 cap1))))).mono ?_; rintro r w2 ⟨rfl, b2⟩; have t2 := below_next (below_one t1 (bxE e ad1 cap1)) b2; have x2 := below_next (Below.one (w1.alloc (bxE e ad1 cap1)) (bxE e ad1 cap1)) b2; have y2' := below_next (Below.one w1 (bxE e ad1 cap1)) x2; have k0 := (x2.cell (cell_lt q0)).trans q0; have k1 := (x2.cell (cell_lt q1)).trans q1; have k2 := (x2.cell (cell_lt q2)).trans q2; have k3 := (x2.cell (cell_lt q3)).trans q3; have k4 := (x2.cell (cell_lt q4)).trans q4)
        | (go_at_call 17; refine (unhide H1).mono ?_; rintro r w1 ⟨v1, rfl, p1, b1⟩; obtain ⟨ad1, cap1, rfl⟩ := p1.shape; have e1 := ElP.toV _ _ p1; have t1 := below_one b1 (bxE e ad1 cap1); obtain ⟨q0, q1, q2, q3, q4⟩ := bxE_cells w1 e ad1 cap1))
      go_ret
      exact ⟨rfl, below_next t4 b5⟩
    · obtain ⟨he, ht⟩ := decB_err _ _ hx
      rw [he, ht] at H1
      have ex : ((decB (nums s) at_).2.2 == 0) = false := by simpa using hx
      clear hL h0 h1 he ht hx
      generalize (decB (nums s) at_).2.2 = x at *
      have HS := hide (rsame_any el0)
      go_enter Try.func7, Try.ntmps7
      go_wp2_with (first
        | (go_at_call 9; refine (unhide HA _ (Ly.keep (unhide HL) t3)).mono ?_; rintro r w4 ⟨rfl, b4⟩)
        | (go_at_call 19; refine (unhide HS _ _ _ (e1.grow (Below.one w1 (bxE el0 ad1 cap1))) (ElP.toV _ _ (el0_P (fun _ => True) _))).mono ?_; rintro r w3 ⟨rfl, g3⟩; have t3 := below_next t1 g3.below)
        | (go_at_call 17; refine (unhide H1).mono ?_; rintro r w1 ⟨v1, rfl, p1, b1⟩; obtain ⟨ad1, cap1, rfl⟩ := p1.shape; have e1 := ElP.toV _ _ p1; have t1 := below_one b1 (bxE el0 ad1 cap1); obtain ⟨q0, q1, q2, q3, q4⟩ := bxE_cells w1 el0 ad1 cap1))
      go_ret
      exact ⟨rfl, below_next t3 b4⟩
end Go.Proofs.Ytlhkplhfofkbbaa
