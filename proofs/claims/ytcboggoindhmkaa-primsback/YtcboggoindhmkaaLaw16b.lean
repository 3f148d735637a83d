/- Stage 16: PrimsBack, over the contracts. -/
import Derived.Test.YtcboggoindhmkaaLaw16a
import Derived.Test.YtcboggoindhmkaaHeld16
import Derived.Test.YtcboggoindhmkaaLaw15d
namespace Go.Proofs.Ytcboggoindhmkaa
open Go.RowKit

/-- A whole number's element. -/
abbrev Ei (c n : Int) (s : ByteArray) : El := .mk c false n s []
theorem ei_chk (c n : Int) (s : ByteArray) (h : mkOk c n = true) (hs : s.size ≤ 4) : chkB (Ei c n s) = 0 := by
  have hd : deepE (Ei c n s) 13 = 1 := by simp [deepE, deepE.L]
  have hf : fineE (Ei c n s) = true := by
    unfold mkOk at h
    simp only [fineE, fineE.L]
    rw [h]
    simp
  have hz : sizeE (Ei c n s) ≤ 4000 := by
    show hdr s.size ≤ 4000
    unfold hdr
    rw [if_neg (by omega), if_neg (by omega), if_neg (by omega)]
    omega
  unfold chkB
  rw [hd, hf, if_neg (by omega), if_neg (by simp), if_neg (by omega)]
theorem ei_enc (c n : Int) (s : ByteArray) (h : mkOk c n = true) (hs : s.size ≤ 4) : encE [Ei c n s] = 0 := by
  have hc := ei_chk c n s h hs
  obtain ⟨_, hf, hz⟩ := chkB_ok hc
  have hcl : chkL [Ei c n s] = 0 := by simp [chkL, hc]
  have hll : layE.L [Ei c n s] = layE (Ei c n s) := by simp [layE.L]
  exact (enc_ok (l := [Ei c n s]) hcl (by rw [hll, lay_len _ hf hz]; exact hz)).2
theorem ei_dec (c n : Int) (s : ByteArray) (h : mkOk c n = true) (hs : s.size ≤ 4) : decB (nums (encS [Ei c n s])) 0 = (Ei c n s, ((encS [Ei c n s]).size : Int), 0) ∧ (encS [Ei c n s]).size ≤ 4000 := by
  obtain ⟨_, hn, hz, ht⟩ := enc_good1 (ei_enc c n s h hs)
  refine ⟨?_, hz⟩
  have hl := nums_length (encS [Ei c n s])
  have h2 := ht []
  rw [List.append_nil] at h2
  unfold decB
  rw [if_neg (by omega), hn]
  simp only [Int.toNat_zero, List.drop_zero]
  rw [h2]
  simp only [if_true]
  rw [← hl, hn]
  simp
theorem int_good (c n k : Int) (h : intX c n k = 0) : mkOk c n = true ∧ -2147483648 ≤ k ∧ k ≤ 2147483647 ∧ intE c n k = Ei c n (strOfNums (bytI k)) := by
  unfold intX at h
  split at h
  · rename_i hk
    unfold mkX at h
    cases hm : mkOk c n
    · rw [hm] at h; simp at h
    · refine ⟨rfl, hk.1, hk.2, ?_⟩
      unfold intE mkE
      rw [if_pos hk, if_pos hm]
  · omega
theorem int_bad (c n k : Int) (h : intX c n k ≠ 0) : intX c n k = 2 ∧ intE c n k = el0 := by
  unfold intX at h ⊢
  unfold intE
  by_cases hk : -2147483648 ≤ k ∧ k ≤ 2147483647
  · rw [if_pos hk] at h ⊢
    rw [if_pos hk]
    unfold mkX at h ⊢
    unfold mkE
    cases hm : mkOk c n
    · exact ⟨rfl, rfl⟩
    · rw [hm] at h; exact absurd rfl h
  · rw [if_neg hk, if_neg hk]
    exact ⟨rfl, rfl⟩
theorem as_good (c n k : Int) (h0 : -2147483648 ≤ k) (h1 : k ≤ 2147483647) : asIE (Ei c n (strOfNums (bytI k))) = (k, 0) := by
  show asI (nums (strOfNums (bytI k))) = _
  rw [nums_strOfNums _ (bytI_byte k), asI_bytI k h0 h1]
theorem bool_good (c n : Int) (b : Bool) (h : mkOk c n = true) : mkE c false n (boolS b) [] = Ei c n (boolS b) ∧ mkX c n = 0 := by
  unfold mkE mkX
  rw [if_pos h, if_pos h]
  exact ⟨rfl, rfl⟩
theorem asb_good (c n : Int) (b : Bool) : asB (Ei c n (boolS b)) = (b, 0) := by
  cases b
  · rfl
  · rfl
theorem is_good (c n : Int) (s : ByteArray) : isE (Ei c n s) c n false = true := by
  unfold isE
  simp
theorem open_i {P : Nat → Prop} {w : World} {v : Value} {c n : Int} {s : ByteArray} (h : ElP P w (Ei c n s) v) : ∃ ad cap, v = .agg #[.int .i64 c, .bool false, .int .i64 n, .string s, .slice ad 0 cap] := ElP.shape h
abbrev bxI (c n : Int) (s : ByteArray) (ad : Option Addr) (cap : Nat) : Obj := .cells #[.int .i64 c, .bool false, .int .i64 n, .string s, .slice ad 0 cap] 26
theorem row_i {w : World} {c n : Int} {s : ByteArray} {ad : Option Addr} {cap g : Nat} (hg : g = w.heap.size) : ElsV (w.alloc (bxI c n s ad cap)) (.slice (some ⟨g, 0, none⟩) 1 1) [Ei c n s] := els_one hg (plain_V w c n s ad cap)
set_option maxHeartbeats 6400000 in
theorem back16_law (c n k : Int) (b : Bool) (w : World) : Calls Try.prog 6 #[.agg #[.int .i64 c, .int .i64 n], .int .i64 k, .bool b] w fun e w' => e = .returned (.bool true) ∧ Below w.heap.size w w' := by
  have H1 := hide (int_any c n k (w.alloc (bxT c n)))
  have H7 := hide (bool_any c n b)
  have HA := hide awake16
  have HT0 := hide (Below.one w (bxT c n))
  obtain ⟨t0, t1⟩ := bxT_cells w c n
  have HC : Hid (∀ w2, Below (w.alloc (bxT c n)).heap.size (w.alloc (bxT c n)) w2 → w2.cell? ⟨w.heap.size, 0, none⟩ = some (.int .i64 c) ∧ w2.cell? ⟨w.heap.size, 1, none⟩ = some (.int .i64 n)) := fun w2 hb => ⟨(hb.cell (cell_lt t0)).trans t0, (hb.cell (cell_lt t1)).trans t1⟩
  by_cases hx : intX c n k = 0
  · obtain ⟨hm, hk0, hk1, he⟩ := int_good c n k hx
    rw [he, hx] at H1
    obtain ⟨hb1, hb2⟩ := bool_good c n b hm
    rw [hb1, hb2] at H7
    have hs : (strOfNums (bytI k)).size ≤ 4 := by
      rw [← nums_length, nums_strOfNums _ (bytI_byte k)]
      exact bytI_len k
    have H2 := hide (fun w2 a p => asint_any (Ei c n (strOfNums (bytI k))) _ w2 (plain_V w2 c n _ a p))
    rw [as_good c n k hk0 hk1] at H2
    have H3 := hide (fun v w2 hV => bencode_any [Ei c n (strOfNums (bytI k))] v w2 trivial hV)
    rw [ei_enc c n _ hm hs] at H3
    obtain ⟨hd, hz⟩ := ei_dec c n _ hm hs
    have H4 := hide (fun w2 => bdecode_any (encS [Ei c n (strOfNums (bytI k))]) 0 w2 trivial (by omega) (by decide) (by decide))
    rw [hd] at H4
    have H8 := hide (fun w2 a p => asbool_any (Ei c n (boolS b)) _ w2 (plain_V w2 c n _ a p))
    rw [asb_good] at H8
    have H9 := hide (fun w2 a p => is_any (Ei c n (boolS b)) _ c n false w2 (plain_V w2 c n _ a p))
    rw [is_good] at H9
    simp only at H2 H4 H8
    have z4 : ¬ (4 : Int) < ((strOfNums (bytI k)).size : Int) := by omega
    have zb : (b == b) = true := by simp
    clear hx he hm hk0 hk1 hb1 hb2 hs hd hz t0 t1
    generalize encS [Ei c n (strOfNums (bytI k))] = S at *
    generalize strOfNums (bytI k) = s at *
    generalize boolS b = y at *
    go_enter Try.func6, Try.ntmps6
    go_wp2_with (first
      | (go_at_call 15; refine (unhide HA _).mono ?_; rintro r w9 ⟨rfl, b9⟩)
      | (go_at_call 19; refine (unhide H9 _ _ _).mono ?_; rintro r w8 ⟨rfl, g8⟩; have X8 := hide (below_next (unhide X7) g8.below); clear g8)
      | (go_at_call 22; refine (unhide H8 _ _ _).mono ?_; rintro r w7 ⟨rfl, g7⟩; have X7 := hide (below_next (unhide X6) g7.below); have B7 := hide ((unhide B6).below g7.below); have j0 := (unhide B7).c0; have j1 := (unhide B7).c1; have j2 := (unhide B7).c2; have j3 := (unhide B7).c3; have j4 := (unhide B7).c4; have t0 := (unhide HC _ (unhide X7)).1; have t1 := (unhide HC _ (unhide X7)).2; clear g7)
      | (go_at_call 10; refine (unhide H7 _).mono ?_; rintro r w6 ⟨v6, rfl, p6, b6⟩; obtain ⟨a6, c6, rfl⟩ := open_i p6; have X6 := hide (bel_one (below_next (unhide X5) b6) (bxI c n y a6 c6)); have B6 := hide (Bx.new w6 (.int .i64 c) (.bool false) (.int .i64 n) (.string y) (.slice a6 0 c6) 26); clear b6 p6)
      | (go_at_call 20; refine (unhide H2 (World.alloc w4 (bxI c n s a4 c4)) a4 c4).mono ?_; rintro r w5 ⟨rfl, b5⟩; have X5 := hide (below_next (unhide X4) b5); have A5 := hide ((unhide A4).below b5); have q3 := (unhide A5).c3; have t0 := (unhide HC _ (unhide X5)).1; have t1 := (unhide HC _ (unhide X5)).2; clear b5)
      | (go_at_call 28; refine (unhide H4 _).mono ?_; rintro r w4 ⟨v4, rfl, p4, b4⟩; obtain ⟨a4, c4, rfl⟩ := open_i p4; have X4 := hide (bel_one (below_next (unhide X3) b4) (bxI c n s a4 c4)); have A4 := hide (((unhide A3).below b4).below (Below.one w4 (bxI c n s a4 c4))); clear b4 p4)
      | (go_at_call 27; refine (unhide H3 _ _ (row_i (by simp))).mono ?_; rintro r w3 ⟨rfl, b3⟩; have X3 := hide (below_next (bel_one (unhide X2) (bxI c n s a1 c1)) b3); have A3 := hide (((unhide A2).below (Below.one w2 (bxI c n s a1 c1))).below b3); clear b3 q0 q1 q2 q3 q4)
      | (go_at_call 20; refine (unhide H2 _ _ _).mono ?_; rintro r w2 ⟨rfl, b2⟩; have X2 := hide (below_next (unhide X1) b2); have A2 := hide ((unhide A1).below b2); have q0 := (unhide A2).c0; have q1 := (unhide A2).c1; have q2 := (unhide A2).c2; have q3 := (unhide A2).c3; have q4 := (unhide A2).c4; clear b2 A1 X1)
      | (go_at_call 8; refine (unhide H1).mono ?_; rintro r w1 ⟨v1, rfl, p1, b1⟩; obtain ⟨a1, c1, rfl⟩ := open_i p1; have X1 := hide (bel_one b1 (bxI c n s a1 c1)); have A1 := hide (Bx.new w1 (.int .i64 c) (.bool false) (.int .i64 n) (.string s) (.slice a1 0 c1) 26); clear b1 p1))
    go_ret
    exact ⟨rfl, below_next (below_next (unhide HT0) (unhide X8)) b9⟩
  · obtain ⟨hx2, he⟩ := int_bad c n k hx
    rw [he, hx2] at H1
    cases hm : mkOk c n
    · have hb1 : mkE c false n (boolS b) [] = el0 := by unfold mkE; rw [hm]; rfl
      have hb2 : mkX c n = 2 := by unfold mkX; rw [hm]; rfl
      rw [hb1, hb2] at H7
      clear hx hx2 he hb1 hb2 t0 t1 hm
      go_enter Try.func6, Try.ntmps6
      go_wp2_with (first
        | (go_at_call 15; refine (unhide HA _).mono ?_; rintro r w9 ⟨rfl, b9⟩)
        | (go_at_call 10; refine (unhide H7 _).mono ?_; rintro r w6 ⟨v6, rfl, p6, b6⟩; obtain ⟨a6, c6, rfl⟩ := open0 p6; have X8 := hide (bel_one (below_next (unhide X5) b6) (.cells #[.int .i64 0, .bool false, .int .i64 0, .string ⟨#[]⟩, .slice a6 0 c6] 26)); clear b6 p6)
        | (go_at_call 8; refine (unhide H1).mono ?_; rintro r w1 ⟨v1, rfl, p1, b1⟩; obtain ⟨a1, c1, rfl⟩ := open0 p1; have X5 := hide (bel_one b1 (.cells #[.int .i64 0, .bool false, .int .i64 0, .string ⟨#[]⟩, .slice a1 0 c1] 26)); have t0 := (unhide HC _ (unhide X5)).1; have t1 := (unhide HC _ (unhide X5)).2; clear b1 p1))
      go_ret
      exact ⟨rfl, below_next (below_next (unhide HT0) (unhide X8)) b9⟩
    · obtain ⟨hb1, hb2⟩ := bool_good c n b hm
      rw [hb1, hb2] at H7
      have H8 := hide (fun w2 a p => asbool_any (Ei c n (boolS b)) _ w2 (plain_V w2 c n _ a p))
      rw [asb_good] at H8
      have H9 := hide (fun w2 a p => is_any (Ei c n (boolS b)) _ c n false w2 (plain_V w2 c n _ a p))
      rw [is_good] at H9
      simp only at H8
      have zb : (b == b) = true := by simp
      clear hx hx2 he hb1 hb2 t0 t1 hm
      generalize boolS b = y at *
      go_enter Try.func6, Try.ntmps6
      go_wp2_with (first
        | (go_at_call 15; refine (unhide HA _).mono ?_; rintro r w9 ⟨rfl, b9⟩)
        | (go_at_call 19; refine (unhide H9 _ _ _).mono ?_; rintro r w8 ⟨rfl, g8⟩; have X8 := hide (below_next (unhide X7) g8.below); clear g8)
        | (go_at_call 22; refine (unhide H8 _ _ _).mono ?_; rintro r w7 ⟨rfl, g7⟩; have X7 := hide (below_next (unhide X6) g7.below); have B7 := hide ((unhide B6).below g7.below); have j0 := (unhide B7).c0; have j1 := (unhide B7).c1; have j2 := (unhide B7).c2; have j3 := (unhide B7).c3; have j4 := (unhide B7).c4; have t0 := (unhide HC _ (unhide X7)).1; have t1 := (unhide HC _ (unhide X7)).2; clear g7)
        | (go_at_call 10; refine (unhide H7 _).mono ?_; rintro r w6 ⟨v6, rfl, p6, b6⟩; obtain ⟨a6, c6, rfl⟩ := open_i p6; have X6 := hide (bel_one (below_next (unhide X5) b6) (bxI c n y a6 c6)); have B6 := hide (Bx.new w6 (.int .i64 c) (.bool false) (.int .i64 n) (.string y) (.slice a6 0 c6) 26); clear b6 p6)
        | (go_at_call 8; refine (unhide H1).mono ?_; rintro r w1 ⟨v1, rfl, p1, b1⟩; obtain ⟨a1, c1, rfl⟩ := open0 p1; have X5 := hide (bel_one b1 (.cells #[.int .i64 0, .bool false, .int .i64 0, .string ⟨#[]⟩, .slice a1 0 c1] 26)); have t0 := (unhide HC _ (unhide X5)).1; have t1 := (unhide HC _ (unhide X5)).2; clear b1 p1))
      go_ret
      exact ⟨rfl, below_next (below_next (unhide HT0) (unhide X8)) b9⟩
end Go.Proofs.Ytcboggoindhmkaa
