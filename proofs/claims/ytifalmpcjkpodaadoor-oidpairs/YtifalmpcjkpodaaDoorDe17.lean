/- The landed Parse of layer 17. -/
import Derived.Test.YtifalmpcjkpodaaDoorDd17
namespace Go.Proofs.YtifalmpcjkpodaaDoor
set_option maxRecDepth 100000
open Go.RowKit

theorem getD_at (ps : List ByteArray) (k : Nat) (h : k < ps.length) : ps[k]? = some (ps.getD k ⟨#[]⟩) := by simp [List.getD, h]
theorem getD_mem (ps : List ByteArray) (k : Nat) (h : k < ps.length) : ps.getD k ⟨#[]⟩ ∈ ps := by simp [List.getD, h]
theorem read_on {ps : List ByteArray} {q : List Int} {k : Nat} {x : Int} (hq : q.length = k) (h : ∀ j, j < k → atoP (ps.getD j ⟨#[]⟩) = some (q.getD j 0)) (hx : atoP (ps.getD k ⟨#[]⟩) = some x) : ∀ j, j < k + 1 → atoP (ps.getD j ⟨#[]⟩) = some ((q ++ [x]).getD j 0) := fun j hj => by
  by_cases e : j = k
  · subst e
    rw [hx, ← hq]
    simp [List.getD]
  · rw [h j (by omega)]
    have : j < q.length := by omega
    simp [List.getD, List.getElem?_append_left this]
set_option maxHeartbeats 6400000 in
theorem oparse_w (s : ByteArray) (w : World) (hL : Ly w) (hs : s.size ≤ 281474976710656) :
    Calls Tryd.prog 17 #[.string s] w fun e w' => ∃ v, e = .returned (.tuple #[v, .int .i64 (parE (nums s))]) ∧ Rn w.heap.size v (parO (nums s)) w' ∧ Below w.heap.size w w' := by
  obtain ⟨i0, hi, hz0, hz1, hz2⟩ := info_parts elem_info
  have HSP := hide (split_any s w hs)
  go_enter Tryd.func17, Tryd.ntmps17
  go_wp2_with (go_at_call 27; refine (unhide HSP).mono ?_; rintro e w1 ⟨ps, p1, p2, rfl, p3, b1⟩; have P1 := hide p1; have P2 := hide p2; have P3 := hide p3; clear p1 p2 p3 HSP)
  have hpl : ps.length ≤ 13 := by
    have h := congrArg List.length (unhide P1)
    have h2 := ptsI_len (few s.size - 1) (nums s)
    have h3 := few_pos s.size
    rw [List.length_map] at h
    omega
  have hb1 := b1.size
  go_loopw [4, 14] (fun v i wr => ∃ (k : Nat) (q : List Int), k ≤ ps.length ∧ i = .int .i64 (k : Int) ∧ q.length = k ∧ Hid (∀ j, j < k → atoP (ps.getD j ⟨#[]⟩) = some (q.getD j 0)) ∧ Hid (Rn w1.heap.size v q wr) ∧ Below w1.heap.size w1 wr) (fun _ i _ => ps.length - (intOf i).toNat)
  case atStart => exact ⟨0, [], Nat.zero_le _, rfl, rfl, fun j hj => absurd hj (Nat.not_lt_zero _), Rn.nil _ _, Below.refl _ _⟩
  case round =>
    obtain ⟨k, q, hk, rfl, hq, HQ, HO, hb⟩ := hrel
    have hsz := hb.size
    obtain ⟨xa, xc, hv⟩ := (unhide HO).shape
    rw [hq] at hv
    have HN := hide hq.symm
    subst hv
    have hbw := b1.trans (hb.mono hb1)
    have hLr := hide (hL.keep hbw)
    clear hq
    by_cases hlt : k < ps.length
    · have hzl : (k : Int) < (ps.length : Int) := by omega
      have hz0' : (0 : Int) ≤ (k : Int) := by omega
      have g1 : wr.cell? ⟨w.heap.size, k, none⟩ = some (.string (ps.getD k ⟨#[]⟩)) := ((unhide P3).keep hb).at k _ (getD_at ps k hlt)
      have hps : (ps.getD k ⟨#[]⟩).size ≤ 281474976710656 := by have := unhide P2 _ (getD_mem ps k hlt); omega
      have hm1 : k + 1 ≤ maxLen := by unfold maxLen; omega
      have hm2 : (k + 1) * 8 ≤ 140737488355328 := by omega
      cases ha : atoP (ps.getD k ⟨#[]⟩) with
      | none =>
        have HE := hide (par_bad s ps (unhide P1) k hlt ha)
        have CA := hide (atoi_no _ wr (unhide hLr) hps ha)
        clear ha
        generalize ps.getD k ⟨#[]⟩ = p at *
        go_wp2_with (go_at_call 28; refine (unhide CA).mono ?_; rintro e w2 ⟨x2, t2, q2, rfl, b2⟩)
        go_ret2
        exact ⟨_, ret_ve (parE_none (unhide HE)).symm, by rw [unhide HE]; exact Rn.nil _ _, hbw.trans (b2.mono hbw.size)⟩
      | some x =>
        have HR := hide (read_on (unhide HN).symm (unhide HQ) ha)
        have CA := hide (atoi_yes _ x wr hps ha)
        clear ha
        generalize ps.getD k ⟨#[]⟩ = p at *
        go_wp2_with (first
          | (at_builtin; refine wpList_append_lies _ rfl _ _ 22 rfl w1.heap.size 3 i0 _ 1 8 Tryd.underlying22 hi hz0 hz1 hz2 rfl (by omega) _ k _ rfl (World.ownsRow.alloc (Rn.own (unhide HN) (unhide O2)) _) ⟨w2.heap.size, 0, none⟩ 1 1 [.int .i64 x] rfl rfl (World.news_of_block (cs := #[.int .i64 x]) (t := 3) (fr := (0, 0)) (heap_new w2 _)) (by simp [Value.oneCell']) (by omega) hm1 hm2 (by simp; omega) (w2.heap.size + 1) (by simp) ?_; intro g9 cap9 w9 hown9 hgrow9 hat9 hlt9)
          | (go_at_call 28; refine (unhide CA).mono ?_; rintro e w2 ⟨rfl, b2⟩; have O2 := hide ((unhide HO).below b2); have hs2 := b2.size))
        go_roundw
        case rel => exact ⟨k + 1, q ++ [x], by omega, by go_num, by rw [List.length_append, ← unhide HN]; rfl, unhide HR, Rn.push (unhide HN) hown9, ((hb.trans (b2.mono hsz)).alloc (by omega) _).trans (below_own hgrow9 (by simp; omega) (own_block (Rn.own (unhide HN) (unhide O2))))⟩
        case measure => simp [intOf]; omega
    · have hzl : ¬ (k : Int) < (ps.length : Int) := by omega
      obtain rfl : k = ps.length := by omega
      have HP := hide (par_all s ps q (unhide P1) (unhide HN).symm (fun j hj => unhide HQ j (by rw [← unhide HN] at hj; exact hj)))
      have HCMP : Hid (((strOfNums (showO q)).toList == s.toList) = decide (showO q = nums s)) := str_same _ (showO_bound _) s
      have HSH := hide (oshow_w _ q wr (unhide hLr) (by rw [← unhide HN]; omega) (unhide HO).row)
      cases ho : okO q
      · have HE : Hid (parO (nums s) = []) := by show _ = _; rw [unhide HP, ho]; rfl
        rw [show shS q = strOfNums [] by unfold shS; rw [ho]; rfl, chk_no ho] at HSH
        clear HP HCMP ho
        go_wp2_with (go_at_call 10; refine (unhide HSH).mono ?_; rintro e w5 ⟨rfl, hb5⟩)
        go_ret2
        exact ⟨_, ret_ve (parE_none (unhide HE)).symm, by rw [unhide HE]; exact Rn.nil _ _, hbw.trans (hb5.mono hbw.size)⟩
      · rw [show shS q = strOfNums (showO q) by unfold shS; rw [ho]; rfl, chk_yes ho] at HSH
        by_cases hS : showO q = nums s
        · have HE : Hid (parO (nums s) = q) := by show _ = _; rw [unhide HP, if_pos ⟨ho, hS⟩]
          have hcmp : ((strOfNums (showO q)).toList == s.toList) = true := by rw [unhide HCMP, decide_eq_true hS]
          have HNE : Hid (q ≠ []) := fun e => by have := okO_len ho; rw [e] at this; simp at this
          clear HP HCMP ho hS
          go_wp2_with (go_at_call 10; refine (unhide HSH).mono ?_; rintro e w5 ⟨rfl, hb5⟩)
          go_ret2
          exact ⟨_, ret_ve (parE_some (by rw [unhide HE]; exact unhide HNE)).symm, by rw [unhide HE]; exact ((unhide HO).below hb5).base hb1, hbw.trans (hb5.mono hbw.size)⟩
        · have HE : Hid (parO (nums s) = []) := by show _ = _; rw [unhide HP, if_neg (fun h => hS h.2)]
          have hcmp : ((strOfNums (showO q)).toList == s.toList) = false := by rw [unhide HCMP, decide_eq_false hS]
          clear HP HCMP ho hS
          go_wp2_with (go_at_call 10; refine (unhide HSH).mono ?_; rintro e w5 ⟨rfl, hb5⟩)
          go_ret2
          exact ⟨_, ret_ve (parE_none (unhide HE)).symm, by rw [unhide HE]; exact Rn.nil _ _, hbw.trans (hb5.mono hbw.size)⟩
end Go.Proofs.YtifalmpcjkpodaaDoor
