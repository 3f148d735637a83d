/- The document's Parse of layer 17. -/
import Derived.Test.YtifalmpcjkpodaaDoorRShw17
namespace Go.Proofs.YtifalmpcjkpodaaDoor
set_option maxRecDepth 100000
open Go.RowKit

theorem ret_ve {v : Value} {c d : Int} (h : c = d) : Ending.returned (.tuple #[v, .int .i64 c]) = .returned (.tuple #[v, .int .i64 d]) := by rw [h]
set_option maxHeartbeats 800000 in
theorem rparse_long (s : ByteArray) (w : World) (hs : 100 < s.size) (hs2 : s.size ≤ 9223372036854775807) :
    Calls Tryd.prog 18 #[.string s] w fun e w' => ∃ v, e = .returned (.tuple #[v, .int .i64 (parE (nums s))]) ∧ Rn w.heap.size v (parO (nums s)) w' ∧ Below w.heap.size w w' := by
  have e0 := hide (parO_long (s := nums s) (by rw [nums_length]; exact hs))
  have z : 100 < (s.size : Int) := by omega
  go_enter Tryd.func18, Tryd.ntmps18
  go_wp2
  go_ret2
  exact ⟨_, ret_ve (parE_none (unhide e0)).symm, by rw [unhide e0]; exact Rn.nil _ _, Below.refl _ _⟩
set_option maxHeartbeats 6400000 in
theorem rparse_short (s : ByteArray) (w : World) (hs : s.size ≤ 100) :
    Calls Tryd.prog 18 #[.string s] w fun e w' => ∃ v, e = .returned (.tuple #[v, .int .i64 (parE (nums s))]) ∧ Rn w.heap.size v (parO (nums s)) w' ∧ Below w.heap.size w w' := by
  obtain ⟨i0, hi, hz0, hz1, hz2⟩ := info_parts elem_info
  have z : ¬ 100 < (s.size : Int) := by omega
  have HL : Hid (¬ 100 < (nums s).length) := by show ¬ _; rw [nums_length]; omega
  go_enter Tryd.func18, Tryd.ntmps18
  go_wp2
  go_loopw [4, 5, 6] (fun v n i wr => ∃ (k : Nat) (q : List Int) (x : Int), k ≤ s.size ∧ i = .int .i64 (k : Int) ∧ n = .int .i64 x ∧ 0 ≤ x ∧ x ≤ 999999 ∧ q.length ≤ k ∧ Hid (goO (nums s) [] 0 = goO ((nums s).drop k) q x) ∧ Rn w.heap.size v q wr ∧ Below w.heap.size w wr) (fun _ _ i _ => s.size - (intOf i).toNat)
  case atStart => exact ⟨0, [], 0, Nat.zero_le _, rfl, rfl, Int.le_refl _, by omega, Nat.zero_le _, rfl, Rn.nil _ _, Below.refl _ _⟩
  case round =>
    obtain ⟨k, q, x, hk, rfl, rfl, hx0, hx1, hq, HG, hown, hb⟩ := hrel
    have hsz := hb.size
    obtain ⟨xa, xc, hv⟩ := hown.shape
    obtain ⟨N, hN⟩ : ∃ N, N = q.length := ⟨_, rfl⟩
    rw [← hN] at hv hq
    have HN := hide hN
    clear hN
    subst hv
    have HO := hide hown
    clear hown
    have hm1 : N + 1 ≤ maxLen := by unfold maxLen; omega
    have hm2 : (N + 1) * 8 ≤ 140737488355328 := by omega
    by_cases hlt : k < s.size
    · have hzl : (k : Int) < (s.size : Int) := by omega
      have hz0' : (0 : Int) ≤ (k : Int) := by omega
      have hst := goO_step (nums s) q x k (by rw [nums_length]; exact hlt)
      rw [nums_at s k hlt] at hst
      have hb0 := (s[k]).toNat_lt
      obtain ⟨c, hc⟩ : ∃ c : Int, (s[k].toNat : Int) = c := ⟨_, rfl⟩
      rw [hc] at hst
      have hc0 : 0 ≤ c := by omega
      have hc1 : c < 256 := by omega
      have HS := hide hst
      clear hst hb0
      by_cases e46 : c = 46
      · subst e46
        go_wp2_with (at_builtin; refine wpList_append_lies _ rfl _ _ 22 rfl w.heap.size 3 i0 _ 1 8 Tryd.underlying22 hi hz0 hz1 hz2 rfl (by omega) _ N _ rfl (World.ownsRow.alloc (Rn.own (unhide HN) (unhide HO)) _) ⟨wr.heap.size, 0, none⟩ 1 1 [.int .i64 x] rfl rfl (World.news_of_block (cs := #[.int .i64 x]) (t := 3) (fr := (0, 0)) (heap_new wr _)) (by simp [Value.oneCell']) (by omega) hm1 hm2 (by simp; omega) (wr.heap.size + 1) (by simp) ?_; intro g9 cap9 w9 hown9 hgrow9 hat9 hlt9)
        go_roundw
        case rel =>
          refine ⟨k + 1, q ++ [x], 0, by omega, by go_num, rfl, Int.le_refl _, by omega, by rw [List.length_append, ← unhide HN]; simp; omega, ?_, Rn.push (unhide HN) hown9, (hb.alloc (by omega) _).trans (below_own hgrow9 (by simp; omega) (own_block (Rn.own (unhide HN) (unhide HO))))⟩
          show _ = _
          rw [unhide HG, unhide HS, if_pos rfl]
        case measure => simp [intOf]; omega
      · by_cases hd : 48 ≤ c ∧ c ≤ 57 ∧ x ≤ 99999
        · obtain ⟨d1, d2, d3⟩ := hd
          have w1 : IntKind.i64.wrap (10 * x) = 10 * x := wrap_in (by omega) (by omega)
          have w2 : IntKind.i64.wrap (10 * x + c) = 10 * x + c := wrap_in (by omega) (by omega)
          have w3 : IntKind.i64.wrap (10 * x + c - 48) = 10 * x + c - 48 := wrap_in (by omega) (by omega)
          have e46' : (c == 46) = false := by simpa using e46
          go_wp2
          go_roundw
          case rel =>
            refine ⟨k + 1, q, 10 * x + c - 48, by omega, by go_num, rfl, by omega, by omega, by rw [← unhide HN]; omega, ?_, unhide HO, hb⟩
            show _ = _
            rw [unhide HG, unhide HS, if_neg e46, if_pos ⟨d1, d2, d3⟩]
          case measure => simp [intOf]; omega
        · have HE : Hid (parO (nums s) = []) := by
            show _ = _
            exact parO_none (by rw [unhide HG, unhide HS, if_neg e46, if_neg hd])
          have e46' : (c == 46) = false := by simpa using e46
          by_cases d1 : 48 ≤ c
          · by_cases d2 : c ≤ 57
            · have d3 : ¬ x ≤ 99999 := fun h => hd ⟨d1, d2, h⟩
              clear hd
              go_wp2
              go_ret2
              exact ⟨_, ret_ve (parE_none (unhide HE)).symm, by rw [unhide HE]; exact Rn.nil _ _, hb⟩
            · clear hd
              go_wp2
              go_ret2
              exact ⟨_, ret_ve (parE_none (unhide HE)).symm, by rw [unhide HE]; exact Rn.nil _ _, hb⟩
          · clear hd
            go_wp2
            go_ret2
            exact ⟨_, ret_ve (parE_none (unhide HE)).symm, by rw [unhide HE]; exact Rn.nil _ _, hb⟩
    · have hzl : ¬ (k : Int) < (s.size : Int) := by omega
      have HP : Hid (parO (nums s) = if okO (q ++ [x]) = true ∧ showO (q ++ [x]) = nums s then q ++ [x] else []) := by
        show _ = _
        refine parO_some (unhide HL) ?_
        rw [unhide HG, List.drop_eq_nil_of_le (by rw [nums_length]; omega)]
        rfl
      have HCMP : Hid (((strOfNums (showO (q ++ [x]))).toList == s.toList) = decide (showO (q ++ [x]) = nums s)) := str_same _ (showO_bound _) s
      have HSH : Hid (∀ (v : Value) (W : World), Row W v (q ++ [x]) → Calls Tryd.prog 11 #[v] W fun e w' => e = .returned (.tuple #[.string (shS (q ++ [x])), .int .i64 (chkO (q ++ [x]))]) ∧ Gr W w') := fun v W hR => rshow_v v _ W hR (by rw [List.length_append, ← unhide HN]; simp; omega)
      cases ho : okO (q ++ [x])
      · have HE : Hid (parO (nums s) = []) := by show _ = _; rw [unhide HP, ho]; rfl
        rw [show shS (q ++ [x]) = strOfNums [] by unfold shS; rw [ho]; rfl, chk_no ho] at HSH
        clear HP HCMP ho
        go_wp2_with (first
          | (go_at_call 11; refine (unhide HSH _ _ (unhide R9)).mono ?_; rintro e w5 ⟨rfl, hg5⟩)
          | (at_builtin; refine wpList_append_lies _ rfl _ _ 22 rfl w.heap.size 3 i0 _ 1 8 Tryd.underlying22 hi hz0 hz1 hz2 rfl (by omega) _ N _ rfl (World.ownsRow.alloc (Rn.own (unhide HN) (unhide HO)) _) ⟨wr.heap.size, 0, none⟩ 1 1 [.int .i64 x] rfl rfl (World.news_of_block (cs := #[.int .i64 x]) (t := 3) (fr := (0, 0)) (heap_new wr _)) (by simp [Value.oneCell']) (by omega) hm1 hm2 (by simp; omega) (wr.heap.size + 1) (by simp) ?_; intro g9 cap9 w9 hown9 hgrow9 hat9 hlt9; have O9 := hide (Rn.push (unhide HN) hown9); have R9 := hide (unhide O9).row; have hb9 := (hb.alloc (by omega) _).trans (below_own hgrow9 (by simp; omega) (own_block (Rn.own (unhide HN) (unhide HO))))))
        go_ret2
        exact ⟨_, ret_ve (parE_none (unhide HE)).symm, by rw [unhide HE]; exact Rn.nil _ _, hb9.trans (hg5.below.mono hb9.size)⟩
      · rw [show shS (q ++ [x]) = strOfNums (showO (q ++ [x])) by unfold shS; rw [ho]; rfl, chk_yes ho] at HSH
        by_cases hS : showO (q ++ [x]) = nums s
        · have HE : Hid (parO (nums s) = q ++ [x]) := by show _ = _; rw [unhide HP, if_pos ⟨ho, hS⟩]
          have hcmp : ((strOfNums (showO (q ++ [x]))).toList == s.toList) = true := by rw [unhide HCMP, decide_eq_true hS]
          clear HP HCMP ho hS
          go_wp2_with (first
            | (go_at_call 11; refine (unhide HSH _ _ (unhide R9)).mono ?_; rintro e w5 ⟨rfl, hg5⟩)
            | (at_builtin; refine wpList_append_lies _ rfl _ _ 22 rfl w.heap.size 3 i0 _ 1 8 Tryd.underlying22 hi hz0 hz1 hz2 rfl (by omega) _ N _ rfl (World.ownsRow.alloc (Rn.own (unhide HN) (unhide HO)) _) ⟨wr.heap.size, 0, none⟩ 1 1 [.int .i64 x] rfl rfl (World.news_of_block (cs := #[.int .i64 x]) (t := 3) (fr := (0, 0)) (heap_new wr _)) (by simp [Value.oneCell']) (by omega) hm1 hm2 (by simp; omega) (wr.heap.size + 1) (by simp) ?_; intro g9 cap9 w9 hown9 hgrow9 hat9 hlt9; have O9 := hide (Rn.push (unhide HN) hown9); have R9 := hide (unhide O9).row; have hb9 := (hb.alloc (by omega) _).trans (below_own hgrow9 (by simp; omega) (own_block (Rn.own (unhide HN) (unhide HO))))))
          go_ret2
          exact ⟨_, ret_ve (parE_some (by rw [unhide HE]; simp)).symm, by rw [unhide HE]; exact (unhide O9).below hg5.below, hb9.trans (hg5.below.mono hb9.size)⟩
        · have HE : Hid (parO (nums s) = []) := by show _ = _; rw [unhide HP, if_neg (fun h => hS h.2)]
          have hcmp : ((strOfNums (showO (q ++ [x]))).toList == s.toList) = false := by rw [unhide HCMP, decide_eq_false hS]
          clear HP HCMP ho hS
          go_wp2_with (first
            | (go_at_call 11; refine (unhide HSH _ _ (unhide R9)).mono ?_; rintro e w5 ⟨rfl, hg5⟩)
            | (at_builtin; refine wpList_append_lies _ rfl _ _ 22 rfl w.heap.size 3 i0 _ 1 8 Tryd.underlying22 hi hz0 hz1 hz2 rfl (by omega) _ N _ rfl (World.ownsRow.alloc (Rn.own (unhide HN) (unhide HO)) _) ⟨wr.heap.size, 0, none⟩ 1 1 [.int .i64 x] rfl rfl (World.news_of_block (cs := #[.int .i64 x]) (t := 3) (fr := (0, 0)) (heap_new wr _)) (by simp [Value.oneCell']) (by omega) hm1 hm2 (by simp; omega) (wr.heap.size + 1) (by simp) ?_; intro g9 cap9 w9 hown9 hgrow9 hat9 hlt9; have O9 := hide (Rn.push (unhide HN) hown9); have R9 := hide (unhide O9).row; have hb9 := (hb.alloc (by omega) _).trans (below_own hgrow9 (by simp; omega) (own_block (Rn.own (unhide HN) (unhide HO))))))
          go_ret2
          exact ⟨_, ret_ve (parE_none (unhide HE)).symm, by rw [unhide HE]; exact Rn.nil _ _, hb9.trans (hg5.below.mono hb9.size)⟩
theorem rparse_any (s : ByteArray) (w : World) (hs : s.size ≤ 9223372036854775807) :
    Calls Tryd.prog 18 #[.string s] w fun e w' => ∃ v, e = .returned (.tuple #[v, .int .i64 (parE (nums s))]) ∧ Rn w.heap.size v (parO (nums s)) w' ∧ Below w.heap.size w w' := by
  by_cases h : 100 < s.size
  · exact rparse_long s w h hs
  · exact rparse_short s w (by omega)
end Go.Proofs.YtifalmpcjkpodaaDoor
