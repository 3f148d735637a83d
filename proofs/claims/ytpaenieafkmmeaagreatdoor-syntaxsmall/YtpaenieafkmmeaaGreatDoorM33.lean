/- Of the library: strings.SplitN of a text at its points, thirteen parts at most. -/
import Derived.Test.YtpaenieafkmmeaaGreatDoorM32
import Derived.Lib.IndexLaws
namespace Go.Proofs.YtpaenieafkmmeaaGreatDoor.S17
set_option maxRecDepth 100000
open Go.RowKit

/-- Where the first point stands. -/
theorem ix_cut (s : ByteArray) : (Lib.indexByte s.data.toList 46 = -1 ∧ cutI (nums s) = none) ∨ ∃ i : Nat, Lib.indexByte s.data.toList 46 = i ∧ i < s.size ∧ cutI (nums s) = some (nums (s.extract 0 i), nums (s.extract (i + 1) s.size)) := by
  have hg := Lib.indexByte_ge s.data.toList 46
  by_cases h : Lib.indexByte s.data.toList 46 = -1
  · refine .inl ⟨h, cutI_miss _ fun hm => ?_⟩
    have hn := Lib.indexByte_none h
    unfold nums at hm
    obtain ⟨c, hc, e⟩ := List.mem_map.1 hm
    obtain ⟨k, hk, rfl⟩ := List.mem_iff_getElem.1 hc
    refine hn k ?_
    rw [List.getElem?_eq_getElem hk]
    congr 1
    exact UInt8.toNat_inj.1 (by show _ = 46; omega)
  · obtain ⟨i, hi⟩ : ∃ i : Nat, Lib.indexByte s.data.toList 46 = i := ⟨(Lib.indexByte s.data.toList 46).toNat, by omega⟩
    obtain ⟨h1, h2⟩ := Lib.indexByte_some hi
    obtain ⟨hlt, he⟩ := List.getElem?_eq_some_iff.1 h1
    have hsz : i < s.size := by
      have := Lib.size_eq s
      omega
    refine .inr ⟨i, hi, hsz, ?_⟩
    have e1 : nums (s.extract 0 i) = (nums s).take i := by
      unfold nums
      rw [Lib.extract_from_zero, List.map_take]
    have e2 : nums (s.extract (i + 1) s.size) = (nums s).drop (i + 1) := by
      unfold nums
      rw [Lib.extract_to_end, List.map_drop]
    have e3 : nums s = (nums s).take i ++ 46 :: (nums s).drop (i + 1) := by
      have hl : i < (nums s).length := by rw [nums_length]; exact hsz
      have e46 : (nums s)[i] = 46 := by
        simp only [nums, List.getElem_map, he]
        rfl
      conv => lhs; rw [← List.take_append_drop i (nums s), List.drop_eq_getElem_cons hl, e46]
    rw [e1, e2]
    conv => lhs; rw [e3]
    refine cutI_hit _ _ fun hm => ?_
    obtain ⟨k, hk, e⟩ := List.mem_iff_getElem.1 hm
    rw [List.length_take] at hk
    have hk2 : k < i := by omega
    refine h2 k hk2 ?_
    have hk3 : k < s.data.toList.length := by omega
    rw [List.getElem?_eq_getElem hk3]
    congr 1
    rw [List.getElem_take] at e
    simp only [nums, List.getElem_map] at e
    exact UInt8.toNat_inj.1 (by show _ = 46; omega)
set_option maxHeartbeats 3200000 in
theorem split_gen (s : ByteArray) (w : World) (hs : s.size ≤ 281474976710656) :
    Calls Tryz.prog 58 #[.string s, .string ⟨#[46]⟩, .int .i64 0, .int .i64 13] w fun e w' => ∃ ps : List ByteArray, ps.map nums = ptsI (few s.size - 1) (nums s) ∧ (∀ p ∈ ps, p.size ≤ s.size) ∧ e = .returned (.slice (some ⟨w.heap.size, 0, none⟩) ps.length (few s.size)) ∧ Tb w' w.heap.size (few s.size) ps ∧ Below w.heap.size w w' := by
  obtain ⟨f1, f2, f3⟩ := few_pos s.size
  have hmin : min (13 : Int) ((s.size : Int) + 1) = (few s.size : Int) := by unfold few; omega
  generalize few s.size = N at *
  have hmk := run_make_row' (P := Tryz.prog) 58 9 (.string ByteArray.empty) 16 Tryz.underlying58 str_info rfl .i64 .i64 N (by omega) (by omega)
  have hq : ((ByteArray.mk #[46]).toList == (ByteArray.mk #[]).toList) = false := by rw [Lib.toList_data, Lib.toList_data]; rfl
  have hq1 : (ByteArray.mk #[46]).size = 1 := rfl
  have HI := hide index17
  have w1 : IntKind.i64.wrap ((s.size : Int) + 1) = (s.size : Int) + 1 := wrap_in (by omega) (by omega)
  have w2 : IntKind.i64.wrap ((N : Int) - 1) = (N : Int) - 1 := wrap_in (by omega) (by omega)
  go_enter Tryz.func58, Tryz.ntmps58
  go_wp2
  clear hmk
  go_loopw [0, 10] (fun vr vi wr => ∃ (done : List ByteArray) (rest : ByteArray), vr = .string rest ∧ vi = .int .i64 (done.length : Int) ∧ done.length ≤ N - 1 ∧ rest.size ≤ s.size ∧ Hid (∀ p ∈ done, p.size ≤ s.size) ∧ Hid (done.map nums ++ ptsI (N - 1 - done.length) (nums rest) = ptsI (N - 1) (nums s)) ∧ Hid (Tb wr w.heap.size N done) ∧ Below w.heap.size w wr) (fun _ i _ => N - 1 - (intOf i).toNat)
  case atStart => exact ⟨[], s, rfl, rfl, Nat.zero_le _, Nat.le_refl _, fun p hp => by simp at hp, rfl, Tb.made w N, Below.one w _⟩
  case round =>
    obtain ⟨done, rest, rfl, rfl, hd, hr, HS, HP, HT, hb⟩ := hrel
    have k2 := (unhide HT).next (by omega)
    have fr2 := (unhide HT).free done.length
    have HT3 := hide (fun x => (unhide HT).put (by omega) x)
    have z0 : (0 : Int) ≤ (done.length : Int) := by omega
    have z1 : (done.length : Int) < (N : Int) := by omega
    have z2 : IntKind.i64.wrap ((done.length : Int) + 1) = (done.length : Int) + 1 := wrap_in (by omega) (by omega)
    have fin : Hid (ptsI (N - 1 - done.length) (nums rest) = [nums rest] → (done ++ [rest]).map nums = ptsI (N - 1) (nums s) ∧ (∀ p ∈ done ++ [rest], p.size ≤ s.size)) := fun h => by
      refine ⟨?_, fun p hp => ?_⟩
      · have := unhide HP
        rw [h] at this
        rw [← this]
        simp
      · rcases List.mem_append.1 hp with h1 | h1
        · exact unhide HS p h1
        · rw [List.mem_singleton.1 h1]; exact hr
    by_cases hlt : done.length < N - 1
    · have hlz : (done.length : Int) < (N : Int) - 1 := by omega
      rcases ix_cut rest with ⟨hix, hcut⟩ | ⟨i, hix, hi, hcut⟩
      · have CI := unhide HI rest wr
        rw [hix] at CI
        have FN := hide (unhide fin (ptsI_miss _ _ hcut))
        clear fin hix hcut HP HS
        go_wp2_with (go_at_call 92; refine CI.mono ?_; rintro e w3 ⟨rfl, rfl⟩)
        go_ret
        refine ⟨done ++ [rest], (unhide FN).1, (unhide FN).2, ?_, unhide HT3 rest, hb.setCell (Nat.le_refl _) _⟩
        rw [List.length_append]
        rfl
      · have CI := unhide HI rest wr
        rw [hix] at CI
        have HP2 : Hid ((done ++ [rest.extract 0 i]).map nums ++ ptsI (N - 1 - (done.length + 1)) (nums (rest.extract (i + 1) rest.size)) = ptsI (N - 1) (nums s)) := by
          show _ = _
          rw [← unhide HP, show N - 1 - done.length = (N - 1 - (done.length + 1)) + 1 by omega, ptsI_hit _ _ _ _ hcut]
          simp
        have hsz1 : (rest.extract 0 i).size ≤ s.size := by rw [ByteArray.size_extract]; omega
        have HS2 : Hid (∀ p ∈ done ++ [rest.extract 0 i], p.size ≤ s.size) := fun p hp => by
          rcases List.mem_append.1 hp with h1 | h1
          · exact unhide HS p h1
          · rw [List.mem_singleton.1 h1]; exact hsz1
        have hsz2 : (rest.extract (i + 1) rest.size).size ≤ s.size := by rw [ByteArray.size_extract]; omega
        clear fin hix hcut HP HS
        have c0 : ¬ ((i : Int) < 0) := by omega
        have c1 : (0 : Int) ≤ (i : Int) := by omega
        have c2 : (i : Int) ≤ (rest.size : Int) := by omega
        have c3 : (0 : Int) ≤ (i : Int) + 1 := by omega
        have c4 : (i : Int) + 1 ≤ (rest.size : Int) := by omega
        have w3 : IntKind.i64.wrap ((i : Int) + 1) = (i : Int) + 1 := wrap_in (by omega) (by omega)
        go_wp2_with (go_at_call 92; refine CI.mono ?_; rintro e w4 ⟨rfl, rfl⟩)
        go_roundw
        case rel => exact ⟨done ++ [rest.extract 0 i], rest.extract (i + 1) rest.size, rfl, by simp, by simp; omega, hsz2, HS2, by show _ = _; rw [List.length_append]; exact unhide HP2, unhide HT3 _, hb.setCell (Nat.le_refl _) _⟩
        case measure => simp [intOf]; omega
    · have hlz : ¬ (done.length : Int) < (N : Int) - 1 := by omega
      have FN := hide (unhide fin (by rw [show N - 1 - done.length = 0 by omega]; rfl))
      clear fin HP HS
      go_wp2
      go_ret
      refine ⟨done ++ [rest], (unhide FN).1, (unhide FN).2, ?_, unhide HT3 rest, hb.setCell (Nat.le_refl _) _⟩
      rw [List.length_append]
      rfl
set_option maxHeartbeats 800000 in
theorem split_any (s : ByteArray) (w : World) (hs : s.size ≤ 281474976710656) :
    Calls Tryz.prog 32 #[.string s, .string ⟨#[46]⟩, .int .i64 13] w fun e w' => ∃ ps : List ByteArray, ps.map nums = ptsI (few s.size - 1) (nums s) ∧ (∀ p ∈ ps, p.size ≤ s.size) ∧ e = .returned (.slice (some ⟨w.heap.size, 0, none⟩) ps.length (few s.size)) ∧ Tb w' w.heap.size (few s.size) ps ∧ Below w.heap.size w w' := by
  have H := split_gen s w hs
  generalize few s.size = N at *
  go_enter Tryz.func32, Tryz.ntmps32
  go_wp2_with (go_at_call 58; refine H.mono ?_; rintro e w1 ⟨ps, h1, h2, rfl, h3, h4⟩)
  go_ret
  exact ⟨ps, h1, h2, rfl, h3, h4⟩
end Go.Proofs.YtpaenieafkmmeaaGreatDoor.S17
/- The landed Parse of layer 17. -/
namespace Go.Proofs.YtpaenieafkmmeaaGreatDoor.S17
set_option maxRecDepth 100000
open Go.RowKit

theorem getD_at (ps : List ByteArray) (k : Nat) (h : k < ps.length) : ps[k]? = some (ps.getD k ⟨#[]⟩) := by simp [List.getD, h]
theorem getD_mem (ps : List ByteArray) (k : Nat) (h : k < ps.length) : ps.getD k ⟨#[]⟩ ∈ ps := by simp [List.getD, h]
theorem read_on {ps : List ByteArray} {q : List Int} {k : Nat} {x : Int} (hq : q.length = k) (h : ∀ j, j < k → atoP (ps.getD j ⟨#[]⟩) = some (q.getD j 0)) (hx : atoP (ps.getD k ⟨#[]⟩) = some x) : ∀ j, j < k + 1 → atoP (ps.getD j ⟨#[]⟩) = some ((q ++ [x]).getD j 0) := fun j hj => by
  by_cases e : j = k
  · subst e
    rw [hx, ← hq]
    simp [List.getD]
  · rw [h j (by omega)]
    have : j < q.length := by omega
    simp [List.getD, List.getElem?_append_left this]
set_option maxHeartbeats 6400000 in
theorem oparse_w (s : ByteArray) (w : World) (hL : Ly w) (hs : s.size ≤ 281474976710656) :
    Calls Tryz.prog 21 #[.string s] w fun e w' => ∃ v, e = .returned (.tuple #[v, .int .i64 (parE (nums s))]) ∧ Rn w.heap.size v (parO (nums s)) w' ∧ Below w.heap.size w w' := by
  obtain ⟨i0, hi, hz0, hz1, hz2⟩ := info_parts elem_info
  have HSP := hide (split_any s w hs)
  go_enter Tryz.func21, Tryz.ntmps21
  go_wp2_with (go_at_call 32; refine (unhide HSP).mono ?_; rintro e w1 ⟨ps, p1, p2, rfl, p3, b1⟩; have P1 := hide p1; have P2 := hide p2; have P3 := hide p3; clear p1 p2 p3 HSP)
  have hpl : ps.length ≤ 13 := by
    have h := congrArg List.length (unhide P1)
    have h2 := ptsI_len (few s.size - 1) (nums s)
    have h3 := few_pos s.size
    rw [List.length_map] at h
    omega
  have hb1 := b1.size
  go_loopw [4, 14] (fun v i wr => ∃ (k : Nat) (q : List Int), k ≤ ps.length ∧ i = .int .i64 (k : Int) ∧ q.length = k ∧ Hid (∀ j, j < k → atoP (ps.getD j ⟨#[]⟩) = some (q.getD j 0)) ∧ Hid (Rn w1.heap.size v q wr) ∧ Below w1.heap.size w1 wr) (fun _ i _ => ps.length - (intOf i).toNat)
  case atStart => exact ⟨0, [], Nat.zero_le _, rfl, rfl, fun j hj => absurd hj (Nat.not_lt_zero _), Rn.nil _ _, Below.refl _ _⟩
  case round =>
    obtain ⟨k, q, hk, rfl, hq, HQ, HO, hb⟩ := hrel
    have hsz := hb.size
    obtain ⟨xa, xc, hv⟩ := (unhide HO).shape
    rw [hq] at hv
    have HN := hide hq.symm
    subst hv
    have hbw := b1.trans (hb.mono hb1)
    have hLr := hide (hL.keep hbw)
    clear hq
    by_cases hlt : k < ps.length
    · have hzl : (k : Int) < (ps.length : Int) := by omega
      have hz0' : (0 : Int) ≤ (k : Int) := by omega
      have g1 : wr.cell? ⟨w.heap.size, k, none⟩ = some (.string (ps.getD k ⟨#[]⟩)) := ((unhide P3).keep hb).at k _ (getD_at ps k hlt)
      have hps : (ps.getD k ⟨#[]⟩).size ≤ 281474976710656 := by have := unhide P2 _ (getD_mem ps k hlt); omega
      have hm1 : k + 1 ≤ maxLen := by unfold maxLen; omega
      have hm2 : (k + 1) * 8 ≤ 140737488355328 := by omega
      cases ha : atoP (ps.getD k ⟨#[]⟩) with
      | none =>
        have HE := hide (par_bad s ps (unhide P1) k hlt ha)
        have CA := hide (atoi_no _ wr (unhide hLr) hps ha)
        clear ha
        generalize ps.getD k ⟨#[]⟩ = p at *
        go_wp2_with (go_at_call 33; refine (unhide CA).mono ?_; rintro e w2 ⟨x2, t2, q2, rfl, b2⟩)
        go_ret2
        exact ⟨_, ret_ve (parE_none (unhide HE)).symm, by rw [unhide HE]; exact Rn.nil _ _, hbw.trans (b2.mono hbw.size)⟩
      | some x =>
        have HR := hide (read_on (unhide HN).symm (unhide HQ) ha)
        have CA := hide (atoi_yes _ x wr hps ha)
        clear ha
        generalize ps.getD k ⟨#[]⟩ = p at *
        go_wp2_with (first
          | (at_builtin; refine wpList_append_lies _ rfl _ _ 22 rfl w1.heap.size 3 i0 _ 1 8 Tryz.underlying22 hi hz0 hz1 hz2 rfl (by omega) _ k _ rfl (World.ownsRow.alloc (Rn.own (unhide HN) (unhide O2)) _) ⟨w2.heap.size, 0, none⟩ 1 1 [.int .i64 x] rfl rfl (World.news_of_block (cs := #[.int .i64 x]) (t := 3) (fr := (0, 0)) (heap_new w2 _)) (by simp [Value.oneCell']) (by omega) hm1 hm2 (by simp; omega) (w2.heap.size + 1) (by simp) ?_; intro g9 cap9 w9 hown9 hgrow9 hat9 hlt9)
          | (go_at_call 33; refine (unhide CA).mono ?_; rintro e w2 ⟨rfl, b2⟩; have O2 := hide ((unhide HO).below b2); have hs2 := b2.size))
        go_roundw
        case rel => exact ⟨k + 1, q ++ [x], by omega, by go_num, by rw [List.length_append, ← unhide HN]; rfl, unhide HR, Rn.push (unhide HN) hown9, ((hb.trans (b2.mono hsz)).alloc (by omega) _).trans (below_own hgrow9 (by simp; omega) (own_block (Rn.own (unhide HN) (unhide O2))))⟩
        case measure => simp [intOf]; omega
    · have hzl : ¬ (k : Int) < (ps.length : Int) := by omega
      obtain rfl : k = ps.length := by omega
      have HP := hide (par_all s ps q (unhide P1) (unhide HN).symm (fun j hj => unhide HQ j (by rw [← unhide HN] at hj; exact hj)))
      have HCMP : Hid (((strOfNums (showO q)).toList == s.toList) = decide (showO q = nums s)) := str_same _ (showO_bound _) s
      have HSH := hide (oshow_w _ q wr (unhide hLr) (by rw [← unhide HN]; omega) (unhide HO).row)
      cases ho : okO q
      · have HE : Hid (parO (nums s) = []) := by show _ = _; rw [unhide HP, ho]; rfl
        rw [show shS q = strOfNums [] by unfold shS; rw [ho]; rfl, chk_no ho] at HSH
        clear HP HCMP ho
        go_wp2_with (go_at_call 34; refine (unhide HSH).mono ?_; rintro e w5 ⟨rfl, hb5⟩)
        go_ret2
        exact ⟨_, ret_ve (parE_none (unhide HE)).symm, by rw [unhide HE]; exact Rn.nil _ _, hbw.trans (hb5.mono hbw.size)⟩
      · rw [show shS q = strOfNums (showO q) by unfold shS; rw [ho]; rfl, chk_yes ho] at HSH
        by_cases hS : showO q = nums s
        · have HE : Hid (parO (nums s) = q) := by show _ = _; rw [unhide HP, if_pos ⟨ho, hS⟩]
          have hcmp : ((strOfNums (showO q)).toList == s.toList) = true := by rw [unhide HCMP, decide_eq_true hS]
          have HNE : Hid (q ≠ []) := fun e => by have := okO_len ho; rw [e] at this; simp at this
          clear HP HCMP ho hS
          go_wp2_with (go_at_call 34; refine (unhide HSH).mono ?_; rintro e w5 ⟨rfl, hb5⟩)
          go_ret2
          exact ⟨_, ret_ve (parE_some (by rw [unhide HE]; exact unhide HNE)).symm, by rw [unhide HE]; exact ((unhide HO).below hb5).base hb1, hbw.trans (hb5.mono hbw.size)⟩
        · have HE : Hid (parO (nums s) = []) := by show _ = _; rw [unhide HP, if_neg (fun h => hS h.2)]
          have hcmp : ((strOfNums (showO q)).toList == s.toList) = false := by rw [unhide HCMP, decide_eq_false hS]
          clear HP HCMP ho hS
          go_wp2_with (go_at_call 34; refine (unhide HSH).mono ?_; rintro e w5 ⟨rfl, hb5⟩)
          go_ret2
          exact ⟨_, ret_ve (parE_none (unhide HE)).symm, by rw [unhide HE]; exact Rn.nil _ _, hbw.trans (hb5.mono hbw.size)⟩
end Go.Proofs.YtpaenieafkmmeaaGreatDoor.S17
