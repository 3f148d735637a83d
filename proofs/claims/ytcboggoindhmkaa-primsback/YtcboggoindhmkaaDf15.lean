/- The program's takeAll, take, Decode, All of layer 15. -/
import Derived.Test.YtcboggoindhmkaaDe15
namespace Go.Proofs.Ytcboggoindhmkaa
open Go.RowKit

/-- How long a text is. -/
def szV : Value → Nat
  | .string s => s.size
  | _ => 0
/-- take answers as it should, with k levels more. -/
def PTakeOk (k : Nat) : Prop := ∀ (s : ByteArray) (w : World), s.size ≤ 10000 → Calls Try.prog 38 #[.string s, .int .i64 ((12 - k : Nat) : Int)] w fun r w' => ∃ v, r = .returned (.tuple #[v, .int .i64 ((takeB k (nums s)).2.1 : Int), .int .i64 (takeB k (nums s)).2.2]) ∧ ElP (In w.heap.size w') w' (takeB k (nums s)).1 v ∧ Below w.heap.size w w'
set_option maxHeartbeats 3200000 in
theorem pall_of (k : Nat) (ht : PTakeOk k) (s : ByteArray) (w : World) (hs : s.size ≤ 10000) : Calls Try.prog 49 #[.string s, .int .i64 ((12 - k : Nat) : Int)] w fun r w' => ∃ v, r = .returned (.tuple #[v, .int .i64 (allB k (nums s)).2]) ∧ EsP (In w.heap.size w') w' v (allB k (nums s)).1 ∧ Below w.heap.size w w' := by
  obtain ⟨i0, hi, hz0, hz1, hz2⟩ := info_parts el_info
  have HT := hide ht
  clear ht
  generalize hlv : ((12 - k : Nat) : Int) = lv
  have HLV := hide hlv
  clear hlv
  go_enter Try.func49, Try.ntmps49
  go_wp2
  go_loopw [0, 6] (fun vs vo wr => ∃ (u : ByteArray) (l : List El), vs = .string u ∧ l.length + u.size ≤ s.size ∧ Hid (allB k (nums s) = comb l (allB k (nums u))) ∧ Eo w.heap.size vo l wr ∧ Below w.heap.size w wr) (fun v _ _ => szV v)
  case atStart => exact ⟨s, [], rfl, (by simp), (by show _ = _; rw [comb_nil]), Eo.nil _ _, Below.refl _ _⟩
  case round =>
    obtain ⟨u, l, rfl, hl, HB, hE, hb⟩ := hrel
    have hsz := hb.size
    obtain ⟨xa, xc, hv⟩ := hE.shape
    obtain ⟨N, hN⟩ : ∃ N, N = l.length := ⟨_, rfl⟩
    rw [← hN] at hv hl
    have HN := hide hN
    clear hN
    subst hv
    by_cases hlt : 0 < u.size
    · have e1 := toList_some hlt
      have CT := unhide HT u wr (by omega)
      rw [unhide HLV] at CT
      have hne : nums u ≠ [] := fun e => by
        have := congrArg List.length e
        rw [nums_length, List.length_nil] at this
        omega
      have hbd : Byt (nums u) := byt_nums u
      obtain ⟨e, j, x, hr⟩ : ∃ e j x, takeB k (nums u) = (e, j, x) := ⟨_, _, _, rfl⟩
      rw [hr] at CT
      simp only at CT
      by_cases hx : x = 0
      · subst hx
        obtain ⟨_, hjl, _⟩ := take_back k _ e j hbd hr
        rw [nums_length] at hjl
        have hj0 := take_pos k _ e j hbd hr
        have HST : Hid (allB k (nums s) = comb (l ++ [e]) (allB k (nums (u.extract j u.size)))) := by
          show _ = _
          rw [unhide HB, allB_step hbd hne hr, comb_comb, nums_drop]
        have hus : (u.extract j u.size).size = u.size - j := by rw [ByteArray.size_extract]; omega
        have HUS := hide hus
        clear hr hne hbd hus
        obtain ⟨cs, hown, hflat⟩ := hE
        rw [← unhide HN] at hown
        have hlt0 : ∀ g, (Value.slice xa N xc).ownBlock = some g → g < wr.heap.size := fun g hg => (hown.lt g hg).2
        have HO := hide hown
        have HF := hide hflat
        have HLT := hide hlt0
        clear hown hflat hlt0
        have hm1 : N + 1 ≤ maxLen := by unfold maxLen; omega
        have hm2 : (N + 1) * 64 ≤ 140737488355328 := by omega
        have j1 : (0 : Int) ≤ (j : Int) := by omega
        have j2 : (j : Int) ≤ (u.size : Int) := by omega
        cases e with
        | mk c m n t els =>
          have ex : ∀ (v : Value) (w1 : World), ElP (In wr.heap.size w1) w1 (.mk c m n t els) v → ∃ ad cap, v = .agg #[.int .i64 c, .bool m, .int .i64 n, .string t, .slice ad els.length cap] := fun v w1 h => by
            simp only [ElP] at h
            obtain ⟨ad, cap, hv, _⟩ := h
            exact ⟨ad, cap, hv⟩
          have EX := hide ex
          clear ex
          go_wp2_with (first
            | (at_builtin; refine wpList_append_lies _ rfl _ _ 24 rfl w.heap.size 26 i0 _ 5 64 Try.underlying24 hi hz0 hz1 hz2 rfl (by omega) _ N _ rfl (World.ownsRow.alloc (World.ownsRow.alloc (unhide O1) _) _) ⟨w1.heap.size + 1, 0, none⟩ 1 1 [.int .i64 c, .bool m, .int .i64 n, .string t, .slice ad1 els.length cap1] rfl rfl (World.news_of_block (cs := #[.int .i64 c, .bool m, .int .i64 n, .string t, .slice ad1 els.length cap1]) (t := 26) (fr := (0, 0)) (by have := heap_new (w1.alloc (.cells #[.int .i64 c, .bool m, .int .i64 n, .string t, .slice ad1 els.length cap1] 26)) (.cells #[.int .i64 c, .bool m, .int .i64 n, .string t, .slice ad1 els.length cap1] 26); simpa using this)) (by simp [Value.oneCell']) (by omega) hm1 hm2 (by simp; omega) (w1.heap.size + 1 + 1) (by simp) ?_; intro g9 cap9 w9 hown9 hgrow9 hat9 hlt9)
            | (go_at_call 38; refine CT.mono ?_; rintro r w1 ⟨v1, rfl, p1, b1⟩; obtain ⟨ad1, cap1, rfl⟩ := unhide EX _ _ p1; have s1 := b1.size; have O1 := hide (own_below (unhide HO) b1)))
          go_roundw
          case rel =>
            have bb : Below w1.heap.size w1 ((w1.alloc (.cells #[.int .i64 c, .bool m, .int .i64 n, .string t, .slice ad1 els.length cap1] 26)).alloc (.cells #[.int .i64 c, .bool m, .int .i64 n, .string t, .slice ad1 els.length cap1] 26)) := ((Gr.one w1 _).alloc _).below
            have b13 := b1.trans (bb.mono s1)
            have hs3 : ((w1.alloc (.cells #[.int .i64 c, .bool m, .int .i64 n, .string t, .slice ad1 els.length cap1] 26)).alloc (.cells #[.int .i64 c, .bool m, .int .i64 n, .string t, .slice ad1 els.length cap1] 26)).heap.size = w1.heap.size + 1 + 1 := by simp
            have hus := unhide HUS
            refine ⟨u.extract j u.size, l ++ [.mk c m n t els], rfl, by rw [List.length_append, ← unhide HN]; simp only [List.length_cons, List.length_nil]; omega, HST, ?_, ?_⟩
            · refine Eo.push (unhide HN) (w := (w1.alloc (.cells #[.int .i64 c, .bool m, .int .i64 n, .string t, .slice ad1 els.length cap1] 26)).alloc (.cells #[.int .i64 c, .bool m, .int .i64 n, .string t, .slice ad1 els.length cap1] 26)) ?_ ?_ hown9 hgrow9 hat9 hs3
              · exact Flat.kept (fun g hg => ⟨hg.1, by rw [hs3]; omega, hg.2.2⟩) (fun _ _ _ _ hc => (b13.cell (cell_lt hc)).trans hc) _ _ (unhide HF)
              · refine p1.below bb fun g hg => ⟨by have := hg.1; omega, by rw [hs3]; have := hg.2; omega, fun e => ?_⟩
                have h5 := unhide HLT g e.symm
                have h6 := hg.1
                omega
            · exact (hb.trans (b13.mono hsz)).trans (below_own hgrow9 (by rw [hs3]; omega) (own_block (unhide HO)))
          case measure => show (u.extract j u.size).size < u.size; have hus := unhide HUS; omega
      · have HX : Hid (allB k (nums s) = ([], x)) := by
          show _ = _
          rw [unhide HB, allB_err hne (by rw [hr]) hx]
          unfold comb
          rw [if_neg hx]
        have zx : (x == 0) = false := by simpa using hx
        have ex : ∀ (v : Value) (w1 : World), ElP (In wr.heap.size w1) w1 e v → ∃ a0 a1 a2 a3 ad cap, v = .agg #[.int .i64 a0, .bool a1, .int .i64 a2, .string a3, .slice ad e.els.length cap] := fun v w1 h => by
          obtain ⟨ad, cap, hv, _⟩ := (ElP.toV e v h).open
          exact ⟨_, _, _, _, ad, cap, hv⟩
        have EX := hide ex
        clear ex hr hne hbd
        go_wp2_with (go_at_call 38; refine CT.mono ?_; rintro r w1 ⟨v1, rfl, p1, b1⟩; obtain ⟨a0, a1, a2, a3, ad1, cap1, rfl⟩ := unhide EX _ _ p1)
        go_ret2
        refine ⟨_, ret_ve (by rw [unhide HX]), (by rw [unhide HX]; exact EsP.nil _ _), (hb.trans (b1.mono hsz)).trans ((Gr.one w1 _).below.mono (by have := b1.size; omega))⟩
    · have e1 := toList_none (show u.size = 0 by omega)
      have HX : Hid (allB k (nums s) = (l, 0)) := by
        show _ = _
        rw [unhide HB, List.eq_nil_of_length_eq_zero (show (nums u).length = 0 by rw [nums_length]; omega), allB_nil]
        unfold comb
        simp
      have HE := hide hE
      clear hE
      go_wp2
      go_ret2
      exact ⟨_, ret_ve (by rw [unhide HX]), (by rw [unhide HX]; exact (unhide HE).es (by rw [← unhide HN]; omega)), hb⟩
set_option maxHeartbeats 1600000 in
theorem pall_empty (s : ByteArray) (lv : Int) (w : World) (hs : s.size = 0) : Calls Try.prog 49 #[.string s, .int .i64 lv] w fun r w' => ∃ v, r = .returned (.tuple #[v, .int .i64 0]) ∧ EsP (In w.heap.size w') w' v [] ∧ Below w.heap.size w w' := by
  have e1 := toList_none hs
  go_enter Try.func49, Try.ntmps49
  go_wp2
  refine wp_loop_rounds 1 ?_
  rw [rounds_succ]
  go_wp2
  go_ret2
  exact ⟨_, rfl, EsP.nil _ _, Below.refl _ _⟩
/-- take at a level, over what it asks of takeAll. -/
theorem ptake_ok_of (k : Nat) (hk : k ≤ 11) (hin : ∀ (b : ByteArray) (W : World), b.size ≤ 10000 → (¬ k = 0 ∨ b.size = 0) → Calls Try.prog 49 #[.string b, .int .i64 (((12 - k : Nat) : Int) + 1)] W fun r w' => ∃ v, r = .returned (.tuple #[v, .int .i64 (inn k (nums b)).2]) ∧ EsP (In W.heap.size w') w' v (inn k (nums b)).1 ∧ Below W.heap.size W w') : PTakeOk k := by
  intro s w hs
  have hb : Byt (nums s) := byt_nums s
  have hlen : (nums s).length = s.size := nums_length s
  by_cases h0 : s.size = 0
  · have e : takeB k (nums s) = (el0, 0, 150) := by
      rw [takeB_of, List.eq_nil_of_length_eq_zero (show (nums s).length = 0 by omega)]
      rfl
    rw [e]
    exact ptake_nil s _ w h0
  by_cases ht : (nums s).getD 0 0 % 32 = 31
  · have eh : headB (nums s) = (0, 0, 151) := by unfold headB; rw [if_neg (by omega), if_pos ht]
    have e : takeB k (nums s) = (el0, 0, 151) := by rw [takeB_of]; unfold takeH; rw [eh, if_pos (by simp)]
    rw [e]
    exact ptake_tag s _ w (by omega) ht
  have hh := head_len (nums s) (by omega) ht
  obtain ⟨b1, b2, b3, b4⟩ := head_le (nums s) hb
  obtain ⟨n, kk, x, hL⟩ : ∃ n kk x, lenB ((nums s).drop 1) = (n, kk, x) := ⟨_, _, _, rfl⟩
  rw [hL] at hh
  simp only at hh
  have hln : (0 ≤ n ∧ n ≤ 70000) ∧ 0 ≤ kk ∧ kk ≤ 3 := by
    have c0 := getD_nums s 1
    have c1 := getD_nums s 2
    have c2 := getD_nums s 3
    have hL2 := hL
    unfold lenB at hL2
    rw [getD_drop, getD_drop, getD_drop] at hL2
    simp only [Nat.add_zero, Nat.reduceAdd] at hL2
    repeat' split at hL2
    all_goals (cases hL2; omega)
  by_cases hx : x = 0
  · subst hx
    rw [if_pos rfl] at hh
    by_cases h2 : (s.size : Int) < 1 + kk + n
    · have e : takeB k (nums s) = (el0, 0, 150) := by
        rw [takeB_of]; unfold takeH
        rw [hh, if_neg (by simp), if_pos (by rw [hlen]; simp only; omega)]
      rw [e]
      exact ptake_out s _ w (by omega) hs ht n kk 0 150 hL hln.1 hln.2 (.inr (.inl ⟨rfl, h2, rfl⟩))
    by_cases h3 : 4000 < 1 + kk + n
    · have e : takeB k (nums s) = (el0, 0, 3) := by
        rw [takeB_of]; unfold takeH
        rw [hh, if_neg (by simp), if_neg (by rw [hlen]; simp only; omega), if_pos h3]
      rw [e]
      exact ptake_out s _ w (by omega) hs ht n kk 0 3 hL hln.1 hln.2 (.inr (.inr ⟨rfl, h2, h3, rfl⟩))
    obtain ⟨kn, rfl⟩ : ∃ q : Nat, kk = q := ⟨kk.toNat, by omega⟩
    obtain ⟨nn, rfl⟩ : ∃ q : Nat, n = q := ⟨n.toNat, by omega⟩
    obtain ⟨t, htt⟩ : ∃ t, (nums s).getD 0 0 = t := ⟨_, rfl⟩
    rw [htt] at ht
    have q2 : 1 + kn + nn ≤ s.size := by omega
    have q3 : 1 + kn + nn ≤ 4000 := by omega
    have hbody : ((nums s).drop (1 + (kn : Int)).toNat).take ((nn : Int)).toNat = nums (s.extract (1 + kn) (1 + kn + nn)) := by
      rw [nums_sub, show (1 + (kn : Int)).toNat = 1 + kn by omega, show ((nn : Int)).toNat = nn from rfl, show 1 + kn + nn - (1 + kn) = nn by omega]
    have hbs : (s.extract (1 + kn) (1 + kn + nn)).size = nn := by rw [ByteArray.size_extract]; omega
    have et : takeB k (nums s) = if t / 32 % 2 = 1 then (if (inn k (nums (s.extract (1 + kn) (1 + kn + nn)))).2 ≠ 0 then (el0, 0, (inn k (nums (s.extract (1 + kn) (1 + kn + nn)))).2) else (.mk (t / 64) true (t % 32) ⟨#[]⟩ (inn k (nums (s.extract (1 + kn) (1 + kn + nn)))).1, 1 + kn + nn, 0)) else (.mk (t / 64) false (t % 32) (s.extract (1 + kn) (1 + kn + nn)) [], 1 + kn + nn, 0) := by
      rw [takeB_of]; unfold takeH
      rw [hh]
      simp only
      rw [if_neg (by simp), if_neg (by rw [hlen]; omega), if_neg h3, hbody, htt, strOfNums_nums, show (1 + (kn : Int) + (nn : Int)).toNat = 1 + kn + nn by omega]
    by_cases h4 : t / 32 % 2 = 1
    · rw [if_pos h4] at et
      by_cases hz : k = 0 ∧ 0 < nn
      · have e2 : inn k (nums (s.extract (1 + kn) (1 + kn + nn))) = ([], 153) := by
          rw [hz.1]
          show (if nums (s.extract (1 + kn) (1 + kn + nn)) = [] then ([], 0) else ([], 153)) = (([], 153) : List El × Int)
          rw [if_neg (fun h0 => by have := congrArg List.length h0; rw [nums_length, hbs] at this; simp at this; omega)]
        have e3 : takeB k (nums s) = (el0, 0, 153) := by rw [et, e2]; rfl
        rw [e3]
        exact ptake_in s kn nn ((12 - k : Nat) : Int) w hs t htt ht hL q2 q3 (by omega) (by omega) true (decide_eq_true h4) 0 [] 0 153 el0 (.inr ⟨rfl, .inl ⟨by rw [hz.1]; rfl, hz.2, rfl, rfl, rfl⟩⟩)
      · have HC := fun W => hin (s.extract (1 + kn) (1 + kn + nn)) W (by rw [hbs]; omega) (by rw [hbs]; omega)
        generalize inn k (nums (s.extract (1 + kn) (1 + kn + nn))) = R at *
        obtain ⟨l, y⟩ := R
        simp only at HC et
        by_cases hy : y = 0
        · subst hy
          have e3 : takeB k (nums s) = (.mk (t / 64) true (t % 32) ⟨#[]⟩ l, 1 + kn + nn, 0) := by rw [et]; rfl
          rw [e3]
          exact ptake_in s kn nn ((12 - k : Nat) : Int) w hs t htt ht hL q2 q3 (by omega) (by omega) true (decide_eq_true h4) 0 l _ 0 _ (.inr ⟨rfl, .inr ⟨by omega, HC, .inr ⟨rfl, rfl, rfl, rfl⟩⟩⟩)
        · have e3 : takeB k (nums s) = (el0, 0, y) := by rw [et]; exact if_pos hy
          rw [e3]
          exact ptake_in s kn nn ((12 - k : Nat) : Int) w hs t htt ht hL q2 q3 (by omega) (by omega) true (decide_eq_true h4) y l 0 y el0 (.inr ⟨rfl, .inr ⟨by omega, HC, .inl ⟨hy, rfl, rfl, rfl⟩⟩⟩)
    · rw [if_neg h4] at et
      rw [et]
      exact ptake_in s kn nn ((12 - k : Nat) : Int) w hs t htt ht hL q2 q3 (by omega) (by omega) false (decide_eq_false h4) 0 [] _ 0 _ (.inl ⟨rfl, rfl, rfl, rfl⟩)
  · rw [if_neg hx] at hh
    have e : takeB k (nums s) = (el0, 0, x) := by
      rw [takeB_of]; unfold takeH
      rw [hh, if_pos hx]
    rw [e]
    exact ptake_out s _ w (by omega) hs ht n kk x x hL hln.1 hln.2 (.inl ⟨hx, rfl⟩)
theorem ptake_ok : ∀ k, k ≤ 11 → PTakeOk k
  | 0, hk => ptake_ok_of 0 hk fun b W _ h0 => by
    have hz : b.size = 0 := h0.resolve_left (fun h => h rfl)
    have hn : nums b = [] := List.eq_nil_of_length_eq_zero (by rw [nums_length, hz])
    have e : inn 0 (nums b) = ([], 0) := by rw [hn]; rfl
    rw [e]
    exact pall_empty b _ W hz
  | k + 1, hk => ptake_ok_of (k + 1) hk fun b W hb _ => by
    have h := pall_of k (ptake_ok k (by omega)) b W hb
    have e : inn (k + 1) (nums b) = allB k (nums b) := rfl
    rw [e, show (((12 - (k + 1) : Nat) : Int) + 1) = ((12 - k : Nat) : Int) by omega]
    exact h
end Go.Proofs.Ytcboggoindhmkaa
