/- The document's all of layer 15, over its take. -/
import Derived.Test.YtlhkplhfofkbbaaHlp15
namespace Go.Proofs.Ytlhkplhfofkbbaa
open Go.RowKit

/-- take answers as it should, with k levels more. -/
def TakeOk (k : Nat) : Prop := ∀ (s : ByteArray) (i : Nat) (w : World), i ≤ s.size → s.size ≤ 10000 → Calls Try.prog 32 #[.string s, .int .i64 i, .int .i64 ((12 - k : Nat) : Int)] w fun r w' => ∃ v, r = .returned (.tuple #[v, .int .i64 (if (takeB k ((nums s).drop i)).2.2 = 0 then (i : Int) + ((takeB k ((nums s).drop i)).2.1 : Int) else 0), .int .i64 (takeB k ((nums s).drop i)).2.2]) ∧ ElP (In w.heap.size w') w' (takeB k ((nums s).drop i)).1 v ∧ Below w.heap.size w w'
set_option maxHeartbeats 3200000 in
theorem rall_of (k : Nat) (ht : TakeOk k) (s : ByteArray) (w : World) (hs : s.size ≤ 10000) : Calls Try.prog 35 #[.string s, .int .i64 ((12 - k : Nat) : Int)] w fun r w' => ∃ v, r = .returned (.tuple #[v, .int .i64 (allB k (nums s)).2]) ∧ EsP (In w.heap.size w') w' v (allB k (nums s)).1 ∧ Below w.heap.size w w' := by
  obtain ⟨i0, hi, hz0, hz1, hz2⟩ := info_parts el_info
  have HT := hide ht
  clear ht
  generalize hlv : ((12 - k : Nat) : Int) = lv
  have HLV := hide hlv
  clear hlv
  go_enter Try.func35, Try.ntmps35
  go_wp2
  go_loopw [6, 7] (fun vo va wr => ∃ (i : Nat) (l : List El), i ≤ s.size ∧ va = .int .i64 (i : Int) ∧ l.length ≤ i ∧ Hid (allB k (nums s) = comb l (allB k ((nums s).drop i))) ∧ Eo w.heap.size vo l wr ∧ Below w.heap.size w wr) (fun _ a _ => s.size - (intOf a).toNat)
  case atStart => exact ⟨0, [], Nat.zero_le _, rfl, Nat.le_refl _, (by show _ = _; rw [List.drop_zero, comb_nil]), Eo.nil _ _, Below.refl _ _⟩
  case round =>
    obtain ⟨i, l, hile, rfl, hl, HB, hE, hb⟩ := hrel
    have hsz := hb.size
    obtain ⟨xa, xc, hv⟩ := hE.shape
    obtain ⟨N, hN⟩ : ∃ N, N = l.length := ⟨_, rfl⟩
    rw [← hN] at hv hl
    have HN := hide hN
    clear hN
    subst hv
    by_cases hlt : i < s.size
    · have hzl : (i : Int) < (s.size : Int) := by omega
      have CT := unhide HT s i wr hile hs
      rw [unhide HLV] at CT
      have hne : (nums s).drop i ≠ [] := fun e => by
        have := congrArg List.length e
        rw [List.length_drop, nums_length, List.length_nil] at this
        omega
      have hbd : Byt ((nums s).drop i) := (byt_nums s).drop i
      obtain ⟨e, j, x, hr⟩ : ∃ e j x, takeB k ((nums s).drop i) = (e, j, x) := ⟨_, _, _, rfl⟩
      rw [hr] at CT
      simp only at CT
      by_cases hx : x = 0
      · subst hx
        rw [if_pos rfl] at CT
        obtain ⟨_, hjl, _⟩ := take_back k _ e j hbd hr
        rw [List.length_drop, nums_length] at hjl
        have hj0 := take_pos k _ e j hbd hr
        have HST : Hid (allB k (nums s) = comb (l ++ [e]) (allB k ((nums s).drop (i + j)))) := by
          show _ = _
          rw [unhide HB, allB_step hbd hne hr, comb_comb, List.drop_drop]
        clear hr hne hbd
        obtain ⟨cs, hown, hflat⟩ := hE
        rw [← unhide HN] at hown
        have hlt0 : ∀ g, (Value.slice xa N xc).ownBlock = some g → g < wr.heap.size := fun g hg => (hown.lt g hg).2
        have HO := hide hown
        have HF := hide hflat
        have HLT := hide hlt0
        clear hown hflat hlt0
        have hm1 : N + 1 ≤ maxLen := by unfold maxLen; omega
        have hm2 : (N + 1) * 64 ≤ 140737488355328 := by omega
        cases e with
        | mk c m n t els =>
          have ex : ∀ (v : Value) (w1 : World), ElP (In wr.heap.size w1) w1 (.mk c m n t els) v → ∃ ad cap, v = .agg #[.int .i64 c, .bool m, .int .i64 n, .string t, .slice ad els.length cap] := fun v w1 h => by
            simp only [ElP] at h
            obtain ⟨ad, cap, hv, _⟩ := h
            exact ⟨ad, cap, hv⟩
          have EX := hide ex
          clear ex
          go_wp2_with (first
            | (at_builtin; refine wpList_append_lies _ rfl _ _ 22 rfl w.heap.size 26 i0 _ 5 64 Try.underlying22 hi hz0 hz1 hz2 rfl (by omega) _ N _ rfl (World.ownsRow.alloc (World.ownsRow.alloc (unhide O1) _) _) ⟨w1.heap.size + 1, 0, none⟩ 1 1 [.int .i64 c, .bool m, .int .i64 n, .string t, .slice ad1 els.length cap1] rfl rfl (World.news_of_block (cs := #[.int .i64 c, .bool m, .int .i64 n, .string t, .slice ad1 els.length cap1]) (t := 26) (fr := (0, 0)) (by have := heap_new (w1.alloc (.cells #[.int .i64 c, .bool m, .int .i64 n, .string t, .slice ad1 els.length cap1] 26)) (.cells #[.int .i64 c, .bool m, .int .i64 n, .string t, .slice ad1 els.length cap1] 26); simpa using this)) (by simp [Value.oneCell']) (by omega) hm1 hm2 (by simp; omega) (w1.heap.size + 1 + 1) (by simp) ?_; intro g9 cap9 w9 hown9 hgrow9 hat9 hlt9)
            | (go_at_call 32; refine CT.mono ?_; rintro r w1 ⟨v1, rfl, p1, b1⟩; obtain ⟨ad1, cap1, rfl⟩ := unhide EX _ _ p1; have s1 := b1.size; have O1 := hide (own_below (unhide HO) b1)))
          go_roundw
          case rel =>
            have bb : Below w1.heap.size w1 ((w1.alloc (.cells #[.int .i64 c, .bool m, .int .i64 n, .string t, .slice ad1 els.length cap1] 26)).alloc (.cells #[.int .i64 c, .bool m, .int .i64 n, .string t, .slice ad1 els.length cap1] 26)) := ((Gr.one w1 _).alloc _).below
            have b13 := b1.trans (bb.mono s1)
            have hs3 : ((w1.alloc (.cells #[.int .i64 c, .bool m, .int .i64 n, .string t, .slice ad1 els.length cap1] 26)).alloc (.cells #[.int .i64 c, .bool m, .int .i64 n, .string t, .slice ad1 els.length cap1] 26)).heap.size = w1.heap.size + 1 + 1 := by simp
            refine ⟨i + j, l ++ [.mk c m n t els], by omega, by go_num, by rw [List.length_append, ← unhide HN]; simp; omega, HST, ?_, ?_⟩
            · refine Eo.push (unhide HN) (w := (w1.alloc (.cells #[.int .i64 c, .bool m, .int .i64 n, .string t, .slice ad1 els.length cap1] 26)).alloc (.cells #[.int .i64 c, .bool m, .int .i64 n, .string t, .slice ad1 els.length cap1] 26)) ?_ ?_ hown9 hgrow9 hat9 hs3
              · exact Flat.kept (fun g hg => ⟨hg.1, by rw [hs3]; omega, hg.2.2⟩) (fun _ _ _ _ hc => (b13.cell (cell_lt hc)).trans hc) _ _ (unhide HF)
              · refine p1.below bb fun g hg => ⟨by have := hg.1; omega, by rw [hs3]; have := hg.2; omega, fun e => ?_⟩
                have h5 := unhide HLT g e.symm
                have h6 := hg.1
                omega
            · exact (hb.trans (b13.mono hsz)).trans (below_own hgrow9 (by rw [hs3]; omega) (own_block (unhide HO)))
          case measure => simp [intOf]; omega
      · have HX : Hid (allB k (nums s) = ([], x)) := by
          show _ = _
          rw [unhide HB, allB_err hne (by rw [hr]) hx]
          unfold comb
          rw [if_neg hx]
        have zx : (x == 0) = false := by simpa using hx
        rw [if_neg hx] at CT
        have ex : ∀ (v : Value) (w1 : World), ElP (In wr.heap.size w1) w1 e v → ∃ a0 a1 a2 a3 ad cap, v = .agg #[.int .i64 a0, .bool a1, .int .i64 a2, .string a3, .slice ad e.els.length cap] := fun v w1 h => by
          obtain ⟨ad, cap, hv, _⟩ := (ElP.toV e v h).open
          exact ⟨_, _, _, _, ad, cap, hv⟩
        have EX := hide ex
        clear ex hr hne hbd
        go_wp2_with (go_at_call 32; refine CT.mono ?_; rintro r w1 ⟨v1, rfl, p1, b1⟩; obtain ⟨a0, a1, a2, a3, ad1, cap1, rfl⟩ := unhide EX _ _ p1)
        go_ret2
        refine ⟨_, ret_ve (by rw [unhide HX]), (by rw [unhide HX]; exact EsP.nil _ _), (hb.trans (b1.mono hsz)).trans ((Gr.one w1 _).below.mono (by have := b1.size; omega))⟩
    · have hzl : ¬ (i : Int) < (s.size : Int) := by omega
      have HX : Hid (allB k (nums s) = (l, 0)) := by
        show _ = _
        rw [unhide HB, List.drop_eq_nil_of_le (by rw [nums_length]; omega), allB_nil]
        unfold comb
        simp
      have HE := hide hE
      clear hE
      go_wp2
      go_ret2
      exact ⟨_, ret_ve (by rw [unhide HX]), (by rw [unhide HX]; exact (unhide HE).es (by rw [← unhide HN]; omega)), hb⟩
end Go.Proofs.Ytlhkplhfofkbbaa
