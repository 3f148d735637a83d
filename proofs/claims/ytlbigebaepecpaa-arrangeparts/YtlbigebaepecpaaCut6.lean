/- A run that stands well stays; a row is copied; a row is cut into its runs. -/
import Derived.Test.YtlbigebaepecpaaSet6
import Derived.Test.YtlbigebaepecpaaRun6
namespace Go.Proofs.Ytlbigebaepecpaa
open Go.RowKit

theorem rn_cells {B g N cap : Nat} {A r Z : List Int} {w : World} (hN : N = (A ++ (r ++ Z)).length) (hR : Rn B (.slice (some ⟨g, 0, none⟩) N cap) (A ++ (r ++ Z)) w) : ∀ i, i < r.length → w.cell? ⟨g, A.length + i, none⟩ = some (.int .i32 (r.getD i 0)) := fun i hi => by
  subst hN
  rw [World.ownsRow.cellAt hR (A.length + i) (by simp; omega)]
  rw [List.map_append, List.map_append, List.getElem?_append_right (by simp), List.length_map, Nat.add_sub_cancel_left, List.getElem?_append_left (by simpa using hi)]
  simp [List.getD, hi]
set_option maxHeartbeats 800000 in
theorem settle_well (B g N cap c2 off n : Nat) (A r Z : List Int) (w : World) (hlen : N ≤ 1000) (hN : N = (A ++ (r ++ Z)).length) (hoff : off = A.length) (hn : n = r.length) (hord : ordered cls r = true)
    (hR : Rn B (.slice (some ⟨g, 0, none⟩) N cap) (A ++ (r ++ Z)) w) :
    Calls Try.prog 19 #[.slice (some ⟨g, off, none⟩) n c2] w fun e w' => e = .returned (.tuple #[]) ∧ Gr w w' := by
  have hl : r.length ≤ N := by rw [hN]; simp; omega
  have hrow : Row w (.slice (some ⟨g, off, none⟩) n c2) r := ⟨_, c2, by rw [hn], fun _ => ⟨g, off, rfl, by rw [hoff]; exact rn_cells hN hR⟩⟩
  have HO := hide (aordd_gr _ _ w (by omega) hrow)
  rw [hord] at HO
  clear hrow hord hN hoff hn hR hl
  go_enter Try.func19, Try.ntmps19
  go_wp2
  go_step3
  go_wp2_with (go_at_call 11; refine (unhide HO).mono ?_; rintro e w1 ⟨rfl, hg1⟩)
  rw [Exit.noGoto_ret]
  try simp only [Exit.inBlock, Exit.then]
  refine bodyPost_ret (results_none rfl _ _ _) rfl ?_
  exact ⟨rfl, hg1⟩
theorem settle_any (B g N cap c2 off n : Nat) (A r Z : List Int) (w : World) (hlen : N ≤ 1000) (hN : N = (A ++ (r ++ Z)).length) (hoff : off = A.length) (hn : n = r.length) (h0 : 0 < n) (ht : ∀ x, x ∈ r.tail → cls x ≠ 0)
    (hR : Rn B (.slice (some ⟨g, 0, none⟩) N cap) (A ++ (r ++ Z)) w) :
    Calls Try.prog 19 #[.slice (some ⟨g, off, none⟩) n c2] w fun e w' => e = .returned (.tuple #[]) ∧ Rn B (.slice (some ⟨g, 0, none⟩) N cap) (A ++ (srt cls Kls r ++ Z)) w' ∧ w.grownBy w' (some g) := by
  cases hord : ordered cls r
  · exact settle_wrong B g N cap c2 off n A r Z w hlen hN hoff hn h0 hord hR
  · refine (settle_well B g N cap c2 off n A r Z w hlen hN hoff hn hord hR).mono ?_
    rintro e w1 ⟨rfl, hg⟩
    rw [srt_self Kls Kls_rise r (run_sorted r ht hord fun x _ => cls_nn x) fun x _ => cls_in x]
    exact ⟨rfl, hR.below hg.below, hg.grown _⟩

theorem eqnil_some (ad : Addr) (n c : Nat) (w : World) : (binOp .eql 22 (.slice (some ad) n c) (.slice none 0 0)).run Try.prog w = .ok (.bool false) w := by kernel_rfl
theorem eqnil_none (n c : Nat) (w : World) : (binOp .eql 22 (.slice none n c) (.slice none 0 0)).run Try.prog w = .ok (.bool true) w := by kernel_rfl
set_option maxHeartbeats 800000 in
theorem clone_any (v : Value) (l : List Int) (w : World) (hlen : l.length ≤ 1000) (hR : Row w v l) :
    Calls Try.prog 17 #[v] w fun e w' => ∃ v', e = .returned v' ∧ Rn w.heap.size v' l w' ∧ Below w.heap.size w w' := by
  obtain ⟨i0, hi, hz0, hz1, hz2⟩ := info_parts elem_info
  obtain ⟨a, cap, rfl, hc⟩ := hR
  cases a with
  | none =>
    have hl : l = [] := by
      by_cases h0 : 0 < l.length
      · obtain ⟨b, off, h, _⟩ := hc h0
        cases h
      · exact List.length_eq_zero_iff.1 (by omega)
    subst hl
    have hE := eqnil_none 0 cap
    go_enter Try.func17, Try.ntmps17
    go_wp2
    go_ret
    exact ⟨_, rfl, Rn.nil _ _, Below.refl _ _⟩
  | some ad =>
    by_cases h0 : 0 < l.length
    · obtain ⟨b, off, h, hcc⟩ := hc h0
      cases h
      have HNW : Hid (∀ j u, (l.map (Value.int .i32))[j]? = some u → (w.alloc (.cells #[] 21)).cell? ((⟨b, off, none⟩ : Addr).add j) = some u) := fun j u hu => by
        have hj : j < l.length := by have := (List.getElem?_eq_some_iff.1 hu).1; simpa using this
        have e : (⟨b, off, none⟩ : Addr).add j = ⟨b, off + j, none⟩ := by unfold Addr.add; split <;> simp_all
        have hu' : u = .int .i32 (l.getD j 0) := by
          rw [List.getElem?_map, List.getElem?_eq_getElem hj] at hu
          simp at hu
          rw [← hu]
          simp [List.getD, hj]
        rw [e, hu']
        exact (Gr.one w _).cell (hcc j hj)
      have HLM : Hid ((l.map (Value.int .i32)).length = l.length) := by show _ = _; simp
      have HON := hide (ints_one l)
      have HRN : Hid (∀ (v' : Value) (w' : World), w'.ownsRow w.heap.size 21 1 v' l.length (l.map (Value.int .i32)) → Rn w.heap.size v' l w') := fun v' w' h => h
      clear hcc hc
      generalize l.map (Value.int .i32) = news at *
      generalize l.length = n at *
      have hm1 : 0 + n ≤ maxLen := by unfold maxLen; omega
      have hE := eqnil_some ⟨b, off, none⟩ n cap
      go_enter Try.func17, Try.ntmps17
      go_wp2_with (at_builtin; refine wpList_append_lies _ rfl _ _ 22 rfl w.heap.size 21 i0 _ 1 4 Try.underlying22 hi hz0 hz1 hz2 rfl (by omega) _ 0 [] rfl (own_nil w _ (Nat.le_refl _)) ⟨b, off, none⟩ n cap news rfl (by rw [unhide HLM, Nat.mul_one]) (unhide HNW) (unhide HON) h0 hm1 (by omega) (by simp) (w.heap.size + 1) (by simp) ?_; intro g9 cap9 w9 hown9 hgrow9 hat9 hlt9)
      go_ret
      rw [Nat.zero_add, List.nil_append] at hown9
      exact ⟨_, rfl, unhide HRN _ _ hown9, (Below.one w _).trans (below_own hgrow9 (by simp) (own_block (own_nil w _ (Nat.le_refl _))))⟩
    · obtain rfl : l = [] := List.length_eq_zero_iff.1 (by omega)
      have hE := eqnil_some ad 0 cap
      go_enter Try.func17, Try.ntmps17
      go_wp2
      go_ret
      exact ⟨_, rfl, own_nil w _ (Nat.le_refl _), Below.one w _⟩

/-- A slice of slices of one block: the runs rs, one behind the other. -/
def Ct (w : World) (B g : Nat) (v : Value) (rs : List (List Int)) : Prop :=
  ∃ vs : List Value, vs.length = rs.length ∧ w.ownsRow B 22 1 v rs.length vs ∧ ∀ i, i < rs.length → vs[i]? = some (.slice (some ⟨g, (rs.take i).flatten.length, none⟩) (rs.getD i []).length (rs.getD i []).length)
theorem Ct.nil (w : World) (B g : Nat) : Ct w B g (.slice none 0 0) [] := ⟨[], rfl, World.ownsRow_nil _ _ _ _, fun i hi => by simp at hi⟩
theorem Ct.below {w w2 : World} {B g : Nat} {v : Value} {rs : List (List Int)} (h : Ct w B g v rs) (hb : Below w.heap.size w w2) : Ct w2 B g v rs := by
  obtain ⟨vs, h1, h2, h3⟩ := h
  exact ⟨vs, h1, own_below h2 hb, h3⟩
theorem Ct.shape {w : World} {B g : Nat} {v : Value} {rs : List (List Int)} (h : Ct w B g v rs) : ∃ a c, v = .slice a rs.length c := by
  obtain ⟨vs, h1, h2, _⟩ := h
  rcases h2.2 with ⟨hv, h0⟩ | ⟨g, cap, cur, hv, _⟩
  · exact ⟨none, 0, by rw [hv, h0]⟩
  · exact ⟨_, cap, hv⟩
theorem Ct.push {w w9 : World} {B g g9 cap9 M : Nat} {v : Value} {rs : List (List Int)} {now : List Int} (h : Ct w B g v rs) (hM : M = rs.length) (vs : List Value) (hvs : w.ownsRow B 22 1 v M vs) (F n : Nat) (hF : F = rs.flatten.length) (hn : n = now.length)
    (hown9 : w9.ownsRow B 22 1 (.slice (some ⟨g9, 0, none⟩) (M + 1) cap9) (M + 1) (vs ++ [.slice (some ⟨g, F, none⟩) n n])) : Ct w9 B g (.slice (some ⟨g9, 0, none⟩) (M + 1) cap9) (rs ++ [now]) := by
  obtain ⟨us, h1, h2, h3⟩ := h
  subst hM hF hn
  obtain rfl := own_same h2 hvs
  refine ⟨us ++ [.slice (some ⟨g, rs.flatten.length, none⟩) now.length now.length], by simp [h1], by simpa using hown9, fun i hi => ?_⟩
  by_cases hl : i < rs.length
  · have e : (rs ++ [now]).getD i [] = rs.getD i [] := by simp [List.getD, List.getElem?_append_left hl]
    rw [e, List.getElem?_append_left (by omega), List.take_append_of_le_length (by omega)]
    exact h3 i hl
  · have hi' : i = rs.length := by simp at hi; omega
    subst hi'
    have e : (rs ++ [now]).getD rs.length [] = now := by simp [List.getD]
    rw [e, ← h1]
    simp [h1]
theorem rfold_two (c : Int → Int) (l : List Int) : (rfold c l).1.flatten.length + (rfold c l).2.length = l.length := by
  have := congrArg List.length (rfold_inv (c := c) l).1
  rw [List.length_append] at this
  exact this
set_option maxHeartbeats 800000 in
theorem cut_empty (a : Option Addr) (cap : Nat) (w : World) (g : Nat) :
    Calls Try.prog 18 #[.slice a 0 cap] w fun e w' => ∃ v, e = .returned v ∧ Ct w' w.heap.size g v [] ∧ Below w.heap.size w w' := by
  go_enter Try.func18, Try.ntmps18
  go_wp2
  refine wp_loop_rounds 1 ?_
  rw [rounds_succ]
  go_wp2
  go_ret
  exact ⟨_, rfl, Ct.nil _ _ _, Below.refl _ _⟩
set_option maxHeartbeats 6400000 in
theorem cut_some (g N cap : Nat) (l : List Int) (w : World) (hlen : N ≤ 1000) (hN : N = l.length) (h0 : 0 < N) (hcap : N ≤ cap)
    (hcell : ∀ i, i < N → w.cell? ⟨g, i, none⟩ = some (.int .i32 (l.getD i 0))) :
    Calls Try.prog 18 #[.slice (some ⟨g, 0, none⟩) N cap] w fun e w' => ∃ v, e = .returned v ∧ Ct w' w.heap.size g v (runsL cls l) ∧ Below w.heap.size w w' := by
  obtain ⟨i1, gi, gz0, gz1, gz2⟩ := info_parts elem_info2
  have HC := hide hcell
  have HCL := hide class_any
  have HNL := hide hN
  clear hcell hN
  go_enter Try.func18, Try.ntmps18
  go_wp2
  go_loopw [3, 4, 9] (fun v3 f i wr => ∃ k : Nat, k ≤ N ∧ i = .int .i64 (k : Int) ∧ f = .int .i64 ((rfold cls (l.take k)).1.flatten.length : Int) ∧ Hid (Ct wr w.heap.size g v3 (rfold cls (l.take k)).1) ∧ Below w.heap.size w wr) (fun _ _ i _ => N - (intOf i).toNat)
  case atStart => exact ⟨0, Nat.zero_le _, rfl, rfl, Ct.nil _ _ _, Below.refl _ _⟩
  case round =>
    obtain ⟨k, hk, rfl, rfl, CT, hb⟩ := hrel
    have hsz := hb.size
    have hfl := rfold_len cls (l.take k)
    have hft := rfold_two cls (l.take k)
    rw [List.length_take, ← unhide HNL, Nat.min_eq_left hk] at hfl hft
    by_cases hlt : k < N
    · have hzl : (k : Int) < (N : Int) := by omega
      have hz0' : (0 : Int) ≤ (k : Int) := by omega
      have k1 : wr.cell? ⟨g, k, none⟩ = some (.int .i32 (l.getD k 0)) := (hb.cell (by exact cell_lt (unhide HC k hlt))).trans (unhide HC k hlt)
      have HS := hide (rfold_take cls l k (by rw [← unhide HNL]; exact hlt))
      have HK := hide (unhide HCL (l.getD k 0))
      generalize l.getD k 0 = x at *
      generalize rfold cls (l.take k) = s at *
      obtain ⟨out, now⟩ := s
      dsimp only at CT hfl hft
      obtain ⟨q, hq⟩ : ∃ q, cls x = q := ⟨_, rfl⟩
      rw [hq] at HK
      have HQ := hide hq
      clear hq
      obtain ⟨a3, c3, hv3⟩ := (unhide CT).shape
      obtain ⟨M, hM⟩ : ∃ M, M = out.length := ⟨_, rfl⟩
      obtain ⟨F, hF⟩ : ∃ F, F = out.flatten.length := ⟨_, rfl⟩
      obtain ⟨n, hn⟩ : ∃ n, n = now.length := ⟨_, rfl⟩
      rw [← hM] at hv3 hfl
      rw [← hF, ← hn] at hft
      rw [← hn] at hfl
      dsimp only
      rw [← hF]
      have HM := hide hM
      have HF := hide hF
      have HN := hide hn
      clear hM hF hn
      subst hv3
      by_cases hF : F < k
      · have hzF : (F : Int) < (k : Int) := by omega
        by_cases hq0 : q = 0
        · subst hq0
          have HE : Hid (rfold cls (l.take (k + 1)) = (out ++ [now], [x])) := by
            show _ = _
            rw [unhide HS]
            unfold rstep
            rw [if_pos ⟨unhide HQ, fun h => by have h' : now = [] := h; have := unhide HN; rw [h'] at this; simp at this; omega⟩]
          have hm3 : M + 1 ≤ maxLen := by unfold maxLen; omega
          have hm4 : (M + 1) * 24 ≤ 140737488355328 := by omega
          have hF0 : (0 : Int) ≤ (F : Int) := by omega
          have hFk : (F : Int) ≤ (k : Int) := by omega
          have hkc : (k : Int) ≤ (cap : Int) := by omega
          obtain ⟨vs, hvs⟩ : ∃ vs, wr.ownsRow w.heap.size 22 1 (.slice a3 M c3) M vs := by
            obtain ⟨vs, _, h2, _⟩ := unhide CT
            rw [← unhide HM] at h2
            exact ⟨vs, h2⟩
          have HV := hide hvs
          clear hvs
          go_wp2_with (first
            | (go_at_call 16; refine (unhide HK _).mono ?_; rintro e w2 ⟨rfl, g2⟩; have VS2 := hide (own_below (unhide HV) g2.below); have hb2 := hb.trans (g2.below.mono hsz); have hs2 := hb2.size)
            | (at_builtin; refine wpList_append_lies _ rfl _ _ 29 rfl w.heap.size 22 i1 _ 1 24 Try.underlying29 gi gz0 gz1 gz2 rfl (by omega) _ M _ rfl (World.ownsRow.alloc (unhide VS2) _) ⟨w2.heap.size, 0, none⟩ 1 1 [.slice (some ⟨g, F, none⟩) (k - F) (k - F)] rfl rfl (World.news_of_block (cs := #[.slice (some ⟨g, F, none⟩) (k - F) (k - F)]) (t := 22) (fr := (0, 0)) (heap_new w2 _)) (by simp [Value.oneCell']) (by omega) hm3 hm4 (by simp; omega) (w2.heap.size + 1) (by simp) ?_; intro g9 cap9 w9 hown9 hgrow9 hat9 hlt9))
          go_roundw
          case rel =>
            refine ⟨k + 1, by omega, by go_num, ?_, ?_, (hb2.alloc (by omega) _).trans (below_own hgrow9 (by simp; omega) (own_block (unhide VS2)))⟩
            · rw [unhide HE]
              congr 1
              have := unhide HF
              have := unhide HN
              simp only [List.flatten_append, List.length_append, List.flatten_cons, List.flatten_nil, List.append_nil]
              omega
            · rw [unhide HE]
              exact Ct.push ((unhide CT).below g2.below) (unhide HM) vs (unhide VS2) F (k - F) (unhide HF) (by have := unhide HN; omega) hown9
          case measure => simp [intOf]; omega
        · have hqz : (q == 0) = false := by simpa using hq0
          have HE : Hid (rfold cls (l.take (k + 1)) = (out, now ++ [x])) := by
            show _ = _
            rw [unhide HS]
            unfold rstep
            rw [if_neg fun h => hq0 ((unhide HQ).symm.trans h.1)]
          go_wp2_with (go_at_call 16; refine (unhide HK _).mono ?_; rintro e w2 ⟨rfl, g2⟩)
          go_roundw
          case rel => exact ⟨k + 1, by omega, by go_num, by rw [unhide HE]; show Value.int .i64 (F : Int) = .int .i64 (out.flatten.length : Int); rw [← unhide HF], by rw [unhide HE]; exact (unhide CT).below g2.below, hb.trans (g2.below.mono hsz)⟩
          case measure => simp [intOf]; omega
      · have hzF : ¬ (F : Int) < (k : Int) := by omega
        have HE : Hid (rfold cls (l.take (k + 1)) = (out, now ++ [x])) := by
          show _ = _
          rw [unhide HS]
          unfold rstep
          rw [if_neg]
          rintro ⟨_, h2⟩
          refine h2 (List.length_eq_zero_iff.1 ?_)
          show now.length = 0
          rw [← unhide HN]
          omega
        go_wp2
        go_roundw
        case rel => exact ⟨k + 1, by omega, by go_num, by rw [unhide HE]; show Value.int .i64 (F : Int) = .int .i64 (out.flatten.length : Int); rw [← unhide HF], by rw [unhide HE]; exact unhide CT, hb⟩
        case measure => simp [intOf]; omega
    · have hzl : ¬ (k : Int) < (N : Int) := by omega
      obtain rfl : k = N := by omega
      have HRU : Hid (runsL cls l = (rfold cls (l.take k)).1 ++ [(rfold cls (l.take k)).2]) := by
        show _ = _
        rw [unhide HNL, List.take_length]
        unfold runsL rfin
        rw [if_pos]
        intro h
        have h1 := (rfold_inv (c := cls) l).2.2.2 h
        have h2 := unhide HNL
        rw [h1] at h2
        simp at h2
        omega
      have HN0 : Hid ((rfold cls (l.take k)).2 ≠ []) := by
        intro h
        have h1 := (rfold_inv (c := cls) (l.take k)).2.2.2 h
        have h2 := congrArg List.length h1
        rw [List.length_take, ← unhide HNL] at h2
        simp at h2
        omega
      generalize rfold cls (l.take k) = s at *
      obtain ⟨out, now⟩ := s
      dsimp only at CT hfl hft HRU HN0
      obtain ⟨a3, c3, hv3⟩ := (unhide CT).shape
      obtain ⟨M, hM⟩ : ∃ M, M = out.length := ⟨_, rfl⟩
      obtain ⟨F, hF⟩ : ∃ F, F = out.flatten.length := ⟨_, rfl⟩
      obtain ⟨n, hn⟩ : ∃ n, n = now.length := ⟨_, rfl⟩
      have hn0 : 0 < n := by rw [hn]; exact List.length_pos_iff.2 (unhide HN0)
      rw [← hM] at hv3 hfl
      rw [← hF, ← hn] at hft
      rw [← hn] at hfl
      dsimp only
      rw [← hF]
      have HM := hide hM
      have HF := hide hF
      have HN := hide hn
      clear hM hF hn
      subst hv3
      have hzF : (F : Int) < (k : Int) := by omega
      have hm3 : M + 1 ≤ maxLen := by unfold maxLen; omega
      have hm4 : (M + 1) * 24 ≤ 140737488355328 := by omega
      have hF0 : (0 : Int) ≤ (F : Int) := by omega
      have hFk : (F : Int) ≤ (k : Int) := by omega
      have hkc : (k : Int) ≤ (cap : Int) := by omega
      obtain ⟨vs, hvs⟩ : ∃ vs, wr.ownsRow w.heap.size 22 1 (.slice a3 M c3) M vs := by
        obtain ⟨vs, _, h2, _⟩ := unhide CT
        rw [← unhide HM] at h2
        exact ⟨vs, h2⟩
      have VS2 := hide hvs
      clear hvs
      go_wp2_with (at_builtin; refine wpList_append_lies _ rfl _ _ 29 rfl w.heap.size 22 i1 _ 1 24 Try.underlying29 gi gz0 gz1 gz2 rfl (by omega) _ M _ rfl (World.ownsRow.alloc (unhide VS2) _) ⟨wr.heap.size, 0, none⟩ 1 1 [.slice (some ⟨g, F, none⟩) (k - F) (k - F)] rfl rfl (World.news_of_block (cs := #[.slice (some ⟨g, F, none⟩) (k - F) (k - F)]) (t := 22) (fr := (0, 0)) (heap_new wr _)) (by simp [Value.oneCell']) (by omega) hm3 hm4 (by simp; omega) (wr.heap.size + 1) (by simp) ?_; intro g9 cap9 w9 hown9 hgrow9 hat9 hlt9)
      go_ret
      refine ⟨_, rfl, ?_, (hb.alloc (by omega) _).trans (below_own hgrow9 (by simp; omega) (own_block (unhide VS2)))⟩
      rw [unhide HRU]
      exact Ct.push (unhide CT) (unhide HM) vs (unhide VS2) F (k - F) (unhide HF) (by have := unhide HN; omega) hown9
end Go.Proofs.Ytlbigebaepecpaa
