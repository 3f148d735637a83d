/- The document's Order. -/
import Derived.Test.YtlbigebaepecpaaOrd7
namespace Go.Proofs.Ytlbigebaepecpaa
open Go.RowKit

/-- The classes one behind the other, and one beyond. -/
def kAt (t : Nat) : Int := if t = 0 then 0 else if t = 1 then 8 else if t = 2 then 202 else if t = 3 then 220 else if t = 4 then 230 else 231
def kStep (t : Nat) : Int := if t = 0 then 8 else if t = 1 then 194 else if t = 2 then 18 else if t = 3 then 10 else 1
theorem k_next (t : Nat) (h : t < 5) : kAt t + kStep t = kAt (t + 1) := by
  match t, h with
  | 0, _ => rfl
  | 1, _ => rfl
  | 2, _ => rfl
  | 3, _ => rfl
  | 4, _ => rfl
theorem k_le (t : Nat) (h : t < 5) : kAt t ≤ 230 ∧ 0 ≤ kAt t := by
  match t, h with
  | 0, _ => decide
  | 1, _ => decide
  | 2, _ => decide
  | 3, _ => decide
  | 4, _ => decide
theorem k_take (t : Nat) (h : t < 5) : Kls.take (t + 1) = Kls.take t ++ [kAt t] := by
  match t, h with
  | 0, _ => rfl
  | 1, _ => rfl
  | 2, _ => rfl
  | 3, _ => rfl
  | 4, _ => rfl
set_option maxHeartbeats 800000 in
theorem rstep_any (t : Nat) (h : t < 5) (w : World) : Calls Try.prog 20 #[.int .i64 (kAt t)] w fun e w' => e = .returned (.int .i64 (kStep t)) ∧ w = w' := by
  match t, h with
  | 0, _ =>
    show Calls Try.prog 20 #[.int .i64 0] w fun e w' => e = .returned (.int .i64 8) ∧ w = w'
    go_enter Try.func20, Try.ntmps20
    go_wp2
    go_ret
    exact ⟨rfl, rfl⟩
  | 1, _ =>
    show Calls Try.prog 20 #[.int .i64 8] w fun e w' => e = .returned (.int .i64 194) ∧ w = w'
    go_enter Try.func20, Try.ntmps20
    go_wp2
    go_ret
    exact ⟨rfl, rfl⟩
  | 2, _ =>
    show Calls Try.prog 20 #[.int .i64 202] w fun e w' => e = .returned (.int .i64 18) ∧ w = w'
    go_enter Try.func20, Try.ntmps20
    go_wp2
    go_ret
    exact ⟨rfl, rfl⟩
  | 3, _ =>
    show Calls Try.prog 20 #[.int .i64 220] w fun e w' => e = .returned (.int .i64 10) ∧ w = w'
    go_enter Try.func20, Try.ntmps20
    go_wp2
    go_ret
    exact ⟨rfl, rfl⟩
  | 4, _ =>
    show Calls Try.prog 20 #[.int .i64 230] w fun e w' => e = .returned (.int .i64 1) ∧ w = w'
    go_enter Try.func20, Try.ntmps20
    go_wp2
    go_ret
    exact ⟨rfl, rfl⟩
theorem ofK_len (c : Int → Int) (k : Int) (r : List Int) : (ofK c k r).length ≤ r.length := List.length_filter_le _ _
theorem ofK_take (c : Int → Int) (k : Int) (r : List Int) (j : Nat) (h : j < r.length) : ofK c k (r.take (j + 1)) = ofK c k (r.take j) ++ if c (r.getD j 0) = k then [r.getD j 0] else [] := by
  rw [take_snoc r j h, ofK_append]
  congr 1
  generalize r.getD j 0 = x
  by_cases e : c x = k
  · rw [if_pos e]; simp [ofK, e]
  · rw [if_neg e]; simp [ofK, e]
/-- What the first t classes give of a run. -/
def prt (t : Nat) (r : List Int) : List Int := (Kls.take t).flatMap fun k => ofK cls k r
theorem prt_next (t : Nat) (h : t < 5) (r : List Int) : prt (t + 1) r = prt t r ++ ofK cls (kAt t) r := by
  unfold prt
  rw [k_take t h, List.flatMap_append]
  simp
theorem prt_all (r : List Int) : prt 5 r = srt cls Kls r := rfl
theorem part_len (t : Nat) (r : List Int) : (prt t r).length ≤ 5 * r.length := by
  unfold prt
  have : ∀ M : List Int, (M.flatMap fun k => ofK cls k r).length ≤ M.length * r.length := by
    intro M
    induction M with
    | nil => simp
    | cons k M ih =>
      have := ofK_len cls k r
      rw [List.flatMap_cons, List.length_append, List.length_cons, Nat.add_mul]
      omega
  refine Nat.le_trans (this _) (Nat.mul_le_mul_right _ ?_)
  rw [List.length_take]
  exact Nat.min_le_right _ _
theorem flat_len (r : List Int) (rs : List (List Int)) (h : r ∈ rs) : r.length ≤ rs.flatten.length := by
  induction rs with
  | nil => simp at h
  | cons q rs ih =>
    rw [List.flatten_cons, List.length_append]
    rcases List.mem_cons.1 h with rfl | h
    · omega
    · have := ih h; omega
theorem runs_getD_len (l : List Int) (i : Nat) : ((runsL cls l).getD i []).length ≤ l.length := by
  by_cases h : i < (runsL cls l).length
  · have hf := congrArg List.length (runs_flat (c := cls) l)
    have hm : (runsL cls l).getD i [] ∈ runsL cls l := by simp [List.getD, h]
    have := flat_len _ _ hm
    omega
  · have : (runsL cls l).getD i [] = [] := by simp [List.getD, Nat.not_lt.1 h]
    rw [this]; simp
theorem runs_len (l : List Int) : (runsL cls l).length ≤ l.length := by
  have hf := congrArg List.length (runs_flat (c := cls) l)
  have hne := (runs_runny (c := cls) l).1
  generalize runsL cls l = rs at hf hne
  rw [← hf]
  clear hf
  induction rs with
  | nil => simp
  | cons r rs ih =>
    have := ih fun q hq => hne q (by simp [hq])
    have h1 : 0 < r.length := List.length_pos_iff.2 (hne r (by simp)).1
    simp only [List.length_cons, List.flatten_cons, List.length_append]
    omega
theorem done_len (l : List Int) (i : Nat) : (((runsL cls l).take i).flatMap (srt cls Kls)).length ≤ l.length := by
  have h1 : ∀ rs : List (List Int), (rs.flatMap (srt cls Kls)).length = rs.flatten.length := by
    intro rs
    induction rs with
    | nil => rfl
    | cons r rs ih => rw [List.flatMap_cons, List.flatten_cons, List.length_append, List.length_append, ih, srt_len Kls_rise r fun x _ => cls_in x]
  rw [h1]
  have h2 := congrArg List.length (runs_flat (c := cls) l)
  rw [← List.take_append_drop i (runsL cls l), List.flatten_append, List.length_append] at h2
  omega
theorem done_take (l : List Int) (i : Nat) (h : i < (runsL cls l).length) : ((runsL cls l).take (i + 1)).flatMap (srt cls Kls) = ((runsL cls l).take i).flatMap (srt cls Kls) ++ srt cls Kls ((runsL cls l).getD i []) := by
  have e : (runsL cls l).take (i + 1) = (runsL cls l).take i ++ [(runsL cls l).getD i []] := by
    rw [List.take_succ_eq_append_getElem h]; simp [List.getD, h]
  rw [e, List.flatMap_append]
  simp

set_option maxHeartbeats 6400000 in
theorem rorder_any (v : Value) (l : List Int) (w : World) (hlen : l.length ≤ 5000) (hR : Row w v l) :
    Calls Try.prog 10 #[v] w fun e w' => ∃ v, e = .returned v ∧ Rn w.heap.size v (ordL cls Kls l) w' ∧ Below w.heap.size w w' := by
  obtain ⟨i0, hi, hz0, hz1, hz2⟩ := info_parts elem_info
  have HRU := hide (rruns_any v l w (by omega) hR)
  have HCL := hide rclass_any
  have HST := hide rstep_any
  have HDT := hide (done_take l)
  have HDL := hide (done_len l)
  have HRL := hide (runs_getD_len l)
  have hrl := runs_len l
  have HEND : Hid (ordL cls Kls l = ((runsL cls l).take (runsL cls l).length).flatMap (srt cls Kls)) := by show _ = _; rw [List.take_length]; rfl
  clear hR
  generalize ordL cls Kls l = ORD at *
  generalize runsL cls l = rs at *
  obtain ⟨R, hRn⟩ : ∃ R, R = rs.length := ⟨_, rfl⟩
  rw [← hRn] at hrl HEND
  have HRn := hide hRn
  clear hRn
  go_enter Try.func10, Try.ntmps10
  go_wp2_with (go_at_call 14; refine (unhide HRU).mono ?_; rintro e w1 ⟨v1, rfl, rr1, b1⟩; have hs1 := b1.size; obtain ⟨a1, c1, hv1, hc1⟩ := rr1; rw [← unhide HRn] at hv1; subst hv1; have HCC := hide hc1; clear hc1 HRU)
  go_loopw [4, 5] (fun v4 i wr => ∃ n : Nat, n ≤ R ∧ i = .int .i64 (n : Int) ∧ Rn w1.heap.size v4 ((rs.take n).flatMap (srt cls Kls)) wr ∧ Below w1.heap.size w1 wr) (fun _ i _ => R - (intOf i).toNat)
  case atStart => exact ⟨0, Nat.zero_le _, rfl, Rn.nil _ _, Below.refl _ _⟩
  case round =>
    obtain ⟨n, hn, rfl, hown, hb1⟩ := hrel
    by_cases hlt : n < R
    · have hzl : (n : Int) < (R : Int) := by omega
      have hz0' : (0 : Int) ≤ (n : Int) := by omega
      obtain ⟨b, off, rfl, hcc⟩ := unhide HCC (by rw [← unhide HRn]; omega)
      obtain ⟨g, o, c, q1, q2⟩ := hcc n (by rw [← unhide HRn]; exact hlt)
      have HD1 := hide (unhide HDT n (by rw [← unhide HRn]; exact hlt))
      have hdl := unhide HDL n
      have hll := unhide HRL n
      generalize rs.getD n [] = r at *
      generalize (rs.take n).flatMap (srt cls Kls) = A at *
      have Q1 := hide q1
      have Q2 := hide q2
      obtain ⟨rl, hrl2⟩ : ∃ rl, rl = r.length := ⟨_, rfl⟩
      rw [← hrl2] at Q1 Q2 hll
      have HRL2 := hide hrl2
      have HOW := hide hown
      clear hcc q1 q2 hown hrl2
      have HB1 := hide hb1
      clear hb1
      go_wp2
      go_loopw [4, 6] (fun v4 i wr => ∃ t : Nat, t ≤ 5 ∧ i = .int .i64 (kAt t) ∧ Rn w1.heap.size v4 (A ++ prt t r) wr ∧ Below w1.heap.size w1 wr) (fun _ i _ => (231 - intOf i).toNat)
      case atStart => exact ⟨0, Nat.zero_le _, rfl, by simpa [prt] using unhide HOW, unhide HB1⟩
      case round =>
        clear HB1 HOW
        obtain ⟨t, ht, rfl, hown, hb1⟩ := hrel
        by_cases ht5 : t < 5
        · obtain ⟨kl, kn⟩ := k_le t ht5
          have HKN := hide (k_next t ht5)
          have HKT := hide (prt_next t ht5 r)
          have HSP := hide (unhide HST t ht5)
          have hpl := part_len t r
          rw [← unhide HRL2] at hpl
          have hlt2 : kAt t < kAt (t + 1) := by
            match t, ht5 with
            | 0, _ => decide
            | 1, _ => decide
            | 2, _ => decide
            | 3, _ => decide
            | 4, _ => decide
          have hle2 : kAt (t + 1) ≤ 231 := by
            match t, ht5 with
            | 0, _ => decide
            | 1, _ => decide
            | 2, _ => decide
            | 3, _ => decide
            | 4, _ => decide
          obtain ⟨A2, hA2⟩ : ∃ A2, A2 = A ++ prt t r := ⟨_, rfl⟩
          rw [← hA2] at hown
          have hA2l : A2.length ≤ 6 * 5000 := by rw [hA2, List.length_append]; omega
          have HA2 := hide hA2
          clear hA2
          have HOW := hide hown
          have HB1 := hide hb1
          clear hown hb1
          generalize kAt t = kt at *
          go_wp2
          go_loopw [4, 7] (fun v4 i wr => ∃ j : Nat, j ≤ rl ∧ i = .int .i64 (j : Int) ∧ Rn w1.heap.size v4 (A2 ++ ofK cls kt (r.take j)) wr ∧ Below w1.heap.size w1 wr) (fun _ i _ => rl - (intOf i).toNat)
          case atStart => exact ⟨0, Nat.zero_le _, rfl, by simpa [ofK] using unhide HOW, unhide HB1⟩
          case round =>
            clear HB1 HOW
            obtain ⟨j, hj, rfl, hown, hb1⟩ := hrel
            have hsz := hb1.size
            have d1 : wr.cell? ⟨b, off + n, none⟩ = some (.slice (some ⟨g, o, none⟩) rl c) := (hb1.cell (by exact cell_lt (unhide Q1))).trans (unhide Q1)
            by_cases hjl : j < rl
            · have hzj : (j : Int) < (rl : Int) := by omega
              have hzj0 : (0 : Int) ≤ (j : Int) := by omega
              have d2 : wr.cell? ⟨g, o + j, none⟩ = some (.int .i32 (r.getD j 0)) := (hb1.cell (by exact cell_lt (unhide Q2 j hjl))).trans (unhide Q2 j hjl)
              have D2 := hide (unhide Q2 j hjl)
              have HT := hide (ofK_take cls kt r j (by rw [← unhide HRL2]; exact hjl))
              have hol : (ofK cls kt (r.take j)).length ≤ rl := Nat.le_trans (ofK_len _ _ _) (by rw [List.length_take]; omega)
              have HK := hide (unhide HCL (r.getD j 0))
              generalize r.getD j 0 = x at *
              obtain ⟨q, hq⟩ : ∃ q, cls x = q := ⟨_, rfl⟩
              rw [hq] at HK HT
              clear hq
              by_cases hqk : q = kt
              · subst hqk
                rw [if_pos rfl] at HT
                obtain ⟨a4, c4, hv4⟩ := hown.shape
                obtain ⟨N, hN⟩ : ∃ N, N = (A2 ++ ofK cls q (r.take j)).length := ⟨_, rfl⟩
                rw [← hN] at hv4
                subst hv4
                have hNl : N ≤ 40000 := by rw [hN, List.length_append]; omega
                have HN := hide hN
                have HO := hide hown
                clear hN hown
                have hm1 : N + 1 ≤ maxLen := by unfold maxLen; omega
                have hm2 : (N + 1) * 4 ≤ 140737488355328 := by omega
                go_wp2_with (first
                  | (go_at_call 21; refine (unhide HK _).mono ?_; rintro e w2 ⟨rfl, b2⟩; have hb12 := hb1.trans (b2.mono hb1.size); have hs2 := hb12.size; have d3 : w2.cell? ⟨b, off + n, none⟩ = some (.slice (some ⟨g, o, none⟩) rl c) := (hb12.cell (by exact cell_lt (unhide Q1))).trans (unhide Q1); have d4 : w2.cell? ⟨g, o + j, none⟩ = some (.int .i32 x) := (hb12.cell (by exact cell_lt (unhide D2))).trans (unhide D2); have HO2 := hide ((unhide HO).below b2))
                  | (at_builtin; refine wpList_append_lies _ rfl _ _ 22 rfl w1.heap.size 21 i0 _ 1 4 Try.underlying22 hi hz0 hz1 hz2 rfl (by omega) _ N _ rfl (World.ownsRow.alloc (Rn.own (unhide HN) (unhide HO2)) _) ⟨w2.heap.size, 0, none⟩ 1 1 [.int .i32 x] rfl rfl (World.news_of_block (cs := #[.int .i32 x]) (t := 21) (fr := (0, 0)) (heap_new w2 _)) (by simp [Value.oneCell']) (by omega) hm1 hm2 (by simp; omega) (w2.heap.size + 1) (by simp) ?_; intro g9 cap9 w9 hown9 hgrow9 hat9 hlt9))
                go_roundw
                case rel =>
                  refine ⟨j + 1, by omega, by go_num, ?_, (hb12.alloc (by omega) _).trans (below_own hgrow9 (by simp; omega) (own_block (Rn.own (unhide HN) (unhide HO2))))⟩
                  rw [unhide HT, ← List.append_assoc]
                  exact Rn.push (unhide HN) hown9
                case measure => simp [intOf]; omega
              · have hqz : (q == kt) = false := by simpa using hqk
                rw [if_neg hqk, List.append_nil] at HT
                go_wp2_with (go_at_call 21; refine (unhide HK _).mono ?_; rintro e w2 ⟨rfl, b2⟩)
                go_roundw
                case rel => exact ⟨j + 1, by omega, by go_num, by rw [unhide HT]; exact hown.below b2, hb1.trans (b2.mono hb1.size)⟩
                case measure => simp [intOf]; omega
            · have hzj : ¬ (j : Int) < (rl : Int) := by omega
              obtain rfl : j = rl := by omega
              have HE : Hid (A2 ++ ofK cls kt (r.take j) = A ++ prt (t + 1) r) := by
                show _ = _
                rw [unhide HRL2, List.take_length, unhide HA2, unhide HKT, List.append_assoc]
              have k2 : IntKind.i64.wrap (kt + kStep t) = kAt (t + 1) := by rw [unhide HKN, IntKind.wrap_i64]; omega
              generalize kStep t = ks at *
              go_wp2_with (go_at_call 20; refine (unhide HSP _).mono ?_; rintro e w2 ⟨rfl, rfl⟩)
              go_roundw
              case rel => exact ⟨t + 1, by omega, rfl, by rw [← unhide HE]; exact hown, hb1⟩
              case measure => simp [intOf]; omega
        · obtain rfl : t = 5 := by omega
          have hz5 : ¬ kAt 5 ≤ 230 := by decide
          have HE : Hid ((rs.take (n + 1)).flatMap (srt cls Kls) = A ++ prt 5 r) := by
            show _ = _
            rw [unhide HD1, prt_all]
          generalize kAt 5 = k5 at *
          go_wp2
          go_roundw
          case rel => exact ⟨n + 1, by omega, by go_num, by rw [unhide HE]; exact hown, hb1⟩
          case measure => simp [intOf]; omega
    · have hzl : ¬ (n : Int) < (R : Int) := by omega
      obtain rfl : n = R := by omega
      rw [← unhide HEND] at hown
      obtain ⟨a4, c4, hv4⟩ := hown.shape
      obtain ⟨N, hN⟩ : ∃ N, N = ORD.length := ⟨_, rfl⟩
      rw [← hN] at hv4
      clear hN
      have HO := hide hown
      clear hown
      subst hv4
      go_wp2
      go_ret
      exact ⟨.slice a4 N c4, rfl, (unhide HO).base hs1, b1.trans (hb1.mono hs1)⟩
end Go.Proofs.Ytlbigebaepecpaa
