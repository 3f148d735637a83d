/- The document's Fit, Check, Text and Only. -/
import Derived.Test.YtegpdppfdgcljaaMath10
namespace Go.Proofs.Ytegpdppfdgcljaa
open Go.RowKit

theorem ret_pair {a b a' b' : Int} (h : a = a') (h' : b = b') : Ending.returned (.tuple #[.int .i64 a, .int .i64 b]) = .returned (.tuple #[.int .i64 a', .int .i64 b']) := by rw [h, h']
set_option maxHeartbeats 800000 in
theorem rfit_any (r : Int) (w : World) : Calls Try.prog 11 #[.int .i32 r] w fun e w' => e = .returned (.bool (fitB r)) ∧ Below w.heap.size w w' := by
  have HK := hide (rkind_any r)
  unfold fitB
  generalize kd r = q at *
  by_cases h0 : q = 0
  · subst h0
    go_enter Try.func11, Try.ntmps11
    go_wp2_with (go_at_call 18; refine (unhide HK _).mono ?_; rintro e w1 ⟨rfl, b1⟩)
    go_ret
    exact ⟨ret_bool (by simp), b1⟩
  · have n0 : (q != 0) = true := by simpa using h0
    by_cases h7 : q = 7
    · subst h7
      go_enter Try.func11, Try.ntmps11
      go_wp2_with (go_at_call 18; refine (unhide HK _).mono ?_; rintro e w1 ⟨rfl, b1⟩)
      go_ret
      exact ⟨ret_bool (by simp), b1⟩
    · have n7 : (q != 7) = true := by simpa using h7
      have HZ : Hid ((decide (q ≠ 0) && decide (q ≠ 7)) = true) := by show _ = _; simp [h0, h7]
      generalize (decide (q ≠ 0) && decide (q ≠ 7)) = z at *
      go_enter Try.func11, Try.ntmps11
      go_wp2_with (go_at_call 18; refine (unhide HK _).mono ?_; rintro e w1 ⟨rfl, b1⟩)
      go_ret
      exact ⟨ret_bool (unhide HZ).symm, b1⟩
set_option maxHeartbeats 1600000 in
theorem rcheck_any (v : Value) (l : List Int) (w : World) (hlen : l.length ≤ 20000) (hR : Row w v l) :
    Calls Try.prog 9 #[v] w fun e w' => e = .returned (.tuple #[.int .i64 (chkN l : Int), .int .i64 (chkE l)]) ∧ Below w.heap.size w w' := by
  obtain ⟨a, cap, rfl, hc⟩ := hR
  by_cases h0 : 0 < l.length
  · obtain ⟨b, off, rfl, hcc⟩ := hc h0
    have HC := hide hcc
    have HFT := hide rfit_any
    clear hc hcc
    go_enter Try.func9, Try.ntmps9
    go_wp2
    go_loopw [4] (fun i wr => ∃ k : Nat, k ≤ l.length ∧ i = .int .i64 (k : Int) ∧ Hid (k ≤ chkN l) ∧ Below w.heap.size w wr) (fun i _ => l.length - (intOf i).toNat)
    case atStart => exact ⟨0, Nat.zero_le _, rfl, Nat.zero_le _, Below.refl _ _⟩
    case round =>
      obtain ⟨k, hk, rfl, HK, hb⟩ := hrel
      by_cases hlt : k < l.length
      · have hzl : (k : Int) < (l.length : Int) := by omega
        have hz0 : (0 : Int) ≤ (k : Int) := by omega
        have k1 := (hb.cell (by exact cell_lt (unhide HC k hlt))).trans (unhide HC k hlt)
        have HY := hide (chk_yes l k (unhide HK) hlt)
        have HO := hide (chk_no l k (unhide HK) hlt)
        have HX := hide (unhide HFT (l.getD k 0))
        generalize l.getD k 0 = x at *
        cases hf : fitB x
        · rw [hf] at HX HO
          have HE1 : Hid ((chkN l : Int) = k) := by show _ = _; rw [unhide HO rfl]
          have HE2 : Hid (chkE l = 30) := by show _ = _; unfold chkE; rw [unhide HO rfl, if_neg (by omega)]
          go_wp2_with (go_at_call 11; refine (unhide HX _).mono ?_; rintro e w2 ⟨rfl, b2⟩)
          go_ret2
          exact ⟨ret_pair (unhide HE1).symm (unhide HE2).symm, hb.trans (b2.mono hb.size)⟩
        · rw [hf] at HX HY
          have HK2 := hide (unhide HY rfl)
          go_wp2_with (go_at_call 11; refine (unhide HX _).mono ?_; rintro e w2 ⟨rfl, b2⟩)
          go_roundw
          case rel => exact ⟨k + 1, by omega, by go_num, HK2, hb.trans (b2.mono hb.size)⟩
          case measure => simp [intOf]; omega
      · have hzl : ¬ (k : Int) < (l.length : Int) := by omega
        obtain rfl : k = l.length := by omega
        have he : chkN l = l.length := Nat.le_antisymm (chk_le l) (unhide HK)
        have HE1 : Hid ((chkN l : Int) = l.length) := by show _ = _; rw [he]
        have HE2 : Hid (chkE l = 0) := by show _ = _; unfold chkE; rw [if_pos he]
        clear he
        go_wp2
        go_ret2
        exact ⟨ret_pair (unhide HE1).symm (unhide HE2).symm, hb⟩
  · obtain rfl : l = [] := List.length_eq_zero_iff.1 (by omega)
    go_enter Try.func9, Try.ntmps9
    go_wp2
    refine wp_loop_rounds 1 ?_
    rw [rounds_succ]
    go_wp2
    go_ret2
    exact ⟨rfl, Below.refl _ _⟩
set_option maxHeartbeats 3200000 in
theorem rtext_any (s : ByteArray) (w : World) (hs : s.size ≤ 20000) :
    Calls Try.prog 13 #[.string s] w fun e w' => e = .returned (.tuple #[.int .i64 (txA s), .int .i64 (txE s)]) ∧ Below w.heap.size w w' := by
  have HRU := hide (rrunes_any s w (by omega))
  have HFT := hide rfit_any
  cases hok : ruOk s
  · have HA : Hid (txA s = ruA s) := by show _ = _; unfold txA; rw [hok]; rfl
    have HE : Hid (txE s = 10) := by show _ = _; unfold txE; rw [hok]; rfl
    have hE : ruE s = 10 := by unfold ruE; rw [hok]; rfl
    rw [hE] at HRU
    generalize txA s = A at *
    generalize txE s = E at *
    generalize ruA s = U at *
    go_enter Try.func13, Try.ntmps13
    go_wp2_with (go_at_call 21; refine (unhide HRU).mono ?_; rintro e w1 ⟨v1, rfl, o1, b1⟩; clear o1)
    go_ret2
    exact ⟨ret_pair (unhide HA).symm (unhide HE).symm, b1⟩
  · have hE : ruE s = 0 := by unfold ruE; rw [hok]; rfl
    rw [hE] at HRU
    have HA : Hid (txA s = (txN (ruP s) : Int)) := by show _ = _; unfold txA; rw [hok]; rfl
    have HE : Hid (txE s = chkE (ruP s)) := by show _ = _; unfold txE; rw [hok]; rfl
    have HRD := hide (read_at s hok)
    have HSZ := hide (size_all s hok)
    have HDE := hide (rdecode_in s)
    have hpt : Hid (okL (ruP s) = true) := (ok_back hok).2
    clear hok
    generalize txA s = A at *
    generalize txE s = E at *
    generalize ruA s = U at *
    generalize ruP s = P at *
    go_enter Try.func13, Try.ntmps13
    go_wp2_with (go_at_call 21; refine (unhide HRU).mono ?_; rintro e w1 ⟨v1, rfl, o1, b1⟩; clear o1)
    go_loopw [7] (fun i wr => ∃ j k : Nat, j ≤ P.length ∧ k ≤ s.size ∧ i = .int .i64 (k : Int) ∧ Hid (k = (encL (P.take j)).length) ∧ Hid (j ≤ chkN P) ∧ Below w.heap.size w wr) (fun i _ => s.size - (intOf i).toNat)
    case atStart => exact ⟨0, 0, Nat.zero_le _, Nat.zero_le _, rfl, by show _ = _; simp [encL], Nat.zero_le _, b1⟩
    case round =>
      obtain ⟨j, k, hj, hks, rfl, HK, HJ, hb⟩ := hrel
      by_cases hlt : j < P.length
      · obtain ⟨q1, q2, q3⟩ := unhide HRD j hlt
        rw [← unhide HK] at q1 q2 q3
        have hzl : (k : Int) < (s.size : Int) := by omega
        have hp := okL_at P (unhide hpt) j hlt
        have hpos := enc1_pos _ hp
        have HNX := hide (encL_take P j hlt)
        have HY := hide (chk_yes P j (unhide HJ) hlt)
        have HO := hide (chk_no P j (unhide HJ) hlt)
        have HX := hide (unhide HFT (P.getD j 0))
        have hle : (encL (P.take (j + 1))).length ≤ s.size := by
          rw [← unhide HSZ]
          conv => rhs; rw [← List.take_append_drop (j + 1) P, encL_append, List.length_append]
          omega
        rw [unhide HNX, List.length_append, ← unhide HK] at hle
        generalize P.getD j 0 = x at *
        obtain ⟨n, hn⟩ : ∃ n, n = (enc1 x).length := ⟨_, rfl⟩
        rw [← hn] at q3 hpos hle
        have HN := hide hn
        have HD := hide (fun W => unhide HDE k W x ((k : Int) + n) 0 (by omega) q1 q2.symm (by rw [q3, if_neg (by omega)]) (by rw [q3, if_neg (by omega)]))
        clear hn q1 q2 q3 hp
        cases hf : fitB x
        · rw [hf] at HX HO
          have HE1 : Hid (A = (k : Int)) := by show _ = _; rw [unhide HA]; unfold txN; rw [unhide HO rfl, ← unhide HK]
          have HE2 : Hid (E = 30) := by show _ = _; rw [unhide HE]; unfold chkE; rw [unhide HO rfl, if_neg (by omega)]
          go_wp2_with (first
            | (go_at_call 11; refine (unhide HX _).mono ?_; rintro e w3 ⟨rfl, b3⟩; have hb3 := hb2.trans (b3.mono hb2.size))
            | (go_at_call 22; refine (unhide HD _).mono ?_; rintro e w2 ⟨rfl, b2⟩; have hb2 := hb.trans (b2.mono hb.size)))
          go_ret2
          exact ⟨ret_pair (unhide HE1).symm (unhide HE2).symm, hb3⟩
        · rw [hf] at HX HY
          have HK2 := hide (unhide HY rfl)
          have HK3 : Hid (k + n = (encL (P.take (j + 1))).length) := by show _ = _; rw [unhide HNX, List.length_append, ← unhide HK, ← unhide HN]
          go_wp2_with (first
            | (go_at_call 11; refine (unhide HX _).mono ?_; rintro e w3 ⟨rfl, b3⟩; have hb3 := hb2.trans (b3.mono hb2.size))
            | (go_at_call 22; refine (unhide HD _).mono ?_; rintro e w2 ⟨rfl, b2⟩; have hb2 := hb.trans (b2.mono hb.size)))
          go_roundw
          case rel => exact ⟨j + 1, k + n, by omega, by omega, by go_num, HK3, HK2, hb3⟩
          case measure => simp [intOf]; omega
      · obtain rfl : j = P.length := by omega
        have hks2 : k = s.size := by rw [unhide HK, List.take_length, unhide HSZ]
        have hzl : ¬ (k : Int) < (s.size : Int) := by omega
        have he : chkN P = P.length := Nat.le_antisymm (chk_le P) (unhide HJ)
        have HE1 : Hid (A = (k : Int)) := by show _ = _; rw [unhide HA]; unfold txN; rw [he, ← unhide HK]
        have HE2 : Hid (E = 0) := by show _ = _; rw [unhide HE]; unfold chkE; rw [if_pos he]
        clear he hks2
        go_wp2
        go_ret2
        exact ⟨ret_pair (unhide HE1).symm (unhide HE2).symm, hb⟩
theorem ints_below {w w2 : World} {v : Value} {l : List Int} (h : Ints w v l) (hb : Below w.heap.size w w2) : Ints w2 v l := by
  obtain ⟨a, cap, rfl, hc⟩ := h
  refine ⟨a, cap, rfl, fun i => ?_⟩
  obtain ⟨b, off, rfl, hcc⟩ := hc i
  exact ⟨b, off, rfl, fun j hj => (hb.cell (p := ⟨b, off + j, none⟩) (cell_lt (hcc j hj))).trans (hcc j hj)⟩
theorem runp_len (f : Nat) : ∀ L, (runP f L).length ≤ f := by
  induction f with
  | zero => intro L; simp [runP]
  | succ f ih =>
    intro L
    simp only [runP]
    split
    · simp
    · simp only [List.length_cons]
      have := ih (L.drop (decN L).toNat)
      omega
theorem rup_len (s : ByteArray) : (ruP s).length ≤ s.size := by
  unfold ruP
  split
  · exact runp_len _ _
  · simp
theorem only_all (P ks : List Int) (h : ∀ j, j < P.length → kd (P.getD j 0) ∈ ks) : (P.all fun x => decide (kd x ∈ ks)) = true := by
  rw [List.all_eq_true]
  intro x hx
  obtain ⟨j, hj, rfl⟩ := List.getElem_of_mem hx
  have := h j hj
  simpa [List.getD, hj] using this
theorem only_no (P ks : List Int) (j : Nat) (hj : j < P.length) (h : ¬ kd (P.getD j 0) ∈ ks) : (P.all fun x => decide (kd x ∈ ks)) = false := by
  rw [List.all_eq_false]
  exact ⟨P.getD j 0, by simp [List.getD, hj], by simpa using h⟩
set_option maxHeartbeats 3200000 in
theorem ronly_any (s : ByteArray) (v : Value) (ks : List Int) (w : World) (hs : s.size ≤ 20000) (hk : ks.length ≤ 10000) (hI : Ints w v ks) :
    Calls Try.prog 15 #[.string s, v] w fun e w' => e = .returned (.bool (onlyB s ks)) ∧ Below w.heap.size w w' := by
  have HRU := hide (rrunes_any s w (by omega))
  have HIS := hide (fun x W (h : Below w.heap.size w W) => ris_any x v ks W (ints_below hI h) hk)
  unfold onlyB
  have hpl : (ruP s).length ≤ 20000 := Nat.le_trans (rup_len s) hs
  have HOK : Hid (ruOk s = false → ruP s = []) := fun h => by unfold ruP; rw [h]; rfl
  have HEO : Hid ((ruE s == 0) = ruOk s) := by show _ = _; unfold ruE; cases ruOk s <;> rfl
  have HAL := hide (only_all (ruP s) ks)
  have HNO := hide (only_no (ruP s) ks)
  clear hI
  generalize ruP s = P at *
  generalize ruE s = E at *
  generalize ruA s = U at *
  generalize ruOk s = ok at *
  go_enter Try.func15, Try.ntmps15
  go_wp2_with (go_at_call 21; refine (unhide HRU).mono ?_; rintro e w1 ⟨v1, rfl, o1, b1⟩; have R1 := hide (Rn.row (B := w.heap.size) o1); clear o1; obtain ⟨a1, c1, hv1, hc1⟩ := unhide R1; subst hv1; have HC := hide hc1; clear hc1)
  go_loopw [8] (fun i wr => ∃ j : Nat, j ≤ P.length ∧ i = .int .i64 (j : Int) ∧ Hid (∀ m, m < j → kd (P.getD m 0) ∈ ks) ∧ Below w1.heap.size w1 wr) (fun i _ => P.length - (intOf i).toNat)
  case atStart => exact ⟨0, Nat.zero_le _, rfl, fun m hm => absurd hm (Nat.not_lt_zero _), Below.refl _ _⟩
  case round =>
    obtain ⟨j, hj, rfl, HM, hb⟩ := hrel
    have c1' := b1.trans (hb.mono b1.size)
    by_cases hlt : j < P.length
    · have hzl : (j : Int) < (P.length : Int) := by omega
      have hz0 : (0 : Int) ≤ (j : Int) := by omega
      obtain ⟨b, off, rfl, hcc⟩ := unhide HC (by omega)
      have k1 := (hb.cell (by exact cell_lt (hcc j hlt))).trans (hcc j hlt)
      clear hcc
      have HX := hide (unhide HIS (P.getD j 0))
      have HN1 := hide (unhide HNO j hlt)
      have HMM : Hid (kd (P.getD j 0) ∈ ks → ∀ m, m < j + 1 → kd (P.getD m 0) ∈ ks) := fun h m hm => by
        by_cases e : m < j
        · exact unhide HM m e
        · have : m = j := by omega
          subst this
          exact h
      generalize P.getD j 0 = x at *
      by_cases hin : kd x ∈ ks
      · rw [decide_eq_true hin] at HX
        have HM2 := hide (unhide HMM hin)
        clear hin
        go_wp2_with (go_at_call 24; refine (unhide HX _ c1').mono ?_; rintro e w2 ⟨rfl, b2⟩)
        go_roundw
        case rel => exact ⟨j + 1, by omega, by go_num, HM2, hb.trans (b2.mono hb.size)⟩
        case measure => simp [intOf]; omega
      · rw [decide_eq_false hin] at HX
        have HZ : Hid ((ok && P.all fun x => decide (kd x ∈ ks)) = false) := by show _ = _; rw [unhide HN1 hin, Bool.and_false]
        clear hin
        go_wp2_with (go_at_call 24; refine (unhide HX _ c1').mono ?_; rintro e w2 ⟨rfl, b2⟩)
        go_ret
        exact ⟨ret_bool (unhide HZ).symm, c1'.trans (b2.mono c1'.size)⟩
    · have hzl : ¬ (j : Int) < (P.length : Int) := by omega
      obtain rfl : j = P.length := by omega
      have HZ : Hid ((ok && P.all fun x => decide (kd x ∈ ks)) = (E == 0)) := by show _ = _; rw [unhide HAL (unhide HM), Bool.and_true, unhide HEO]
      go_wp2
      go_ret
      exact ⟨ret_bool (unhide HZ).symm, c1'⟩
end Go.Proofs.Ytegpdppfdgcljaa
