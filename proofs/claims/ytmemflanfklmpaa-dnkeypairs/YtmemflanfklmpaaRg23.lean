/- The document's Depth, Above, Under, Next, Move, Behind of layer 23. -/
import Derived.Test.YtmemflanfklmpaaRf23
namespace Go.Proofs.Ytmemflanfklmpaa
open Go.RowKit

theorem take_at (l : List UInt8) (k : Nat) (h : k < l.length) : l.take (k + 1) = l.take k ++ [l.getD k 0] := by
  rw [List.take_add_one]
  simp [List.getD, h]
theorem zer_step {l : List UInt8} {k : Nat} (h : k < l.length) : zer (l.take (k + 1)) = zer (l.take k) + (if l.getD k 0 = 0 then 1 else 0) := by
  rw [take_at l k h, zer_app]
  generalize l.getD k 0 = c
  by_cases h0 : c = 0
  · subst h0; rfl
  · rw [if_neg h0]
    unfold zer
    simp [h0]
theorem zer_le (l : List UInt8) : zer l ≤ l.length := List.length_filter_le _ _
set_option maxHeartbeats 1600000 in
theorem rdepth_any (s : ByteArray) (w : World) (hs : s.size ≤ 1000000) : Calls Try.prog 15 #[.string s] w fun e w' => e = .returned (.int .i64 (depK (bts s))) ∧ w = w' := by
  have CC := hide (rcheck_any s w hs)
  have hbl := bts_len s
  by_cases hk : okK (bts s) = true
  · have HD : Hid (depK (bts s) = (zer (bts s) : Int)) := if_pos hk
    rw [chk_yes hk] at CC
    clear hk
    go_enter Try.func15, Try.ntmps15
    go_wp2_with (go_at_call 13; refine (unhide CC).mono ?_; rintro e w2 ⟨rfl, rfl⟩)
    go_loop [3, 4] (fun n i => ∃ k : Nat, k ≤ s.size ∧ i = .int .i64 (k : Int) ∧ n = .int .i64 (zer ((bts s).take k) : Int)) (fun _ i => s.size - (intOf i).toNat)
    case atStart => exact ⟨0, Nat.zero_le _, rfl, rfl⟩
    case round =>
      obtain ⟨k, hk, rfl, rfl⟩ := hrel
      by_cases hlt : k < s.size
      · have zk0 : (0 : Int) ≤ (k : Int) := by omega
        have zkl : (k : Int) < (s.size : Int) := by omega
        obtain ⟨c, hc⟩ : ∃ c : Int, (s[k].toNat : Int) = c := ⟨_, rfl⟩
        have hcn := bts_nat s k hlt c hc
        have hst := zer_step (l := bts s) (k := k) (by omega)
        have hzl : zer ((bts s).take k) ≤ k := Nat.le_trans (zer_le _) (by rw [List.length_take]; omega)
        by_cases h0 : c = 0
        · rw [if_pos ((zero_iff _).1 (by rw [hcn, h0]))] at hst
          have HS := hide hst
          subst h0
          clear hst hcn
          generalize zer ((bts s).take k) = z at *
          go_wp2
          go_round
          case rel => exact ⟨k + 1, by omega, by go_num, by rw [unhide HS]; go_num⟩
          case measure => simp [intOf]; omega
        · rw [if_neg (fun e => h0 (by rw [← hcn, e]; rfl)), Nat.add_zero] at hst
          have HS := hide hst
          have hq : (c == 0) = false := by simpa using h0
          clear hst hcn h0
          generalize zer ((bts s).take k) = z at *
          go_wp2
          go_round
          case rel => exact ⟨k + 1, by omega, by go_num, by rw [unhide HS]; rfl⟩
          case measure => simp [intOf]; omega
      · have zkl : ¬ (k : Int) < (s.size : Int) := by omega
        obtain rfl : k = s.size := by omega
        have ht : (bts s).take s.size = bts s := List.take_of_length_le (by omega)
        rw [ht]
        clear ht hbl
        generalize hz : zer (bts s) = z at *
        have HZ := hide hz
        clear hz
        go_wp2
        go_ret
        exact ⟨ret_i (unhide HD).symm, rfl⟩
  · have hk' : okK (bts s) = false := by simpa using hk
    have HD : Hid (-1 = depK (bts s)) := (if_neg hk).symm
    rw [chk_no hk'] at CC
    clear hk hk'
    go_enter Try.func15, Try.ntmps15
    go_wp2_with (go_at_call 13; refine (unhide CC).mono ?_; rintro e w2 ⟨rfl, rfl⟩)
    go_ret
    exact ⟨ret_i (unhide HD), rfl⟩
/-- Is there a part? -/
def hasP (s : ByteArray) : Bool := okK (bts s) && decide (s.size ≠ 0)
theorem dep_pos {s : ByteArray} : (1 ≤ depK (bts s)) ↔ hasP s = true := by
  unfold hasP depK
  by_cases hk : okK (bts s) = true
  · rw [if_pos hk, hk, Bool.true_and, decide_eq_true_eq]
    constructor
    · intro h e
      have hb := bts_len s
      rw [e] at hb
      have : bts s = [] := List.eq_nil_of_length_eq_zero hb
      rw [this] at h
      have : zer ([] : List UInt8) = 0 := rfl
      omega
    · intro h
      have : zer (bts s) ≠ 0 := fun e => h (by rw [← bts_len, zer_nil hk e]; rfl)
      omega
  · rw [if_neg hk]
    have : okK (bts s) = false := by simpa using hk
    rw [this]
    simp
def aboS (s : ByteArray) : ByteArray := if hasP s then ofb (aboK (bts s)) else ⟨#[]⟩
theorem ret_sb {a b : ByteArray} {x y : Bool} (h1 : a = b) (h2 : x = y) : Ending.returned (.tuple #[.string a, .bool x]) = .returned (.tuple #[.string b, .bool y]) := by rw [h1, h2]
theorem ext_take (s : ByteArray) (n : Nat) : s.extract 0 n = ofb ((bts s).take n) := by
  apply ByteArray.ext
  rw [ByteArray.data_extract]
  apply Array.ext'
  simp
set_option maxHeartbeats 1600000 in
theorem rabove_any (s : ByteArray) (w : World) (hs : s.size ≤ 1000000) : Calls Try.prog 11 #[.string s] w fun e w' => e = .returned (.tuple #[.string (aboS s), .bool (hasP s)]) ∧ w = w' := by
  have CD := hide (rdepth_any s w hs)
  have hbl := bts_len s
  have hdp := dep_pos (s := s)
  unfold aboS
  cases hp : hasP s
  · rw [hp] at hdp
    have hlt : depK (bts s) < 1 := by
      have : ¬ 1 ≤ depK (bts s) := fun h => by have := hdp.1 h; cases this
      omega
    have HH := hide hp
    clear hp hdp
    generalize depK (bts s) = d at *
    go_enter Try.func11, Try.ntmps11
    go_wp2_with (go_at_call 15; refine (unhide CD).mono ?_; rintro e w2 ⟨rfl, rfl⟩)
    refine bodyPost_ret (results_tmp2 rfl _ _ _) rfl ?_
    exact ⟨rfl, rfl⟩
  · have hlt : ¬ depK (bts s) < 1 := by rw [hp] at hdp; have := hdp.2 rfl; omega
    have h2 := hp
    unfold hasP at h2
    rw [Bool.and_eq_true, decide_eq_true_eq] at h2
    obtain ⟨hk, hz⟩ := h2
    obtain ⟨p, q, hl, hpk, hq, _⟩ := okK_split (fun e => hz (by rw [← hbl, e]; rfl)) hk
    have HA : Hid (ofb p = ofb (aboK (bts s))) := by show _ = _; rw [hl, abo_at hpk hq]
    have hlen : s.size = p.length + q.length + 1 := by rw [← hbl, hl, List.length_append, List.length_append]; rfl
    have HQ : Hid (∀ j, j < q.length → ∀ h : p.length + j < s.size, s[p.length + j] ≠ 0) := fun j hj h => by
      rw [← bts_at s _ h, hl]
      have e : (p ++ (q ++ [0])).getD (p.length + j) 0 = q[j] := by
        rw [List.getD, List.getElem?_append_right (by omega), Nat.add_sub_cancel_left, List.getElem?_append_left hj, List.getElem?_eq_getElem hj]
        rfl
      rw [e]
      exact hq _ (List.getElem_mem hj)
    have HP : Hid (p ≠ [] → ∀ h : p.length - 1 < s.size, s[p.length - 1] = 0) := fun h0 h => by
      obtain ⟨c, rfl⟩ := okF_last true p h0 hpk
      rw [← bts_at s _ h, hl]
      simp
    have HT : Hid (s.extract 0 p.length = ofb p) := by
      show _ = _
      rw [ext_take, hl, List.take_left]
    have HH := hide hp
    have HL := hide hlen
    obtain ⟨m, hm⟩ : ∃ m, m = p.length + q.length := ⟨_, rfl⟩
    have zs : (s.size : Int) - 1 = (m : Int) := by omega
    have HM := hide hm
    have hs1 : s.size = m + 1 := by omega
    have HS1 := hide hs1
    clear hp hdp hk hz hl hpk hq hlen hm hs1 hbl
    generalize depK (bts s) = d at *
    go_enter Try.func11, Try.ntmps11
    go_wp2_with (go_at_call 15; refine (unhide CD).mono ?_; rintro e w2 ⟨rfl, rfl⟩)
    go_loop [4] (fun i => ∃ j : Nat, j ≤ q.length ∧ i = .int .i64 ((p.length + j : Nat) : Int)) (fun i => (intOf i).toNat)
    case atStart => exact ⟨q.length, Nat.le_refl _, by rw [← unhide HM]⟩
    case round =>
      obtain ⟨j, hj, rfl⟩ := hrel
      cases j with
      | succ j =>
        have hkj : p.length + j < s.size := by have := unhide HS1; have := unhide HM; omega
        have hne := unhide HQ j (by omega) hkj
        obtain ⟨k, hk⟩ : ∃ k, k = p.length + j := ⟨_, rfl⟩
        have e1 : p.length + (j + 1) = k + 1 := by omega
        have hkl : k < s.size := by omega
        have hne2 : s[k] ≠ 0 := by subst hk; exact hne
        rw [e1]
        have HK := hide hk
        clear hk hne hkj e1
        obtain ⟨c, hc⟩ : ∃ c : Int, (s[k].toNat : Int) = c := ⟨_, rfl⟩
        have hc0 : (c == 0) = false := by
          rw [beq_eq_false_iff_ne]
          intro e
          exact hne2 ((zero_iff _).1 (by rw [hc, e]))
        have zk0 : (0 : Int) ≤ (k : Int) := by omega
        have zkl : (k : Int) < (s.size : Int) := by omega
        have zk1 : (0 : Int) < (k : Int) + 1 := by omega
        clear hne2 HQ HP HT HA
        go_wp2
        go_round
        case rel => exact ⟨j, by omega, by rw [← unhide HK]⟩
        case measure => simp [intOf]
      | zero =>
        rw [Nat.add_zero]
        have zl0 : p.length ≤ s.size := by have := unhide HS1; have := unhide HM; omega
        cases hp0 : p.length with
        | zero =>
          rw [hp0] at HT
          have HPE : Hid (s.extract 0 0 = ofb (aboK (bts s))) := (unhide HT).trans (unhide HA)
          clear HP HQ HT HA
          go_wp2
          refine bodyPost_ret (results_tmp2 rfl _ _ _) rfl ?_
          exact ⟨ret_sb (by first | exact unhide HPE | (rw [← unhide HPE]; simp)) rfl, rfl⟩
        | succ k =>
          have hkl : k < s.size := by omega
          have hz := unhide HP (fun e => by rw [e] at hp0; cases hp0) (by omega)
          have hz2 : s[k] = 0 := by
            have e : p.length - 1 = k := by omega
            subst e
            exact hz
          have hc : (s[k].toNat : Int) = 0 := by rw [hz2]; rfl
          rw [hp0] at HT
          have HPE : Hid (s.extract 0 (k + 1) = ofb (aboK (bts s))) := (unhide HT).trans (unhide HA)
          have zk0 : (0 : Int) ≤ (k : Int) := by omega
          have zkl : (k : Int) < (s.size : Int) := by omega
          have zk1 : (0 : Int) < (k : Int) + 1 := by omega
          have zk2 : (k : Int) + 1 ≤ (s.size : Int) := by omega
          have zk3 : (0 : Int) ≤ (k : Int) + 1 := by omega
          have ztn : ((k : Int) + 1).toNat = k + 1 := by omega
          clear HP HQ HT HA hz hz2 hp0
          go_wp2
          refine bodyPost_ret (results_tmp2 rfl _ _ _) rfl ?_
          exact ⟨ret_sb (unhide HPE) rfl, rfl⟩
end Go.Proofs.Ytmemflanfklmpaa
