/- The document's answer of layer 23. -/
import Derived.Test.YtmemflanfklmpaaMath23
import Derived.Test.YtmemflanfklmpaaBase
import Derived.Test.YtmemflanfklmpaaOwn
import Derived.Test.YtmemflanfklmpaaRn
import Derived.Lib.Strings
namespace Go.Proofs.Ytmemflanfklmpaa
open Go.RowKit

/-- The bytes of a text. -/
abbrev bts (s : ByteArray) : List UInt8 := s.data.toList
abbrev ofb (l : List UInt8) : ByteArray := ⟨l.toArray⟩
theorem ofb_bts (s : ByteArray) : ofb (bts s) = s := by cases s; simp
theorem bts_ofb (l : List UInt8) : bts (ofb l) = l := by simp
theorem bts_len (s : ByteArray) : (bts s).length = s.size := by show s.data.toList.length = s.data.size; simp
theorem ofb_size (l : List UInt8) : (ofb l).size = l.length := by show l.toArray.size = _; simp
theorem bts_at (s : ByteArray) (k : Nat) (h : k < s.size) : (bts s).getD k 0 = s[k] := by
  have h2 : k < (bts s).length := by rw [bts_len]; exact h
  rw [List.getD, List.getElem?_eq_getElem h2, Option.getD_some]
  show s.data.toList[k] = _
  rw [Array.getElem_toList]
  rfl
theorem bts_nat (s : ByteArray) (k : Nat) (h : k < s.size) (c : Int) (hc : (s[k].toNat : Int) = c) : (((bts s).getD k 0).toNat : Int) = c := by rw [bts_at s k h]; exact hc
theorem zero_iff (c : UInt8) : (c.toNat : Int) = 0 ↔ c = 0 := by
  constructor
  · intro h
    exact UInt8.toNat_inj.1 (by have : (0 : UInt8).toNat = 0 := rfl; omega)
  · intro h; rw [h]; rfl
theorem txt23 (a b : ByteArray) : (a.toList == b.toList) = decide (a = b) := by
  rw [Lib.toList_data, Lib.toList_data]
  by_cases h : a = b
  · rw [decide_eq_true h, h]; simp
  · rw [decide_eq_false h, beq_eq_false_iff_ne]
    intro e
    apply h
    rw [← ofb_bts a, ← ofb_bts b]
    show ofb a.data.toList = ofb b.data.toList
    rw [e]
def chkE (s : ByteArray) : Int := if okK (bts s) then 0 else 220
theorem chk_yes {s : ByteArray} (h : okK (bts s) = true) : chkE s = 0 := if_pos h
theorem chk_no {s : ByteArray} (h : okK (bts s) = false) : chkE s = 220 := by unfold chkE; rw [h]; rfl
/-- Is place k one at which a part begins? -/
def frs (l : List UInt8) (k : Nat) : Bool := decide (k = 0) || (l.getD (k - 1) 0 == 0)
theorem drop_at (l : List UInt8) (k : Nat) (h : k < l.length) : l.drop k = l.getD k 0 :: l.drop (k + 1) := by
  rw [List.drop_eq_getElem_cons h]
  simp [List.getD, h]
theorem frs_succ (l : List UInt8) (k : Nat) : frs l (k + 1) = (l.getD k 0 == 0) := by
  unfold frs
  simp
theorem okF_step {l : List UInt8} {k : Nat} (h : k < l.length) : okF (frs l k) (l.drop k) = if l.getD k 0 = 0 then (!(frs l k) && okF (frs l (k + 1)) (l.drop (k + 1))) else okF (frs l (k + 1)) (l.drop (k + 1)) := by
  rw [drop_at l k h, okF_cons, frs_succ]
  by_cases h0 : l.getD k 0 = 0
  · rw [if_pos h0, if_pos h0, h0]; rfl
  · rw [if_neg h0, if_neg h0]
    have : (l.getD k 0 == 0) = false := by simpa using h0
    rw [this]
theorem ret_i {a b : Int} (h : a = b) : Ending.returned (.int .i64 a) = .returned (.int .i64 b) := by rw [h]
set_option maxHeartbeats 1600000 in
theorem rcheck_any (s : ByteArray) (w : World) (hs : s.size ≤ 1000000) : Calls Try.prog 13 #[.string s] w fun e w' => e = .returned (.int .i64 (chkE s)) ∧ w = w' := by
  have hbl := bts_len s
  go_enter Try.func13, Try.ntmps13
  go_wp2
  go_loop [3] (fun i => ∃ k : Nat, k ≤ s.size ∧ i = .int .i64 (k : Int) ∧ Hid (okK (bts s) = okF (frs (bts s) k) ((bts s).drop k))) (fun i => s.size - (intOf i).toNat)
  case atStart => exact ⟨0, Nat.zero_le _, rfl, rfl⟩
  case round =>
    obtain ⟨k, hk, rfl, HK⟩ := hrel
    by_cases hlt : k < s.size
    · have zk0 : (0 : Int) ≤ (k : Int) := by omega
      have zkl : (k : Int) < (s.size : Int) := by omega
      obtain ⟨c, hc⟩ : ∃ c : Int, (s[k].toNat : Int) = c := ⟨_, rfl⟩
      have hcn := bts_nat s k hlt c hc
      have hst := okF_step (l := bts s) (k := k) (by omega)
      by_cases h0 : c = 0
      · have hz : (bts s).getD k 0 = 0 := (zero_iff _).1 (by rw [hcn, h0])
        rw [if_pos hz] at hst
        subst h0
        cases k with
        | zero =>
          have HE : Hid (220 = chkE s) := by
            refine (chk_no ?_).symm
            rw [unhide HK, hst]
            rfl
          clear HK hst hcn hz
          go_wp2
          go_ret
          exact ⟨ret_i (unhide HE), rfl⟩
        | succ m =>
          have hm : m < s.size := by omega
          have zm0 : (0 : Int) ≤ (m : Int) := by omega
          have zml : (m : Int) < (s.size : Int) := by omega
          have zmk : ((m : Int) + 1 == 0) = false := by rw [beq_eq_false_iff_ne]; omega
          obtain ⟨p, hp⟩ : ∃ p : Int, (s[m].toNat : Int) = p := ⟨_, rfl⟩
          have hpn := bts_nat s m hm p hp
          rw [frs_succ] at hst
          by_cases hp0 : p = 0
          · have hz1 : (bts s).getD m 0 = 0 := (zero_iff _).1 (by rw [hpn, hp0])
            have HE : Hid (220 = chkE s) := by
              refine (chk_no ?_).symm
              rw [unhide HK, frs_succ, hst, hz1]
              rfl
            subst hp0
            clear HK hst hcn hz hpn hz1
            go_wp2
            go_ret
            exact ⟨ret_i (unhide HE), rfl⟩
          · have hz1 : ((bts s).getD m 0 == 0) = false := by
              rw [beq_eq_false_iff_ne]
              intro e
              exact hp0 (by rw [← hpn, e]; rfl)
            have HN : Hid (okK (bts s) = okF (frs (bts s) (m + 1 + 1)) ((bts s).drop (m + 1 + 1))) := by
              show _ = _
              rw [unhide HK, frs_succ, hst, hz1]
              rfl
            have hq : (p == 0) = false := by simpa using hp0
            clear HK hst hcn hz hpn hz1 hp0
            go_wp2
            go_round
            case rel => exact ⟨m + 1 + 1, by omega, by go_num, unhide HN⟩
            case measure => simp [intOf]; omega
      · have hz : ¬ (bts s).getD k 0 = 0 := fun e => h0 (by rw [← hcn, e]; rfl)
        rw [if_neg hz] at hst
        have HN : Hid (okK (bts s) = okF (frs (bts s) (k + 1)) ((bts s).drop (k + 1))) := (unhide HK).trans hst
        have hq : (c == 0) = false := by simpa using h0
        clear HK hst hcn hz h0
        go_wp2
        go_round
        case rel => exact ⟨k + 1, by omega, by go_num, unhide HN⟩
        case measure => simp [intOf]; omega
    · have zkl : ¬ (k : Int) < (s.size : Int) := by omega
      obtain rfl : k = s.size := by omega
      have hd : (bts s).drop s.size = [] := by rw [List.drop_eq_nil_of_le (by omega)]
      rw [hd, okF_nil] at HK
      cases hn : s.size with
      | zero =>
        have HE : Hid (0 = chkE s) := by
          refine (chk_yes ?_).symm
          rw [unhide HK, hn]
          rfl
        have hz : (s.size : Int) = 0 := by omega
        have hz2 : ¬ (0 : Int) < (s.size : Int) := by omega
        have HNN := hide hn
        clear HK hn hd
        go_wp2
        go_ret
        exact ⟨ret_i (unhide HE), rfl⟩
      | succ m =>
        have hm : m < s.size := by omega
        have zm0 : (0 : Int) ≤ (m : Int) := by omega
        have zml : (m : Int) < (s.size : Int) := by omega
        have zsz : (s.size : Int) - 1 = (m : Int) := by omega
        have hz2 : (0 : Int) < (s.size : Int) := by omega
        obtain ⟨p, hp⟩ : ∃ p : Int, (s[m].toNat : Int) = p := ⟨_, rfl⟩
        have hpn := bts_nat s m hm p hp
        rw [hn, frs_succ] at HK
        have HNN := hide hn
        clear hn hd
        by_cases hp0 : p = 0
        · have hz1 : (bts s).getD m 0 = 0 := (zero_iff _).1 (by rw [hpn, hp0])
          have HE : Hid (0 = chkE s) := by
            refine (chk_yes ?_).symm
            rw [unhide HK, hz1]
            rfl
          subst hp0
          clear HK hpn hz1
          go_wp2
          go_ret
          exact ⟨ret_i (unhide HE), rfl⟩
        · have HE : Hid (220 = chkE s) := by
            refine (chk_no ?_).symm
            rw [unhide HK, beq_eq_false_iff_ne]
            intro e
            exact hp0 (by rw [← hpn, e]; rfl)
          have hq : (p == 0) = false := by simpa using hp0
          clear HK hpn hp0
          go_wp2
          go_ret
          exact ⟨ret_i (unhide HE), rfl⟩
end Go.Proofs.Ytmemflanfklmpaa
