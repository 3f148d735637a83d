/- The laws' Few of layer 18. -/
import Derived.Test.YtpfpaponlmfofaaDoorRChk18
namespace Go.Proofs.YtpfpaponlmfofaaDoor
set_option maxRecDepth 100000
open Go.RowKit

def fewP (p : Pr) : Bool := decide (p.nam.size ≤ 1000 ∧ p.val.size ≤ 1000)
def fewR (r : List Pr) : Bool := decide (r.length ≤ 10) && r.all fewP
/-- Has a name so few parts and pairs, and values so short? -/
def fewN (n : List (List Pr)) : Bool := decide (n.length ≤ 10) && n.all fewR
theorem fewR_len {r : List Pr} (h : 10 < r.length) : fewR r = false := by unfold fewR; rw [decide_eq_false (by omega)]; rfl
theorem fewN_len {n : List (List Pr)} (h : 10 < n.length) : fewN n = false := by unfold fewN; rw [decide_eq_false (by omega)]; rfl
theorem fewR_no {r : List Pr} {k : Nat} (hk : k < r.length) (h : fewP (r.getD k pr0) = false) : fewR r = false := by
  cases e : r.all fewP
  · unfold fewR; rw [e, Bool.and_false]
  · rw [all_at (d := pr0) e k hk] at h; cases h
theorem fewN_no {n : List (List Pr)} {k : Nat} (hk : k < n.length) (h : fewR (n.getD k []) = false) : fewN n = false := by
  cases e : n.all fewR
  · unfold fewN; rw [e, Bool.and_false]
  · rw [all_at (d := []) e k hk] at h; cases h
theorem fewR_yes {r : List Pr} (h1 : ¬ 10 < r.length) (h : ∀ k, k < r.length → fewP (r.getD k pr0) = true) : fewR r = true := by
  unfold fewR; rw [decide_eq_true (by omega), all_of fewP pr0 r h]; rfl
theorem fewN_yes {n : List (List Pr)} (h1 : ¬ 10 < n.length) (h : ∀ k, k < n.length → fewR (n.getD k []) = true) : fewN n = true := by
  unfold fewN; rw [decide_eq_true (by omega), all_of fewR [] n h]; rfl
set_option maxHeartbeats 3200000 in
theorem few_any (v : Value) (n : List (List Pr)) (w : World) (hV : NmV w v n) : Calls Tryd.prog 9 #[v] w fun e w' => e = .returned (.bool (fewN n)) ∧ w = w' := by
  obtain ⟨a, cap, rfl, hcap, hn, hc⟩ := hV
  have HC := hide hc
  clear hc
  by_cases h6 : 10 < n.length
  · have z : 10 < (n.length : Int) := by omega
    have HE := hide (fewN_len h6)
    generalize fewN n = x at *
    generalize n.length = m at *
    go_enter Tryd.func9, Tryd.ntmps9
    go_wp2
    go_ret
    exact ⟨ret_bool (unhide HE).symm, rfl⟩
  have z6 : ¬ 10 < (n.length : Int) := by omega
  go_enter Tryd.func9, Tryd.ntmps9
  go_wp2
  go_loopw [3] (fun i wr => ∃ k : Nat, k ≤ n.length ∧ i = .int .i64 k ∧ Hid (∀ j, j < k → fewR (n.getD j []) = true) ∧ wr = w) (fun i _ => n.length - (intOf i).toNat)
  case atStart => exact ⟨0, Nat.zero_le _, rfl, fun j hj => absurd hj (Nat.not_lt_zero _), rfl⟩
  case round =>
    obtain ⟨i, hi, rfl, HK, rfl⟩ := hrel
    by_cases hlt : i < n.length
    · have hzl : (i : Int) < (n.length : Int) := by omega
      have hz0 : (0 : Int) ≤ (i : Int) := by omega
      obtain ⟨b, off, rfl, hcc⟩ := unhide HC (by omega)
      obtain ⟨rv, c1, a2, cap2, rfl, hn2, hc2⟩ := hcc i hlt
      clear hcc
      have HN : Hid (fewR (n.getD i []) = false → fewN n = false) := fun h => fewN_no hlt h
      have HY : Hid (fewR (n.getD i []) = true → ∀ j, j < i + 1 → fewR (n.getD j []) = true) := fun h => ok_next (unhide HK) h
      generalize n.getD i [] = r at *
      have HC2 := hide hc2
      clear hc2
      by_cases l3 : 10 < r.length
      · have z3 : 10 < (r.length : Int) := by omega
        have HE := hide (unhide HN (fewR_len l3))
        go_wp2
        go_ret
        exact ⟨ret_bool (unhide HE).symm, rfl⟩
      have z3 : ¬ 10 < (r.length : Int) := by omega
      go_wp2
      go_loopw [4] (fun i wr2 => ∃ k : Nat, k ≤ r.length ∧ i = .int .i64 k ∧ Hid (∀ j, j < k → fewP (r.getD j pr0) = true) ∧ wr2 = wr) (fun i _ => r.length - (intOf i).toNat)
      case atStart => exact ⟨0, Nat.zero_le _, rfl, fun j hj => absurd hj (Nat.not_lt_zero _), rfl⟩
      case round =>
        obtain ⟨k, hk, rfl, HP, rfl⟩ := hrel
        by_cases hlt2 : k < r.length
        · have yzl : (k : Int) < (r.length : Int) := by omega
          have yz0 : (0 : Int) ≤ (k : Int) := by omega
          obtain ⟨b2, off2, rfl, hcc2⟩ := unhide HC2 (by omega)
          obtain ⟨q1, q2⟩ := hcc2 k hlt2
          clear hcc2
          have HPN : Hid (fewP (r.getD k pr0) = false → fewN n = false) := fun h => unhide HN (fewR_no hlt2 h)
          have HPY : Hid (fewP (r.getD k pr0) = true → ∀ j, j < k + 1 → fewP (r.getD j pr0) = true) := fun h => ok_next (unhide HP) h
          generalize r.getD k pr0 = p at *
          by_cases v0 : 1000 < p.nam.size
          · have y0 : 1000 < (p.nam.size : Int) := by omega
            have HE := hide (unhide HPN (by unfold fewP; rw [decide_eq_false (by omega)]))
            go_wp2
            go_ret
            exact ⟨ret_bool (unhide HE).symm, rfl⟩
          have y0 : ¬ 1000 < (p.nam.size : Int) := by omega
          by_cases v4 : 1000 < p.val.size
          · have y4 : 1000 < (p.val.size : Int) := by omega
            have HE := hide (unhide HPN (by unfold fewP; rw [decide_eq_false (by omega)]))
            go_wp2
            go_ret
            exact ⟨ret_bool (unhide HE).symm, rfl⟩
          · have y4 : ¬ 1000 < (p.val.size : Int) := by omega
            have HE := hide (unhide HPY (by unfold fewP; rw [decide_eq_true (by omega)]))
            go_wp2
            go_roundw
            case rel => exact ⟨k + 1, by omega, by go_num, unhide HE, trivial⟩
            case measure => simp [intOf]; omega
        · have yzl : ¬ (k : Int) < (r.length : Int) := by omega
          obtain rfl : k = r.length := by omega
          have HE := hide (unhide HY (fewR_yes l3 (unhide HP)))
          go_wp2
          go_roundw
          case rel => exact ⟨i + 1, by omega, by go_num, unhide HE, trivial⟩
          case measure => simp [intOf]; omega
    · have hzl : ¬ (i : Int) < (n.length : Int) := by omega
      obtain rfl : i = n.length := by omega
      have HE := hide (fewN_yes h6 (unhide HK))
      go_wp2
      go_ret
      exact ⟨ret_bool (unhide HE).symm, rfl⟩
end Go.Proofs.YtpfpaponlmfofaaDoor
