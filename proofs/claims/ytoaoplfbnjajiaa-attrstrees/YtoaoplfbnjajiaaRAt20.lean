/- The document's at, fits, one of layer 20. -/
import Derived.Test.YtoaoplfbnjajiaaTy20
import Derived.Test.YtoaoplfbnjajiaaRChk18
namespace Go.Proofs.Ytoaoplfbnjajiaa
open Go.RowKit

set_option maxHeartbeats 1600000 in
theorem rat_any (v : Value) (l : List Ty) (n : ByteArray) (w : World) (hV : TysV w v l) : Calls Try.prog 26 #[v, .string n] w fun e w' => e = .returned (.int .i64 (ixT l n)) ∧ w = w' := by
  obtain ⟨a, cap, rfl, hn, hc⟩ := hV
  have HC := hide hc
  have hn2 : (l.length : Int) ≤ 9223372036854775807 := by omega
  clear hc
  go_enter Try.func26, Try.ntmps26
  go_wp2
  go_loop [5] (fun i => ∃ k : Nat, k ≤ l.length ∧ i = .int .i64 (k : Int) ∧ Hid (ixF n (l.drop k) k = ixT l n)) (fun i => l.length - (intOf i).toNat)
  case atStart => exact ⟨0, Nat.zero_le _, rfl, rfl⟩
  case round =>
    obtain ⟨k, hk, rfl, HK⟩ := hrel
    by_cases hlt : k < l.length
    · have hzl : (k : Int) < (l.length : Int) := by omega
      have hz0 : (0 : Int) ≤ (k : Int) := by omega
      obtain ⟨b, off, rfl, hcc⟩ := unhide HC (by omega)
      obtain ⟨q0, _⟩ := hcc k hlt
      have HD := hide (drop_consT l k hlt)
      clear hcc HC
      generalize l.getD k ty0 = t at *
      have hq := txt_beq t.nam n
      by_cases h : t.nam = n
      · rw [decide_eq_true h] at hq
        have HE : Hid ((k : Int) = ixT l n) := by show _ = _; rw [← unhide HK, unhide HD, ixF, if_pos h]
        clear h HK HD
        go_wp2
        go_ret
        exact ⟨ret_int (unhide HE), rfl⟩
      · rw [decide_eq_false h] at hq
        have HK2 : Hid (ixF n (l.drop (k + 1)) (k + 1) = ixT l n) := by show _ = _; rw [← unhide HK, unhide HD, ixF, if_neg h]
        clear h HK HD
        go_wp2
        go_round
        case rel => exact ⟨k + 1, by omega, by go_num, unhide HK2⟩
        case measure => simp [intOf]; omega
    · have hzl : ¬ (k : Int) < (l.length : Int) := by omega
      have HE : Hid (-1 = ixT l n) := by show _ = _; rw [← unhide HK, List.drop_eq_nil_of_le (by omega)]; rfl
      clear HK
      go_wp2
      go_ret
      exact ⟨ret_int (unhide HE), rfl⟩
set_option maxHeartbeats 1600000 in
theorem rfits_any (s r : Int) (w : World) : Calls Try.prog 33 #[.int .i64 s, .int .i64 r] w fun e w' => e = .returned (.bool (fitR s r)) ∧ w = w' := by
  by_cases h1 : s < 1
  · have HE : Hid (fitR s r = false) := by show _ = _; unfold fitR; rw [if_pos (.inl h1)]
    go_enter Try.func33, Try.ntmps33
    go_wp2
    go_ret
    exact ⟨ret_bool (unhide HE).symm, rfl⟩
  by_cases h2 : 10 < s
  · have HE : Hid (fitR s r = false) := by show _ = _; unfold fitR; rw [if_pos (.inr h2)]
    go_enter Try.func33, Try.ntmps33
    go_wp2
    go_ret
    exact ⟨ret_bool (unhide HE).symm, rfl⟩
  have HF : Hid (fitR s r = if s = 1 ∨ s = 2 then decide (0 ≤ r ∧ r ≤ 2) else if s = 10 then decide (r = 0 ∨ r = 10 ∨ r = 11) else decide (r = 0 ∨ r = s)) := by show _ = _; unfold fitR; rw [if_neg (by omega)]
  by_cases h3 : s = 1 ∨ s = 2
  · rw [if_pos h3] at HF
    by_cases a1 : 0 ≤ r <;> by_cases a2 : r ≤ 2
    all_goals
      have HE : Hid (fitR s r = _) := (unhide HF).trans (by first | exact decide_eq_true ⟨a1, a2⟩ | exact decide_eq_false (fun q => a1 q.1) | exact decide_eq_false (fun q => a2 q.2))
      clear HF
      rcases h3 with rfl | rfl
      all_goals
        clear h1 h2
        go_enter Try.func33, Try.ntmps33
        go_wp2
        go_ret
        exact ⟨ret_bool (unhide HE).symm, rfl⟩
  rw [if_neg h3] at HF
  have e1 : (s == 1) = false := by rw [beq_eq_false_iff_ne]; omega
  have e2 : (s == 2) = false := by rw [beq_eq_false_iff_ne]; omega
  by_cases h4 : s = 10
  · rw [if_pos h4] at HF
    subst h4
    by_cases a1 : r = 0
    · have HE : Hid (fitR 10 r = true) := (unhide HF).trans (decide_eq_true (.inl a1))
      subst a1
      clear HF h1 h2 h3 e1 e2
      go_enter Try.func33, Try.ntmps33
      go_wp2
      go_ret
      exact ⟨ret_bool (unhide HE).symm, rfl⟩
    have b1 : (r == 0) = false := by rw [beq_eq_false_iff_ne]; exact a1
    by_cases a2 : r = 10
    · have HE : Hid (fitR 10 r = true) := (unhide HF).trans (decide_eq_true (.inr (.inl a2)))
      subst a2
      clear HF h1 h2 h3 e1 e2 a1 b1
      go_enter Try.func33, Try.ntmps33
      go_wp2
      go_ret
      exact ⟨ret_bool (unhide HE).symm, rfl⟩
    have b2 : (r == 10) = false := by rw [beq_eq_false_iff_ne]; exact a2
    by_cases a3 : r = 11
    · have HE : Hid (fitR 10 r = true) := (unhide HF).trans (decide_eq_true (.inr (.inr a3)))
      subst a3
      clear HF h1 h2 h3 e1 e2 a1 b1 a2 b2
      go_enter Try.func33, Try.ntmps33
      go_wp2
      go_ret
      exact ⟨ret_bool (unhide HE).symm, rfl⟩
    have b3 : (r == 11) = false := by rw [beq_eq_false_iff_ne]; exact a3
    have HE : Hid (fitR 10 r = false) := (unhide HF).trans (decide_eq_false (by omega))
    clear HF h1 h2 h3 e1 e2 a1 a2 a3
    go_enter Try.func33, Try.ntmps33
    go_wp2
    go_ret
    exact ⟨ret_bool (unhide HE).symm, rfl⟩
  rw [if_neg h4] at HF
  have e3 : (s == 10) = false := by rw [beq_eq_false_iff_ne]; exact h4
  by_cases a1 : r = 0
  · have HE : Hid (fitR s r = true) := (unhide HF).trans (decide_eq_true (.inl a1))
    subst a1
    clear HF h3 h4
    go_enter Try.func33, Try.ntmps33
    go_wp2
    go_ret
    exact ⟨ret_bool (unhide HE).symm, rfl⟩
  have b1 : (r == 0) = false := by rw [beq_eq_false_iff_ne]; exact a1
  by_cases a2 : r = s
  · have HE : Hid (fitR s r = true) := (unhide HF).trans (decide_eq_true (.inr a2))
    have b2 : (r == s) = true := by simpa using a2
    clear HF h3 h4 a1 a2
    go_enter Try.func33, Try.ntmps33
    go_wp2
    go_ret
    exact ⟨ret_bool (unhide HE).symm, rfl⟩
  have b2 : (r == s) = false := by rw [beq_eq_false_iff_ne]; exact a2
  have HE : Hid (fitR s r = false) := (unhide HF).trans (decide_eq_false (by omega))
  clear HF h3 h4 a1 a2
  go_enter Try.func33, Try.ntmps33
  go_wp2
  go_ret
  exact ⟨ret_bool (unhide HE).symm, rfl⟩
end Go.Proofs.Ytoaoplfbnjajiaa
