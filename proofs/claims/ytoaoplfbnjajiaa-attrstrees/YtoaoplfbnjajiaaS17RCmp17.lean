/- The document's Cmp, Under and Above of layer 17, and the sameness of two lists. -/
import Derived.Test.YtoaoplfbnjajiaaS17RChk17
namespace Go.Proofs.Ytoaoplfbnjajiaa.S17
open Go.RowKit

set_option maxHeartbeats 800000 in
theorem rcmp_none (a b : Option Addr) (n m c d : Nat) (w : World) (hn : n ≤ 9223372036854775807) (hm : m ≤ 9223372036854775807) (h : n = 0 ∨ m = 0) :
    Calls Try.prog 13 #[.slice a n c, .slice b m d] w fun e w' => e = .returned (.int .i64 (if n < m then -1 else if m < n then 1 else 0)) ∧ Gr w w' := by
  by_cases n0 : n = 0
  · subst n0
    by_cases m0 : m = 0
    · subst m0
      go_enter Try.func13, Try.ntmps13
      go_wp2
      refine wp_loop_rounds 1 ?_
      rw [rounds_succ]
      go_wp2
      go_ret
      exact ⟨rfl, Gr.refl _⟩
    · have h1 : (0 : Int) < (m : Int) := by omega
      go_enter Try.func13, Try.ntmps13
      go_wp2
      refine wp_loop_rounds 1 ?_
      rw [rounds_succ]
      go_wp2
      go_ret
      exact ⟨ret_int (by first | rfl | rw [if_pos (by omega)]), Gr.refl _⟩
  · have m0 : m = 0 := by omega
    subst m0
    have h1 : (0 : Int) < (n : Int) := by omega
    have h2 : ¬ (n : Int) < 0 := by omega
    go_enter Try.func13, Try.ntmps13
    go_wp2
    refine wp_loop_rounds 1 ?_
    rw [rounds_succ]
    go_wp2
    go_ret
    exact ⟨ret_int (by first | rfl | rw [if_neg (by omega), if_pos (by omega)]), Gr.refl _⟩
set_option maxHeartbeats 1600000 in
theorem rcmp_some (b1 o1 c1 b2 o2 c2 : Nat) (l m : List Int) (w : World) (hl : l.length ≤ 9223372036854775806)
    (h1 : ∀ j, j < l.length → w.cell? ⟨b1, o1 + j, none⟩ = some (.int .i64 (l.getD j 0))) (h2 : ∀ j, j < m.length → w.cell? ⟨b2, o2 + j, none⟩ = some (.int .i64 (m.getD j 0))) :
    Calls Try.prog 13 #[.slice (some ⟨b1, o1, none⟩) l.length c1, .slice (some ⟨b2, o2, none⟩) m.length c2] w fun e w' => e = .returned (.int .i64 (cmpL l m)) ∧ Gr w w' := by
  have H1 := hide h1
  have H2 := hide h2
  clear h1 h2
  go_enter Try.func13, Try.ntmps13
  go_wp2
  go_loopw [5] (fun i wr => ∃ k : Nat, k ≤ l.length ∧ k ≤ m.length ∧ i = .int .i64 k ∧ cmpL l m = cmpL (l.drop k) (m.drop k) ∧ Gr w wr) (fun i _ => l.length - (intOf i).toNat)
  case atStart => exact ⟨0, Nat.zero_le _, Nat.zero_le _, rfl, rfl, Gr.refl _⟩
  case round =>
    obtain ⟨k, hk, hk2, rfl, hc, hnx⟩ := hrel
    have HC := hide hc
    clear hc
    by_cases hlt : k < l.length ∧ k < m.length
    · obtain ⟨hlt, hlt2⟩ := hlt
      have hzl : (k : Int) < (l.length : Int) := by omega
      have hzm : (k : Int) < (m.length : Int) := by omega
      have hz0 : (0 : Int) ≤ (k : Int) := by omega
      have g1 := unhide H1 k hlt
      have g2 := unhide H2 k hlt2
      have k1 : wr.cell? ⟨b1, o1 + k, none⟩ = some (.int .i64 (l.getD k 0)) := hnx.cell g1
      have k2 : wr.cell? ⟨b2, o2 + k, none⟩ = some (.int .i64 (m.getD k 0)) := hnx.cell g2
      have HS := hide (cmp_step l m k hlt hlt2)
      clear g1 g2
      generalize l.getD k 0 = x at *
      generalize m.getD k 0 = y at *
      by_cases xy : x < y
      · go_wp2
        go_quiet (fail)
        go_wp2
        go_ret
        refine ⟨ret_int ?_, hnx.drewN _⟩
        rw [unhide HC, unhide HS, if_pos xy]
      · go_wp2
        go_quiet (fail)
        go_wp2
        generalize hw1 : wr.drewN _ = w1 at *
        have hg1 : Gr w w1 := hw1 ▸ hnx.drewN _
        have q1 : w1.cell? ⟨b1, o1 + k, none⟩ = some (.int .i64 x) := hw1 ▸ k1
        have q2 : w1.cell? ⟨b2, o2 + k, none⟩ = some (.int .i64 y) := hw1 ▸ k2
        clear hw1 k1 k2
        by_cases yx : y < x
        · go_quiet (fail)
          go_wp2
          go_ret
          refine ⟨ret_int ?_, hg1.drewN _⟩
          rw [unhide HC, unhide HS, if_neg (by omega), if_pos yx]
        · go_quiet (fail)
          go_wp2
          go_roundw
          case rel => exact ⟨k + 1, by omega, by omega, by go_num, by rw [unhide HC, unhide HS, if_neg (by omega), if_neg (by omega)], hg1.drewN _⟩
          case measure => simp [intOf]; omega
    · have HS := hide (cmp_end l m k hk hk2 hlt)
      by_cases hlk : k < l.length
      · have a1 : (k : Int) < (l.length : Int) := by omega
        have a2 : ¬ (k : Int) < (m.length : Int) := by omega
        have a3 : ¬ (l.length : Int) < (m.length : Int) := by omega
        have a4 : (m.length : Int) < (l.length : Int) := by omega
        go_wp2
        go_ret
        refine ⟨ret_int ?_, hnx⟩
        rw [unhide HC, unhide HS, if_neg (by omega), if_pos (by omega)]
      · have a1 : ¬ (k : Int) < (l.length : Int) := by omega
        by_cases lm : l.length < m.length
        · have a3 : (l.length : Int) < (m.length : Int) := by omega
          go_wp2
          go_ret
          refine ⟨ret_int ?_, hnx⟩
          rw [unhide HC, unhide HS, if_pos (by omega)]
        · have a3 : ¬ (l.length : Int) < (m.length : Int) := by omega
          have a4 : ¬ (m.length : Int) < (l.length : Int) := by omega
          go_wp2
          go_ret
          refine ⟨ret_int ?_, hnx⟩
          rw [unhide HC, unhide HS, if_neg (by omega), if_neg (by omega)]
theorem cmp_nil_left (m : List Int) : cmpL [] m = if 0 < m.length then -1 else 0 := by cases m <;> simp [cmpL]
theorem cmp_nil_right (l : List Int) : cmpL l [] = if 0 < l.length then 1 else 0 := by cases l <;> simp [cmpL]
theorem rcmp_any (v1 v2 : Value) (l m : List Int) (w : World) (h1 : Row w v1 l) (h2 : Row w v2 m) (hl : l.length ≤ 9223372036854775806) (hm : m.length ≤ 9223372036854775806) :
    Calls Try.prog 13 #[v1, v2] w fun e w' => e = .returned (.int .i64 (cmpL l m)) ∧ Gr w w' := by
  obtain ⟨a, c, rfl, h1⟩ := h1
  obtain ⟨b, d, rfl, h2⟩ := h2
  by_cases h0 : l.length = 0 ∨ m.length = 0
  · refine (rcmp_none a b _ _ c d w (by omega) (by omega) h0).mono fun e w' h => ⟨h.1.trans (ret_int ?_), h.2⟩
    rcases h0 with h0 | h0
    · rw [List.eq_nil_of_length_eq_zero h0, cmp_nil_left]
      by_cases hm0 : 0 < m.length
      · rw [if_pos (by simpa using hm0), if_pos hm0]
      · rw [if_neg (by simpa using hm0), if_neg (by simp), if_neg hm0]
    · rw [List.eq_nil_of_length_eq_zero h0, cmp_nil_right]
      by_cases hl0 : 0 < l.length
      · rw [if_neg (by simp), if_pos (by simpa using hl0), if_pos hl0]
      · rw [if_neg (by simp), if_neg (by simpa using hl0), if_neg hl0]
  · obtain ⟨b1, o1, rfl, k1⟩ := h1 (by omega)
    obtain ⟨b2, o2, rfl, k2⟩ := h2 (by omega)
    exact rcmp_some b1 o1 c b2 o2 d l m w hl k1 k2
end Go.Proofs.Ytoaoplfbnjajiaa.S17