/- The laws GuardParts and GuardKinds. -/
import Derived.Test.YtegpdppfdgcljaaLaw10
namespace Go.Proofs.Ytegpdppfdgcljaa
open Go.RowKit

theorem nums_app (s t : ByteArray) : nums (s ++ t) = nums s ++ nums t := by
  unfold nums
  simp
theorem ok_app {s t : ByteArray} (hs : ruOk s = true) (ht : ruOk t = true) : ruOk (s ++ t) = true ∧ ruP (s ++ t) = ruP s ++ ruP t := by
  obtain ⟨a1, a2⟩ := ok_back hs
  obtain ⟨b1, b2⟩ := ok_back ht
  refine ok_of ?_ ?_
  · rw [nums_app, a1, b1, encL_append]
  · unfold okL at *
    rw [List.all_append, a2, b2]; rfl
theorem txE_bad (s : ByteArray) : txE s = 10 ↔ ruOk s = false := by
  unfold txE chkE
  cases ruOk s
  · simp
  · simp only [if_true]
    constructor
    · intro h; split at h <;> omega
    · intro h; cases h
/-- P10.4. -/
theorem parts_go (s t : ByteArray) (hs : ruOk s = true) (ht : ruOk t = true) (h : txE s = 0) : txA s = s.size ∧ txA (s ++ t) = txA s + txA t ∧ txE (s ++ t) = txE t := by
  obtain ⟨h1, h2⟩ := ok_app hs ht
  have hc : chkN (ruP s) = (ruP s).length := by
    unfold txE chkE at h
    rw [hs] at h
    simp only [if_true] at h
    split at h
    · assumption
    · omega
  have e1 : txA s = s.size := by
    unfold txA txN
    rw [hs, hc, List.take_length, size_all s hs]; rfl
  have hn : chkN (ruP s ++ ruP t) = (ruP s).length + chkN (ruP t) := by rw [chk_app, if_pos hc]
  refine ⟨e1, ?_, ?_⟩
  · rw [e1]
    unfold txA txN
    rw [h1, h2, ht, hn]
    simp only [if_true]
    rw [List.take_append, List.take_of_length_le (by omega), Nat.add_sub_cancel_left, encL_append, List.length_append, size_all s hs]
    omega
  · unfold txE chkE
    rw [h1, h2, ht, hn, List.length_append]
    simp only [if_true]
    by_cases hq : chkN (ruP t) = (ruP t).length
    · rw [if_pos (by omega), if_pos hq]
    · rw [if_neg (by omega), if_neg hq]
theorem parts_stop (s t : ByteArray) (hs : ruOk s = true) (ht : ruOk t = true) (h : txE s ≠ 0) : txA (s ++ t) = txA s ∧ txE (s ++ t) = txE s := by
  obtain ⟨h1, h2⟩ := ok_app hs ht
  have hc : ¬ chkN (ruP s) = (ruP s).length := fun e => h (by unfold txE chkE; rw [hs, if_pos e]; rfl)
  have hn : chkN (ruP s ++ ruP t) = chkN (ruP s) := by rw [chk_app, if_neg hc]
  have hl := chk_le (ruP s)
  constructor
  · unfold txA txN
    rw [h1, h2, hs, hn]
    simp only [if_true]
    rw [List.take_append_of_le_length hl]
  · unfold txE chkE
    rw [h1, h2, hs, hn]
    simp only [if_true]
    rw [if_neg hc, if_neg (by rw [List.length_append]; omega)]
theorem rup_nil {s : ByteArray} (h : ruOk s = true) (hp : ruP s = []) : s.size = 0 := by
  have := size_all s h
  rw [hp] at this
  simpa [encL] using this.symm
theorem text_bound (t : ByteArray) (ht : ruOk t = true) : 0 ≤ txA t ∧ txA t ≤ t.size := by
  have h1 := size_all t ht
  have h2 : (encL ((ruP t).take (chkN (ruP t)))).length ≤ (encL (ruP t)).length := by
    conv => rhs; rw [← List.take_append_drop (chkN (ruP t)) (ruP t), encL_append, List.length_append]
    omega
  unfold txA txN
  rw [ht]
  simp only [if_true]
  omega
/-- P10.3, of one kind. -/
theorem kinds_fact (s : ByteArray) (k : Int) (ho : onlyB s [k] = true) (h0 : 0 < s.size) : (decide (k = 0) || decide (k = 7)) = decide (txE s = 30) ∧ ∀ j, j ≠ k → onlyB s [j] = false := by
  unfold onlyB at ho
  rw [Bool.and_eq_true, List.all_eq_true] at ho
  obtain ⟨hs, ha⟩ := ho
  have hall : ∀ x, x ∈ ruP s → kd x = k := fun x hx => by simpa using ha x hx
  obtain ⟨y, t, hp⟩ : ∃ y t, ruP s = y :: t := List.exists_cons_of_ne_nil fun e => by
    have := rup_nil hs e
    omega
  have hy := hall y (by rw [hp]; simp)
  constructor
  · have hf : fitB y = (decide (k ≠ 0) && decide (k ≠ 7)) := by unfold fitB; rw [hy]
    unfold txE chkE
    rw [hs]
    simp only [if_true]
    by_cases hk : k = 0 ∨ k = 7
    · have hn : chkN (ruP s) ≠ (ruP s).length := fun e => by
        have := (chk_all (ruP s)).1 e y (by rw [hp]; simp)
        rw [hf] at this
        rcases hk with rfl | rfl <;> simp at this
      rw [if_neg hn]
      rcases hk with rfl | rfl <;> simp
    · have hn : chkN (ruP s) = (ruP s).length := (chk_all (ruP s)).2 fun x hx => by
        unfold fitB
        rw [hall x hx]
        simp only [Bool.and_eq_true, decide_eq_true_eq]
        omega
      rw [if_pos hn]
      have k0 : k ≠ 0 := fun e => hk (.inl e)
      have k7 : k ≠ 7 := fun e => hk (.inr e)
      simp [k0, k7]
  · intro j hj
    unfold onlyB
    rw [hp, List.all_cons]
    have : decide (kd y ∈ [j]) = false := by rw [hy]; simp; omega
    rw [this]
    simp
theorem kinds_all (s : ByteArray) : onlyB s [0, 1, 2, 3, 4, 5, 6, 7] = !decide (txE s = 10) := by
  have h : (ruP s).all (fun x => decide (kd x ∈ [0, 1, 2, 3, 4, 5, 6, 7])) = true := by
    rw [List.all_eq_true]
    intro x _
    obtain ⟨h1, h2, _⟩ := kd_bound x
    simp
    omega
  unfold onlyB
  rw [h, Bool.and_true]
  cases hs : ruOk s
  · rw [decide_eq_true ((txE_bad s).2 hs)]; rfl
  · rw [decide_eq_false (fun e => by rw [(txE_bad s).1 e] at hs; cases hs)]; rfl

set_option maxHeartbeats 3200000 in
theorem parts10_law (s t : ByteArray) (w : World) : Calls Try.prog 5 #[.string s, .string t] w fun e w' => e = .returned (.bool true) ∧ Below w.heap.size w w' := by
  have HA := hide awake10
  by_cases hs : 5000 < s.size
  · have hz : (5000 : Int) < (s.size : Int) := by omega
    go_enter Try.func5, Try.ntmps5
    go_wp2_with (go_at_call 7; refine (unhide HA _).mono ?_; rintro e w5 ⟨rfl, b5⟩)
    go_ret
    exact ⟨rfl, b5⟩
  · have hz : ¬ (5000 : Int) < (s.size : Int) := by omega
    by_cases ht : 5000 < t.size
    · have hz2 : (5000 : Int) < (t.size : Int) := by omega
      go_enter Try.func5, Try.ntmps5
      go_wp2_with (go_at_call 7; refine (unhide HA _).mono ?_; rintro e w5 ⟨rfl, b5⟩)
      go_ret
      exact ⟨rfl, b5⟩
    · have hz2 : ¬ (5000 : Int) < (t.size : Int) := by omega
      have hst : (s.size : Int) + (t.size : Int) ≤ 9223372036854775807 := by omega
      have H1 := hide (fun W => gtext_any s W (by omega))
      have H2 := hide (fun W => gtext_any t W (by omega))
      have H3 := hide (fun W => gtext_any (s ++ t) W (by rw [ByteArray.size_append]; omega))
      by_cases hs1 : txE s = 10
      · have q1 : (txE s == 10) = true := by simpa using hs1
        generalize txA s = A1 at *
        generalize txE s = E1 at *
        generalize txA (s ++ t) = A3 at *
        generalize txE (s ++ t) = E3 at *
        clear hs1
        go_enter Try.func5, Try.ntmps5
        go_wp2_with (first
          | (go_at_call 7; refine (unhide HA w3).mono ?_; rintro e w4 ⟨rfl, b4⟩; have c4 := c3.trans (b4.mono c3.size))
          | (go_at_call 12; refine (unhide H3 w2).mono ?_; rintro e w3 ⟨rfl, b3⟩; have c3 := c2.trans (b3.mono c2.size))
          | (go_at_call 12; refine (unhide H2 w1).mono ?_; rintro e w2 ⟨rfl, b2⟩; have c2 := b1.trans (b2.mono b1.size))
          | (go_at_call 12; refine (unhide H1 w).mono ?_; rintro e w1 ⟨rfl, b1⟩))
        go_ret
        exact ⟨rfl, c4⟩
      · have q1 : (txE s == 10) = false := by simpa using hs1
        by_cases ht1 : txE t = 10
        · have q2 : (txE t == 10) = true := by simpa using ht1
          generalize txA s = A1 at *
          generalize txE s = E1 at *
          generalize txA t = A2 at *
          generalize txE t = E2 at *
          generalize txA (s ++ t) = A3 at *
          generalize txE (s ++ t) = E3 at *
          clear hs1 ht1
          go_enter Try.func5, Try.ntmps5
          go_wp2_with (first
            | (go_at_call 7; refine (unhide HA w3).mono ?_; rintro e w4 ⟨rfl, b4⟩; have c4 := c3.trans (b4.mono c3.size))
            | (go_at_call 12; refine (unhide H3 w2).mono ?_; rintro e w3 ⟨rfl, b3⟩; have c3 := c2.trans (b3.mono c2.size))
            | (go_at_call 12; refine (unhide H2 w1).mono ?_; rintro e w2 ⟨rfl, b2⟩; have c2 := b1.trans (b2.mono b1.size))
            | (go_at_call 12; refine (unhide H1 w).mono ?_; rintro e w1 ⟨rfl, b1⟩))
          go_ret
          exact ⟨rfl, c4⟩
        · have q2 : (txE t == 10) = false := by simpa using ht1
          have ks : ruOk s = true := by cases h : ruOk s; exact absurd ((txE_bad s).2 h) hs1; rfl
          have kt : ruOk t = true := by cases h : ruOk t; exact absurd ((txE_bad t).2 h) ht1; rfl
          by_cases h0 : txE s = 0
          · obtain ⟨p1, p2, p3⟩ := parts_go s t ks kt h0
            rw [p2, p3, p1] at H3
            rw [p1, h0] at H1
            have hA2 : 0 ≤ txA t ∧ txA t ≤ t.size := text_bound t kt
            generalize txA t = A2 at *
            generalize txE t = E2 at *
            have e1 : (E2 == E2) = true := by simp
            have e2 : ((s.size : Int) + A2 == (s.size : Int) + A2) = true := by simp
            clear hs1 ht1 q1 p1 p2 p3 h0
            go_enter Try.func5, Try.ntmps5
            go_wp2_with (first
              | (go_at_call 7; refine (unhide HA w3).mono ?_; rintro e w4 ⟨rfl, b4⟩; have c4 := c3.trans (b4.mono c3.size))
              | (go_at_call 12; refine (unhide H3 w2).mono ?_; rintro e w3 ⟨rfl, b3⟩; have c3 := c2.trans (b3.mono c2.size))
              | (go_at_call 12; refine (unhide H2 w1).mono ?_; rintro e w2 ⟨rfl, b2⟩; have c2 := b1.trans (b2.mono b1.size))
              | (go_at_call 12; refine (unhide H1 w).mono ?_; rintro e w1 ⟨rfl, b1⟩))
            go_ret
            exact ⟨rfl, c4⟩
          · obtain ⟨p2, p3⟩ := parts_stop s t ks kt h0
            rw [p2, p3] at H3
            have q3 : (txE s != 0) = true := by simpa using h0
            generalize txA s = A1 at *
            generalize txE s = E1 at *
            generalize txA t = A2 at *
            generalize txE t = E2 at *
            have e1 : (E1 == E1) = true := by simp
            have e2 : (A1 == A1) = true := by simp
            clear hs1 ht1 p2 p3 h0
            go_enter Try.func5, Try.ntmps5
            go_wp2_with (first
              | (go_at_call 7; refine (unhide HA w3).mono ?_; rintro e w4 ⟨rfl, b4⟩; have c4 := c3.trans (b4.mono c3.size))
              | (go_at_call 12; refine (unhide H3 w2).mono ?_; rintro e w3 ⟨rfl, b3⟩; have c3 := c2.trans (b3.mono c2.size))
              | (go_at_call 12; refine (unhide H2 w1).mono ?_; rintro e w2 ⟨rfl, b2⟩; have c2 := b1.trans (b2.mono b1.size))
              | (go_at_call 12; refine (unhide H1 w).mono ?_; rintro e w1 ⟨rfl, b1⟩))
            go_ret
            exact ⟨rfl, c4⟩
end Go.Proofs.Ytegpdppfdgcljaa
