/- Elements read out of bytes, plainly: what was laid is read, and what is read was laid. -/
import Derived.Test.YtcboggoindhmkaaRHead15
namespace Go.Proofs.Ytcboggoindhmkaa

/-- Elements up to the end. -/
def allG (tk : List Int → El × Nat × Int) : Nat → List Int → List El × Int
  | 0, _ => ([], 0)
  | f + 1, s => if s = [] then ([], 0) else if (tk s).2.2 ≠ 0 then ([], (tk s).2.2) else if (allG tk f (s.drop (tk s).2.1)).2 ≠ 0 then ([], (allG tk f (s.drop (tk s).2.1)).2) else ((tk s).1 :: (allG tk f (s.drop (tk s).2.1)).1, 0)
/-- What a head leaves: an error, a plain element, or one that is made of what its contents are read to. -/
def takeH (inner : List Int → List El × Int) (s : List Int) : El × Nat × Int :=
  if (headB s).2.2 ≠ 0 then (el0, 0, (headB s).2.2)
  else if (s.length : Int) - (headB s).1 < (headB s).2.1 then (el0, 0, 150)
  else if 4000 < (headB s).1 + (headB s).2.1 then (el0, 0, 3)
  else if s.getD 0 0 / 32 % 2 = 1 then
    if (inner ((s.drop (headB s).1.toNat).take (headB s).2.1.toNat)).2 ≠ 0 then (el0, 0, (inner ((s.drop (headB s).1.toNat).take (headB s).2.1.toNat)).2)
    else (.mk (s.getD 0 0 / 64) true (s.getD 0 0 % 32) ⟨#[]⟩ (inner ((s.drop (headB s).1.toNat).take (headB s).2.1.toNat)).1, ((headB s).1 + (headB s).2.1).toNat, 0)
  else (.mk (s.getD 0 0 / 64) false (s.getD 0 0 % 32) (strOfNums ((s.drop (headB s).1.toNat).take (headB s).2.1.toNat)) [], ((headB s).1 + (headB s).2.1).toNat, 0)
/-- An element at a level: k levels more may be in it. -/
def takeB : Nat → List Int → El × Nat × Int
  | 0 => takeH fun b => if b = [] then ([], 0) else ([], 153)
  | k + 1 => takeH fun b => allG (takeB k) b.length b
def allB (k : Nat) (s : List Int) : List El × Int := allG (takeB k) s.length s

/-- Are all numbers bytes? -/
def Byt (s : List Int) : Prop := ∀ x, x ∈ s → 0 ≤ x ∧ x < 256
theorem Byt.at {s : List Int} (h : Byt s) (i : Nat) : 0 ≤ s.getD i 0 ∧ s.getD i 0 < 256 := by
  by_cases hi : i < s.length
  · have : s.getD i 0 = s[i] := by simp [List.getD, hi]
    rw [this]; exact h _ (List.getElem_mem hi)
  · simp [List.getD, List.getElem?_eq_none (Nat.le_of_not_lt hi)]
theorem Byt.drop {s : List Int} (h : Byt s) (i : Nat) : Byt (s.drop i) := fun x hx => h x (List.mem_of_mem_drop hx)
theorem Byt.take {s : List Int} (h : Byt s) (i : Nat) : Byt (s.take i) := fun x hx => h x (List.mem_of_mem_take hx)
/-- The head of what was laid. -/
theorem head_lay (t : Int) (n : Nat) (r : List Int) (ht : t % 32 ≠ 31) (hn : n ≤ 4000) : headB (hd t n ++ r) = ((((hd t n).length : Nat) : Int), (n : Int), 0) := by
  unfold hd
  by_cases h1 : n < 128
  · rw [if_pos h1]
    simp only [headB, List.cons_append, List.nil_append, List.length_cons, List.getD_cons_zero, List.getD_cons_succ, List.length_nil]
    rw [if_neg (by omega), if_neg ht, if_neg (by omega), if_pos (by omega)]
    rfl
  · rw [if_neg h1]
    by_cases h2 : n < 256
    · rw [if_pos h2]
      simp only [headB, List.cons_append, List.nil_append, List.length_cons, List.getD_cons_zero, List.getD_cons_succ, List.length_nil]
      rw [if_neg (by omega), if_neg ht, if_neg (by omega), if_neg (by omega), if_neg (by omega), if_neg (by omega), if_pos trivial, if_neg (by omega)]
      rfl
    · rw [if_neg h2]
      simp only [headB, List.cons_append, List.nil_append, List.length_cons, List.getD_cons_zero, List.getD_cons_succ, List.length_nil]
      rw [if_neg (by omega), if_neg ht, if_neg (by omega), if_neg (by omega), if_neg (by omega), if_neg (by omega), if_neg (by omega), if_neg (by omega)]
      refine Prod.ext rfl (Prod.ext ?_ rfl)
      show 256 * ((n / 256 : Nat) : Int) + ((n % 256 : Nat) : Int) = n
      omega
/-- What a head says was laid so. -/
theorem head_back (s : List Int) (hb : Byt s) (h : (headB s).2.2 = 0) : 1 ≤ s.length ∧ s.getD 0 0 % 32 ≠ 31 ∧ 0 ≤ (headB s).2.1 ∧ (headB s).1 = (((hd (s.getD 0 0) (headB s).2.1.toNat).length : Nat) : Int) ∧ (headB s).1 ≤ s.length ∧ s.take (headB s).1.toNat = hd (s.getD 0 0) (headB s).2.1.toNat := by
  have b0 := hb.at 0
  have b1 := hb.at 1
  have b2 := hb.at 2
  have b3 := hb.at 3
  match s, h with
  | [], h => simp [headB] at h
  | [a], h =>
    exfalso
    simp only [headB, List.length_cons, List.length_nil, List.getD_cons_zero] at h
    rw [if_neg (by omega)] at h
    split at h
    · simp at h
    · rw [if_pos (by omega)] at h; simp at h
  | a :: c :: r, h =>
    simp only [List.getD_cons_zero, List.getD_cons_succ] at b0 b1 b2 b3
    have hl : (a :: c :: r).length = r.length + 2 := rfl
    unfold headB at h ⊢
    simp only [hl, List.getD_cons_zero, List.getD_cons_succ] at h ⊢
    rw [if_neg (show ¬ r.length + 2 < 1 by omega)] at h ⊢
    by_cases ha : a % 32 = 31
    · rw [if_pos ha] at h; simp at h
    rw [if_neg ha, if_neg (show ¬ r.length + 2 < 2 by omega)] at h ⊢
    by_cases hc : c < 128
    · rw [if_pos hc]
      have e : hd a c.toNat = [a, c] := by unfold hd; rw [if_pos (by omega)]; simp; omega
      simp only [e]
      refine ⟨by omega, ha, by omega, rfl, by omega, rfl⟩
    rw [if_neg hc] at h ⊢
    by_cases hc2 : c = 128 ∨ 130 < c
    · rw [if_pos hc2] at h; simp at h
    rw [if_neg hc2] at h ⊢
    by_cases hc3 : ((r.length + 2 : Nat) : Int) < c - 126
    · rw [if_pos hc3] at h; simp at h
    rw [if_neg hc3] at h ⊢
    by_cases h129 : c = 129
    · rw [if_pos h129] at h ⊢
      match r, hc3, h, b2 with
      | [], hc3, _, _ => exfalso; simp at hc3; omega
      | d :: r2, hc3, h, b2 =>
        simp only [List.getD_cons_zero, List.length_cons] at h b2 hc3 ⊢
        by_cases hd1 : d < 128
        · rw [if_pos hd1] at h; simp at h
        rw [if_neg hd1] at h ⊢
        have e : hd a d.toNat = [a, 129, d] := by unfold hd; rw [if_neg (by omega), if_pos (by omega)]; simp; omega
        simp only [e]
        refine ⟨by omega, ha, by omega, rfl, by omega, ?_⟩
        rw [h129]; rfl
    · rw [if_neg h129] at h ⊢
      have h130 : c = 130 := by omega
      match r, hc3, h, b2, b3 with
      | [], hc3, _, _, _ => exfalso; simp at hc3; omega
      | [d], hc3, _, _, _ => exfalso; simp at hc3; omega
      | d :: e :: r3, hc3, h, b2, b3 =>
        simp only [List.getD_cons_zero, List.getD_cons_succ, List.length_cons] at h b2 b3 hc3 ⊢
        by_cases hd1 : d = 0
        · rw [if_pos hd1] at h; simp at h
        rw [if_neg hd1] at h ⊢
        have e' : hd a (256 * d + e).toNat = [a, 130, d, e] := by
          unfold hd
          rw [if_neg (by omega), if_neg (by omega)]
          have x1 : (((256 * d + e).toNat / 256 : Nat) : Int) = d := by omega
          have x2 : (((256 * d + e).toNat % 256 : Nat) : Int) = e := by omega
          rw [x1, x2]
        simp only [e']
        refine ⟨by omega, ha, by omega, rfl, by omega, ?_⟩
        rw [h130]; rfl
end Go.Proofs.Ytcboggoindhmkaa
