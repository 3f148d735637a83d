/- The landed reading of numbers of two parts, plainly, is the document's. -/
import Derived.Test.YtpkofpgdnbkknaaDoorMath14
namespace Go.Proofs.YtpkofpgdnbkknaaDoor

/-- Digits from the left, at most k more, none 0 ahead. -/
def goP : List Int → Nat → Int → Int × List Int
  | [], _, n => (n, [])
  | c :: s, 0, n => (n, c :: s)
  | c :: s, k + 1, n => if 48 ≤ c ∧ c ≤ 57 ∧ (0 < n ∨ c ≠ 48) then goP s k (n * 10 + (c - 48)) else (n, c :: s)
/-- A part off the beginning. -/
def partL (s : List Int) : Int × List Int := if s.getD 0 0 = 45 then (-(goP (s.drop 1) 6 0).1, (goP (s.drop 1) 6 0).2) else goP s 6 0
/-- What is behind the sign of a second part. -/
def sgnL (s : List Int) : List Int := if s.getD 0 0 = 45 then s else if s.getD 0 0 = 43 ∧ (s.drop 1).getD 0 0 ≠ 45 then s.drop 1 else []
/-- The reading; none: it is none's. -/
def pars (s : List Int) : Option (Int × Int) :=
  if s = [48] then some (0, 0)
  else if (partL s).1 = 0 then none
  else if (partL s).2 = [] then some ((partL s).1, 0)
  else if (partL s).2 = [105] then some (0, (partL s).1)
  else if (partL (sgnL (partL s).2)).1 = 0 ∨ (partL (sgnL (partL s).2)).2 ≠ [105] then none
  else some ((partL s).1, (partL (sgnL (partL s).2)).1)

theorem dig_more (m : Int) (c : Int) (hm : 0 < m) (h1 : 48 ≤ c) (h2 : c ≤ 57) : digN (m * 10 + (c - 48)).toNat = digN m.toNat ++ [c] := by
  rw [digN_big (by omega), show (m * 10 + (c - 48)).toNat / 10 = m.toNat by omega]
  congr 2
  omega
theorem dig_first (c : Int) (h1 : 48 < c) (h2 : c ≤ 57) : digN ((0 : Int) * 10 + (c - 48)).toNat = [c] := by
  rw [digN_small (by omega)]
  congr 1
  omega
theorem goP_keep : ∀ (s : List Int) (k : Nat) (m : Int), 0 < m → m < 10 ^ (6 - k) → k ≤ 6 → 0 < (goP s k m).1 ∧ (goP s k m).1 < 1000000 ∧ digN m.toNat ++ s = digN (goP s k m).1.toNat ++ (goP s k m).2
  | [], k, m, hm, hb, hk => by
    have : (10 : Int) ^ (6 - k) ≤ 10 ^ 6 := by exact_mod_cast Nat.pow_le_pow_right (n := 10) (by omega) (by omega : 6 - k ≤ 6)
    simp only [goP]
    exact ⟨hm, by omega, trivial⟩
  | c :: s, 0, m, hm, hb, hk => by
    simp only [goP]
    exact ⟨hm, by omega, trivial⟩
  | c :: s, k + 1, m, hm, hb, hk => by
    simp only [goP]
    split
    · rename_i h
      have e : (10 : Int) ^ (6 - k) = 10 ^ (6 - (k + 1)) * 10 := by rw [show 6 - k = (6 - (k + 1)) + 1 by omega, Int.pow_succ]
      obtain ⟨i1, i2, i3⟩ := goP_keep s k (m * 10 + (c - 48)) (by omega) (by rw [e]; omega) (by omega)
      refine ⟨i1, i2, ?_⟩
      rw [dig_more m c hm h.1 h.2.1, List.append_assoc] at i3
      exact i3
    · have : (10 : Int) ^ (6 - (k + 1)) ≤ 10 ^ 6 := by exact_mod_cast Nat.pow_le_pow_right (n := 10) (by omega) (by omega : 6 - (k + 1) ≤ 6)
      exact ⟨hm, by omega, rfl⟩
theorem goP_zero (s : List Int) : (goP s 6 0).1 = 0 ∨ (0 < (goP s 6 0).1 ∧ (goP s 6 0).1 < 1000000 ∧ s = digN (goP s 6 0).1.toNat ++ (goP s 6 0).2) := by
  cases s with
  | nil => exact .inl rfl
  | cons c s =>
    simp only [goP]
    split
    · rename_i h
      right
      obtain ⟨i1, i2, i3⟩ := goP_keep s 5 (0 * 10 + (c - 48)) (by omega) (by simp; omega) (by omega)
      rw [dig_first c (by omega) h.2.1] at i3
      exact ⟨i1, i2, i3⟩
    · exact .inl rfl
/-- What is read stands there. -/
theorem partL_in (s : List Int) (h : (partL s).1 ≠ 0) : -999999 ≤ (partL s).1 ∧ (partL s).1 ≤ 999999 ∧ s = digZ (partL s).1 ++ (partL s).2 ∧ ((partL s).1 < 0 ↔ s.getD 0 0 = 45) := by
  unfold partL at h ⊢
  by_cases h45 : s.getD 0 0 = 45
  · rw [if_pos h45] at h ⊢
    simp only at h ⊢
    rcases goP_zero (s.drop 1) with e | ⟨p1, p2, p3⟩
    · omega
    · refine ⟨by omega, by omega, ?_, by omega⟩
      rw [digZ_neg (by omega), Int.neg_neg, List.cons_append, ← p3]
      cases s with
      | nil => simp at h45
      | cons c t => simp at h45; simp [h45]
  · rw [if_neg h45] at h ⊢
    rcases goP_zero s with e | ⟨p1, p2, p3⟩
    · omega
    · refine ⟨by omega, by omega, ?_, by omega⟩
      rw [digZ_pos (by omega)]
      exact p3
theorem goP_stop (r : List Int) (k : Nat) (n : Int) (h : r = [] ∨ ¬ (48 ≤ r.getD 0 0 ∧ r.getD 0 0 ≤ 57)) : goP r k n = (n, r) := by
  cases r with
  | nil => rfl
  | cons c s =>
    cases k with
    | zero => rfl
    | succ k =>
      simp only [goP]
      rcases h with h | h
      · cases h
      · simp only [List.getD_cons_zero] at h
        rw [if_neg (by omega)]
theorem goP_dig (n : Nat) : ∀ (r : List Int) (j : Nat), 1 ≤ n → n < 10 ^ j → j ≤ 6 → ∃ k, goP (digN n ++ r) 6 0 = goP r k n ∧ 6 ≤ k + j := by
  induction n using Nat.strongRecOn with
  | _ n ih =>
    intro r j h1 hj h6
    have j1 : 1 ≤ j := by
      rcases Nat.eq_zero_or_pos j with h | h
      · subst h; simp at hj; omega
      · exact h
    by_cases h10 : n < 10
    · refine ⟨5, ?_, by omega⟩
      rw [digN_small h10]
      simp only [List.singleton_append, goP]
      rw [if_pos (by omega)]
      congr 1; omega
    · have hj2 : n / 10 < 10 ^ (j - 1) := by
        have e : 10 ^ j = 10 ^ (j - 1) * 10 := by
          obtain ⟨i, rfl⟩ : ∃ i, j = i + 1 := ⟨j - 1, by omega⟩
          rw [Nat.pow_succ, show i + 1 - 1 = i by omega]
        omega
      have jj : 1 ≤ j - 1 := by
        rcases Nat.eq_zero_or_pos (j - 1) with h | h
        · rw [h] at hj2; simp at hj2; omega
        · exact h
      obtain ⟨k, e, hk⟩ := ih (n / 10) (by omega) ((48 + ((n % 10 : Nat) : Int)) :: r) (j - 1) (by omega) hj2 (by omega)
      obtain ⟨k', rfl⟩ : ∃ k', k = k' + 1 := ⟨k - 1, by omega⟩
      refine ⟨k', ?_, by omega⟩
      rw [digN_big h10, List.append_assoc, List.singleton_append, e]
      simp only [goP]
      rw [if_pos (by omega)]
      congr 1; omega
theorem partL_dig (n : Int) (r : List Int) (h1 : -999999 ≤ n) (h2 : n ≤ 999999) (h0 : n ≠ 0) (h : r = [] ∨ ¬ (48 ≤ r.getD 0 0 ∧ r.getD 0 0 ≤ 57)) : partL (digZ n ++ r) = (n, r) := by
  unfold partL
  by_cases hn : n < 0
  · rw [digZ_neg hn]
    simp only [List.cons_append, List.getD_cons_zero, if_true, List.drop_succ_cons, List.drop_zero]
    obtain ⟨k, e, _⟩ := goP_dig (-n).toNat r 6 (by omega) (by omega) (Nat.le_refl _)
    rw [e, goP_stop _ _ _ h]
    show (-(((-n).toNat : Nat) : Int), r) = (n, r)
    rw [show -(((-n).toNat : Nat) : Int) = n by omega]
  · rw [digZ_pos hn]
    obtain ⟨c, t, e, c1, c2⟩ := digN_head n.toNat
    have e0 : (digN n.toNat ++ r).getD 0 0 = c := by rw [e]; rfl
    obtain ⟨k, e2, _⟩ := goP_dig n.toNat r 6 (by omega) (by omega) (Nat.le_refl _)
    rw [e0, if_neg (by omega), e2, goP_stop _ _ _ h]
    rw [show ((n.toNat : Nat) : Int) = n by omega]
/-- The landed reading of a number's text tells it. -/
theorem pars_txt (a b : Int) (h1 : -999999 ≤ a) (h2 : a ≤ 999999) (h3 : -999999 ≤ b) (h4 : b ≤ 999999) : pars (txt a b) = some (a, b) := by
  have z48 : txt 0 0 = [48] := by unfold txt; rw [if_pos rfl, digZ_pos (by omega), show (0 : Int).toNat = 0 by rfl, digN_small (by omega)]; rfl
  by_cases h0 : a = 0 ∧ b = 0
  · obtain ⟨rfl, rfl⟩ := h0
    unfold pars
    rw [if_pos z48]
  · have hne : txt a b ≠ [48] := by
      intro e
      have c1 := cut_txt a b h1 h2 h3 h4
      rw [e, ← z48, cut_txt 0 0 (by omega) (by omega) (by omega) (by omega)] at c1
      have c2 := congrArg Prod.fst c1
      have c3 := congrArg Prod.snd c1
      simp only at c2 c3
      exact h0 ⟨c2.symm, c3.symm⟩
    unfold pars
    rw [if_neg hne]
    unfold txt
    by_cases hb : b = 0
    · subst hb
      rw [if_pos rfl]
      have ha : a ≠ 0 := fun h => h0 ⟨h, rfl⟩
      have e := partL_dig a [] h1 h2 ha (.inl rfl)
      rw [List.append_nil] at e
      rw [e]
      simp only
      rw [if_neg ha, if_pos trivial]
    · rw [if_neg hb]
      by_cases ha : a = 0
      · subst ha
        rw [if_pos rfl, partL_dig b [105] h3 h4 hb (.inr (by simp))]
        simp only
        rw [if_neg hb, if_neg (by simp), if_pos trivial]
      · rw [if_neg ha]
        by_cases hp : 0 < b
        · rw [if_pos hp, partL_dig a _ h1 h2 ha (.inr (by simp))]
          simp only
          obtain ⟨c, t, e, c1, c2⟩ := digN_head b.toNat
          have hg : (digZ b ++ [105]).getD 0 0 = c := by rw [digZ_pos (by omega), e]; rfl
          have es : sgnL (43 :: (digZ b ++ [105])) = digZ b ++ [105] := by
            unfold sgnL
            rw [if_neg (by simp), if_pos ⟨by simp, by simp only [List.drop_succ_cons, List.drop_zero]; rw [hg]; omega⟩]
            rfl
          rw [if_neg ha, if_neg (by simp), if_neg (by simp), es, partL_dig b [105] h3 h4 hb (.inr (by simp))]
          simp only
          rw [if_neg (by simp [hb])]
        · rw [if_neg hp]
          have hbn : b < 0 := by omega
          have hd : (digZ b ++ [105]).getD 0 0 = 45 := by rw [digZ_neg hbn]; rfl
          rw [partL_dig a _ h1 h2 ha (.inr (by rw [hd]; omega))]
          simp only
          have es : sgnL (digZ b ++ [105]) = digZ b ++ [105] := by unfold sgnL; rw [if_pos hd]
          have n1 : digZ b ++ [105] ≠ [] := by simp
          have n2 : digZ b ++ [105] ≠ [105] := by
            intro e
            rw [e] at hd
            simp at hd
          rw [if_neg ha, if_neg n1, if_neg n2, es, partL_dig b [105] h3 h4 hb (.inr (by simp))]
          simp only
          rw [if_neg (by simp [hb])]
/-- What the landed reading tells has that text. -/
theorem pars_in {s : List Int} {p : Int × Int} (h : pars s = some p) : -999999 ≤ p.1 ∧ p.1 ≤ 999999 ∧ -999999 ≤ p.2 ∧ p.2 ≤ 999999 ∧ txt p.1 p.2 = s := by
  unfold pars at h
  split at h
  · rename_i e
    cases h
    have z48 : txt 0 0 = [48] := by unfold txt; rw [if_pos rfl, digZ_pos (by omega), show (0 : Int).toNat = 0 by rfl, digN_small (by omega)]; rfl
    exact ⟨by decide, by decide, by decide, by decide, by rw [e]; exact z48⟩
  · split at h
    · cases h
    · rename_i hf
      obtain ⟨f1, f2, f3, f4⟩ := partL_in s hf
      split at h
      · rename_i hr
        cases h
        refine ⟨f1, f2, by show (-999999 : Int) ≤ 0; decide, by show (0 : Int) ≤ 999999; decide, ?_⟩
        rw [hr, List.append_nil] at f3
        unfold txt
        rw [if_pos rfl]
        exact f3.symm
      · rename_i hr
        split at h
        · rename_i hr2
          cases h
          refine ⟨by show (-999999 : Int) ≤ 0; decide, by show (0 : Int) ≤ 999999; decide, f1, f2, ?_⟩
          rw [hr2] at f3
          unfold txt
          simp only
          rw [if_neg hf, if_pos trivial]
          exact f3.symm
        · rename_i hr2
          split at h
          · cases h
          · rename_i hg
            have hg1 : (partL (sgnL (partL s).2)).1 ≠ 0 := fun e => hg (.inl e)
            have hg2 : (partL (sgnL (partL s).2)).2 = [105] := Classical.byContradiction fun e => hg (.inr e)
            cases h
            obtain ⟨g1, g2, g3, g4⟩ := partL_in _ hg1
            refine ⟨f1, f2, g1, g2, ?_⟩
            rw [hg2] at g3
            generalize hr' : (partL s).2 = r at *
            generalize (partL s).1 = f at *
            generalize (partL (sgnL r)).1 = q at *
            simp only
            unfold txt
            rw [if_neg hg1, if_neg hf]
            unfold sgnL at g3 g4
            by_cases h45 : r.getD 0 0 = 45
            · rw [if_pos h45] at g3 g4
              have : q < 0 := g4.2 h45
              rw [if_neg (by omega), ← g3]
              exact f3.symm
            · rw [if_neg h45] at g3 g4
              split at g3
              · rename_i h43
                rw [if_pos h43] at g4
                have : 0 < q := by
                  rcases Int.lt_trichotomy q 0 with h | h | h
                  · exact absurd (g4.1 h) h43.2
                  · exact absurd h hg1
                  · exact h
                rw [if_pos this, ← g3]
                cases r with
                | nil => simp at h43
                | cons c t =>
                  have hc : c = 43 := by simpa using h43.1
                  subst hc
                  exact f3.symm
              · exfalso
                have := congrArg List.length g3
                simp at this
theorem pars_ok (s : List Int) : pars s = if okG s then some (cutG s) else none := by
  by_cases h : okG s = true
  · rw [if_pos h]
    obtain ⟨h1, h2, h3, h4, h5⟩ := ok_in h
    have := pars_txt _ _ h1 h2 h3 h4
    rw [h5] at this
    exact this
  · rw [if_neg h]
    cases hp : pars s with
    | none => rfl
    | some p =>
      obtain ⟨h1, h2, h3, h4, h5⟩ := pars_in hp
      exact absurd (by rw [← h5]; exact ok_txt _ _ h1 h2 h3 h4) h
theorem pars_some {s : List Int} {p : Int × Int} (h : pars s = some p) : parG s = p ∧ parF s = 0 := by
  have e := pars_ok s
  rw [h] at e
  unfold parG parF
  split at e
  · rename_i ho
    rw [if_pos ho, if_pos ho]
    exact ⟨(Option.some.inj e).symm, rfl⟩
  · cases e
theorem pars_none {s : List Int} (h : pars s = none) : parG s = (0, 0) ∧ parF s = 140 := by
  have e := pars_ok s
  rw [h] at e
  unfold parG parF
  split at e
  · cases e
  · rename_i ho
    rw [if_neg ho, if_neg ho]
    exact ⟨rfl, rfl⟩
end Go.Proofs.YtpkofpgdnbkknaaDoor
