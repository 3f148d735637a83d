/- The landed gauss: put, eachPart, Show. -/
import Derived.Test.YtefobkgifigclaaGreatDoorM24
import Derived.Test.YtefobkgifigclaaGreatDoorM25
import Derived.Test.YtefobkgifigclaaGreatDoorM21
namespace Go.Proofs.YtefobkgifigclaaGreatDoor.S14
set_option maxRecDepth 100000
open Go.RowKit

theorem str_mk (l : List UInt8) : (⟨l.toArray⟩ : ByteArray) = strOfNums (l.map fun b => (b.toNat : Int)) := by
  have := strOfNums_nums (⟨l.toArray⟩ : ByteArray)
  rw [← this]
  unfold nums
  simp
theorem dec_dig (u : Nat) : (Lib.decDigits u).map (fun b => (b.toNat : Int)) = digN u := by
  induction u using Nat.strongRecOn with
  | _ u ih =>
    by_cases h : u < 10
    · rw [Lib.decDigits, dif_pos h, digN_small h]
      simp
      omega
    · rw [Lib.decDigits, dif_neg h, digN_big h, List.map_append, ih (u / 10) (by omega)]
      simp
      omega
theorem itoa_dig (n : Int) : (⟨(Lib.itoa n).toArray⟩ : ByteArray) = strOfNums (digZ n) := by
  rw [str_mk]
  congr 1
  unfold Lib.itoa
  by_cases h : n < 0
  · rw [if_pos h, digZ_neg h, List.map_cons, dec_dig, show (-n).toNat = n.natAbs by omega]
    rfl
  · rw [if_neg h, digZ_pos h, dec_dig]
/-- The box of a text, not frozen. -/
structure Txb (w : World) (g : Nat) (s : ByteArray) : Prop where
  c : w.cell? ⟨g, 0, none⟩ = some (.string s)
  f : w.frozen? ⟨g, 0, none⟩ = false
theorem Txb.keep {w w2 : World} {g : Nat} {s : ByteArray} (h : Txb w g s) (hb : Below w.heap.size w w2) : Txb w2 g s :=
  ⟨(hb.cell (p := ⟨g, 0, none⟩) (cell_lt h.c)).trans h.c, (hb.frozen (p := ⟨g, 0, none⟩) (cell_lt h.c)).trans h.f⟩
theorem Txb.drew {w : World} {g : Nat} {s : ByteArray} (h : Txb w g s) : Txb w.drew g s := ⟨h.c, h.f⟩
theorem Txb.set {w : World} {g : Nat} {s : ByteArray} (h : Txb w g s) (t : ByteArray) : Txb (w.setCell ⟨g, 0, none⟩ (.string t)) g t :=
  ⟨World.cell?_setCell_same _ _ _ h.c, (World.frozen?_setCell _ _ _ _).trans h.f⟩
theorem ly_drew {w : World} (h : Ly w) : Ly w.drew := h
theorem bel_put {w w1 : World} {g : Nat} {s : ByteArray} (h : Txb w g s) (g1 : Gr w.drew w1) (u : Value) : Below g w (w1.setCell ⟨g, 0, none⟩ u) :=
  (((Gr.refl w).drew.trans g1).below.mono (Nat.le_of_lt (cell_lt h.c))).setCell (Nat.le_refl _) u
theorem itoa_any (n : Int) (w : World) (hL : Ly w) (h1 : -999999 ≤ n) (h2 : n ≤ 999999) : Calls Tryz.prog 103 #[.int .i64 n] w fun e w' => e = .returned (.string (strOfNums (digZ n))) ∧ Gr w w' := by
  have := itoa14 n w (by omega) (by omega) hL
  rw [itoa_dig] at this
  exact this
theorem str_app_nil (s : ByteArray) : s ++ (⟨#[]⟩ : ByteArray) = s := by
  have : (⟨#[]⟩ : ByteArray) = strOfNums [] := rfl
  rw [← strOfNums_nums s, this, strOfNums_app, List.append_nil]
theorem str_nil_app (s : ByteArray) : (⟨#[]⟩ : ByteArray) ++ s = s := by
  have : (⟨#[]⟩ : ByteArray) = strOfNums [] := rfl
  rw [← strOfNums_nums s, this, strOfNums_app, List.nil_append]
theorem dig_ne (n : Int) : digZ n ≠ [] := by
  unfold digZ
  split
  · simp
  · obtain ⟨c, t, h, _⟩ := digN_head n.toNat
    rw [h]; simp
theorem str_some {xs : List Int} (h : xs ≠ []) : (strOfNums xs).toList.isEmpty = false := by
  cases hl : (strOfNums xs).toList with
  | cons => rfl
  | nil =>
    exfalso
    rw [ByteArray.toList_eq, strOfNums_data] at hl
    exact h (by simpa using hl)
theorem order_zero {x : Nat} {a : Int} (hx : S x = some (a * K)) : FloatKind.f64.format.order x 0 = some (compare a 0) := by
  have h := order_S hx S_nought
  rw [cmp_scale _ _ _ K_pos] at h
  exact h
theorem box_new (w : World) (T : TypeId) : Txb (w.alloc (.cells #[.string ⟨#[]⟩] T)) w.heap.size ⟨#[]⟩ := ⟨box1 w _ _, by
  unfold World.frozen? World.alloc
  simp⟩
end Go.Proofs.YtefobkgifigclaaGreatDoor.S14
/- The landed reading of numbers of two parts, plainly, is the document's. -/
namespace Go.Proofs.YtefobkgifigclaaGreatDoor.S14
set_option maxRecDepth 100000
/-- Digits from the left, at most k more, none 0 ahead. -/
def goP : List Int → Nat → Int → Int × List Int
  | [], _, n => (n, [])
  | c :: s, 0, n => (n, c :: s)
  | c :: s, k + 1, n => if 48 ≤ c ∧ c ≤ 57 ∧ (0 < n ∨ c ≠ 48) then goP s k (n * 10 + (c - 48)) else (n, c :: s)
/-- A part off the beginning. -/
def partL (s : List Int) : Int × List Int := if s.getD 0 0 = 45 then (-(goP (s.drop 1) 6 0).1, (goP (s.drop 1) 6 0).2) else goP s 6 0
/-- What is behind the sign of a second part. -/
def sgnL (s : List Int) : List Int := if s.getD 0 0 = 45 then s else if s.getD 0 0 = 43 ∧ (s.drop 1).getD 0 0 ≠ 45 then s.drop 1 else []
/-- The reading; none: it is none's. -/
def pars (s : List Int) : Option (Int × Int) :=
  if s = [48] then some (0, 0)
  else if (partL s).1 = 0 then none
  else if (partL s).2 = [] then some ((partL s).1, 0)
  else if (partL s).2 = [105] then some (0, (partL s).1)
  else if (partL (sgnL (partL s).2)).1 = 0 ∨ (partL (sgnL (partL s).2)).2 ≠ [105] then none
  else some ((partL s).1, (partL (sgnL (partL s).2)).1)

theorem dig_more (m : Int) (c : Int) (hm : 0 < m) (h1 : 48 ≤ c) (h2 : c ≤ 57) : digN (m * 10 + (c - 48)).toNat = digN m.toNat ++ [c] := by
  rw [digN_big (by omega), show (m * 10 + (c - 48)).toNat / 10 = m.toNat by omega]
  congr 2
  omega
theorem dig_first (c : Int) (h1 : 48 < c) (h2 : c ≤ 57) : digN ((0 : Int) * 10 + (c - 48)).toNat = [c] := by
  rw [digN_small (by omega)]
  congr 1
  omega
theorem goP_keep : ∀ (s : List Int) (k : Nat) (m : Int), 0 < m → m < 10 ^ (6 - k) → k ≤ 6 → 0 < (goP s k m).1 ∧ (goP s k m).1 < 1000000 ∧ digN m.toNat ++ s = digN (goP s k m).1.toNat ++ (goP s k m).2
  | [], k, m, hm, hb, hk => by
    have : (10 : Int) ^ (6 - k) ≤ 10 ^ 6 := by exact_mod_cast Nat.pow_le_pow_right (n := 10) (by omega) (by omega : 6 - k ≤ 6)
    simp only [goP]
    exact ⟨hm, by omega, trivial⟩
  | c :: s, 0, m, hm, hb, hk => by
    simp only [goP]
    exact ⟨hm, by omega, trivial⟩
  | c :: s, k + 1, m, hm, hb, hk => by
    simp only [goP]
    split
    · rename_i h
      have e : (10 : Int) ^ (6 - k) = 10 ^ (6 - (k + 1)) * 10 := by rw [show 6 - k = (6 - (k + 1)) + 1 by omega, Int.pow_succ]
      obtain ⟨i1, i2, i3⟩ := goP_keep s k (m * 10 + (c - 48)) (by omega) (by rw [e]; omega) (by omega)
      refine ⟨i1, i2, ?_⟩
      rw [dig_more m c hm h.1 h.2.1, List.append_assoc] at i3
      exact i3
    · have : (10 : Int) ^ (6 - (k + 1)) ≤ 10 ^ 6 := by exact_mod_cast Nat.pow_le_pow_right (n := 10) (by omega) (by omega : 6 - (k + 1) ≤ 6)
      exact ⟨hm, by omega, rfl⟩
theorem goP_zero (s : List Int) : (goP s 6 0).1 = 0 ∨ (0 < (goP s 6 0).1 ∧ (goP s 6 0).1 < 1000000 ∧ s = digN (goP s 6 0).1.toNat ++ (goP s 6 0).2) := by
  cases s with
  | nil => exact .inl rfl
  | cons c s =>
    simp only [goP]
    split
    · rename_i h
      right
      obtain ⟨i1, i2, i3⟩ := goP_keep s 5 (0 * 10 + (c - 48)) (by omega) (by simp; omega) (by omega)
      rw [dig_first c (by omega) h.2.1] at i3
      exact ⟨i1, i2, i3⟩
    · exact .inl rfl
/-- What is read stands there. -/
theorem partL_in (s : List Int) (h : (partL s).1 ≠ 0) : -999999 ≤ (partL s).1 ∧ (partL s).1 ≤ 999999 ∧ s = digZ (partL s).1 ++ (partL s).2 ∧ ((partL s).1 < 0 ↔ s.getD 0 0 = 45) := by
  unfold partL at h ⊢
  by_cases h45 : s.getD 0 0 = 45
  · rw [if_pos h45] at h ⊢
    simp only at h ⊢
    rcases goP_zero (s.drop 1) with e | ⟨p1, p2, p3⟩
    · omega
    · refine ⟨by omega, by omega, ?_, by omega⟩
      rw [digZ_neg (by omega), Int.neg_neg, List.cons_append, ← p3]
      cases s with
      | nil => simp at h45
      | cons c t => simp at h45; simp [h45]
  · rw [if_neg h45] at h ⊢
    rcases goP_zero s with e | ⟨p1, p2, p3⟩
    · omega
    · refine ⟨by omega, by omega, ?_, by omega⟩
      rw [digZ_pos (by omega)]
      exact p3
theorem goP_stop (r : List Int) (k : Nat) (n : Int) (h : r = [] ∨ ¬ (48 ≤ r.getD 0 0 ∧ r.getD 0 0 ≤ 57)) : goP r k n = (n, r) := by
  cases r with
  | nil => rfl
  | cons c s =>
    cases k with
    | zero => rfl
    | succ k =>
      simp only [goP]
      rcases h with h | h
      · cases h
      · simp only [List.getD_cons_zero] at h
        rw [if_neg (by omega)]
theorem goP_dig (n : Nat) : ∀ (r : List Int) (j : Nat), 1 ≤ n → n < 10 ^ j → j ≤ 6 → ∃ k, goP (digN n ++ r) 6 0 = goP r k n ∧ 6 ≤ k + j := by
  induction n using Nat.strongRecOn with
  | _ n ih =>
    intro r j h1 hj h6
    have j1 : 1 ≤ j := by
      rcases Nat.eq_zero_or_pos j with h | h
      · subst h; simp at hj; omega
      · exact h
    by_cases h10 : n < 10
    · refine ⟨5, ?_, by omega⟩
      rw [digN_small h10]
      simp only [List.singleton_append, goP]
      rw [if_pos (by omega)]
      congr 1; omega
    · have hj2 : n / 10 < 10 ^ (j - 1) := by
        have e : 10 ^ j = 10 ^ (j - 1) * 10 := by
          obtain ⟨i, rfl⟩ : ∃ i, j = i + 1 := ⟨j - 1, by omega⟩
          rw [Nat.pow_succ, show i + 1 - 1 = i by omega]
        omega
      have jj : 1 ≤ j - 1 := by
        rcases Nat.eq_zero_or_pos (j - 1) with h | h
        · rw [h] at hj2; simp at hj2; omega
        · exact h
      obtain ⟨k, e, hk⟩ := ih (n / 10) (by omega) ((48 + ((n % 10 : Nat) : Int)) :: r) (j - 1) (by omega) hj2 (by omega)
      obtain ⟨k', rfl⟩ : ∃ k', k = k' + 1 := ⟨k - 1, by omega⟩
      refine ⟨k', ?_, by omega⟩
      rw [digN_big h10, List.append_assoc, List.singleton_append, e]
      simp only [goP]
      rw [if_pos (by omega)]
      congr 1; omega
theorem partL_dig (n : Int) (r : List Int) (h1 : -999999 ≤ n) (h2 : n ≤ 999999) (h0 : n ≠ 0) (h : r = [] ∨ ¬ (48 ≤ r.getD 0 0 ∧ r.getD 0 0 ≤ 57)) : partL (digZ n ++ r) = (n, r) := by
  unfold partL
  by_cases hn : n < 0
  · rw [digZ_neg hn]
    simp only [List.cons_append, List.getD_cons_zero, if_true, List.drop_succ_cons, List.drop_zero]
    obtain ⟨k, e, _⟩ := goP_dig (-n).toNat r 6 (by omega) (by omega) (Nat.le_refl _)
    rw [e, goP_stop _ _ _ h]
    show (-(((-n).toNat : Nat) : Int), r) = (n, r)
    rw [show -(((-n).toNat : Nat) : Int) = n by omega]
  · rw [digZ_pos hn]
    obtain ⟨c, t, e, c1, c2⟩ := digN_head n.toNat
    have e0 : (digN n.toNat ++ r).getD 0 0 = c := by rw [e]; rfl
    obtain ⟨k, e2, _⟩ := goP_dig n.toNat r 6 (by omega) (by omega) (Nat.le_refl _)
    rw [e0, if_neg (by omega), e2, goP_stop _ _ _ h]
    rw [show ((n.toNat : Nat) : Int) = n by omega]
/-- The landed reading of a number's text tells it. -/
theorem pars_txt (a b : Int) (h1 : -999999 ≤ a) (h2 : a ≤ 999999) (h3 : -999999 ≤ b) (h4 : b ≤ 999999) : pars (txt a b) = some (a, b) := by
  have z48 : txt 0 0 = [48] := by unfold txt; rw [if_pos rfl, digZ_pos (by omega), show (0 : Int).toNat = 0 by rfl, digN_small (by omega)]; rfl
  by_cases h0 : a = 0 ∧ b = 0
  · obtain ⟨rfl, rfl⟩ := h0
    unfold pars
    rw [if_pos z48]
  · have hne : txt a b ≠ [48] := by
      intro e
      have c1 := cut_txt a b h1 h2 h3 h4
      rw [e, ← z48, cut_txt 0 0 (by omega) (by omega) (by omega) (by omega)] at c1
      have c2 := congrArg Prod.fst c1
      have c3 := congrArg Prod.snd c1
      simp only at c2 c3
      exact h0 ⟨c2.symm, c3.symm⟩
    unfold pars
    rw [if_neg hne]
    unfold txt
    by_cases hb : b = 0
    · subst hb
      rw [if_pos rfl]
      have ha : a ≠ 0 := fun h => h0 ⟨h, rfl⟩
      have e := partL_dig a [] h1 h2 ha (.inl rfl)
      rw [List.append_nil] at e
      rw [e]
      simp only
      rw [if_neg ha, if_pos trivial]
    · rw [if_neg hb]
      by_cases ha : a = 0
      · subst ha
        rw [if_pos rfl, partL_dig b [105] h3 h4 hb (.inr (by simp))]
        simp only
        rw [if_neg hb, if_neg (by simp), if_pos trivial]
      · rw [if_neg ha]
        by_cases hp : 0 < b
        · rw [if_pos hp, partL_dig a _ h1 h2 ha (.inr (by simp))]
          simp only
          obtain ⟨c, t, e, c1, c2⟩ := digN_head b.toNat
          have hg : (digZ b ++ [105]).getD 0 0 = c := by rw [digZ_pos (by omega), e]; rfl
          have es : sgnL (43 :: (digZ b ++ [105])) = digZ b ++ [105] := by
            unfold sgnL
            rw [if_neg (by simp), if_pos ⟨by simp, by simp only [List.drop_succ_cons, List.drop_zero]; rw [hg]; omega⟩]
            rfl
          rw [if_neg ha, if_neg (by simp), if_neg (by simp), es, partL_dig b [105] h3 h4 hb (.inr (by simp))]
          simp only
          rw [if_neg (by simp [hb])]
        · rw [if_neg hp]
          have hbn : b < 0 := by omega
          have hd : (digZ b ++ [105]).getD 0 0 = 45 := by rw [digZ_neg hbn]; rfl
          rw [partL_dig a _ h1 h2 ha (.inr (by rw [hd]; omega))]
          simp only
          have es : sgnL (digZ b ++ [105]) = digZ b ++ [105] := by unfold sgnL; rw [if_pos hd]
          have n1 : digZ b ++ [105] ≠ [] := by simp
          have n2 : digZ b ++ [105] ≠ [105] := by
            intro e
            rw [e] at hd
            simp at hd
          rw [if_neg ha, if_neg n1, if_neg n2, es, partL_dig b [105] h3 h4 hb (.inr (by simp))]
          simp only
          rw [if_neg (by simp [hb])]
/-- What the landed reading tells has that text. -/
theorem pars_in {s : List Int} {p : Int × Int} (h : pars s = some p) : -999999 ≤ p.1 ∧ p.1 ≤ 999999 ∧ -999999 ≤ p.2 ∧ p.2 ≤ 999999 ∧ txt p.1 p.2 = s := by
  unfold pars at h
  split at h
  · rename_i e
    cases h
    have z48 : txt 0 0 = [48] := by unfold txt; rw [if_pos rfl, digZ_pos (by omega), show (0 : Int).toNat = 0 by rfl, digN_small (by omega)]; rfl
    exact ⟨by decide, by decide, by decide, by decide, by rw [e]; exact z48⟩
  · split at h
    · cases h
    · rename_i hf
      obtain ⟨f1, f2, f3, f4⟩ := partL_in s hf
      split at h
      · rename_i hr
        cases h
        refine ⟨f1, f2, by show (-999999 : Int) ≤ 0; decide, by show (0 : Int) ≤ 999999; decide, ?_⟩
        rw [hr, List.append_nil] at f3
        unfold txt
        rw [if_pos rfl]
        exact f3.symm
      · rename_i hr
        split at h
        · rename_i hr2
          cases h
          refine ⟨by show (-999999 : Int) ≤ 0; decide, by show (0 : Int) ≤ 999999; decide, f1, f2, ?_⟩
          rw [hr2] at f3
          unfold txt
          simp only
          rw [if_neg hf, if_pos trivial]
          exact f3.symm
        · rename_i hr2
          split at h
          · cases h
          · rename_i hg
            have hg1 : (partL (sgnL (partL s).2)).1 ≠ 0 := fun e => hg (.inl e)
            have hg2 : (partL (sgnL (partL s).2)).2 = [105] := Classical.byContradiction fun e => hg (.inr e)
            cases h
            obtain ⟨g1, g2, g3, g4⟩ := partL_in _ hg1
            refine ⟨f1, f2, g1, g2, ?_⟩
            rw [hg2] at g3
            generalize hr' : (partL s).2 = r at *
            generalize (partL s).1 = f at *
            generalize (partL (sgnL r)).1 = q at *
            simp only
            unfold txt
            rw [if_neg hg1, if_neg hf]
            unfold sgnL at g3 g4
            by_cases h45 : r.getD 0 0 = 45
            · rw [if_pos h45] at g3 g4
              have : q < 0 := g4.2 h45
              rw [if_neg (by omega), ← g3]
              exact f3.symm
            · rw [if_neg h45] at g3 g4
              split at g3
              · rename_i h43
                rw [if_pos h43] at g4
                have : 0 < q := by
                  rcases Int.lt_trichotomy q 0 with h | h | h
                  · exact absurd (g4.1 h) h43.2
                  · exact absurd h hg1
                  · exact h
                rw [if_pos this, ← g3]
                cases r with
                | nil => simp at h43
                | cons c t =>
                  have hc : c = 43 := by simpa using h43.1
                  subst hc
                  exact f3.symm
              · exfalso
                have := congrArg List.length g3
                simp at this
theorem pars_ok (s : List Int) : pars s = if okG s then some (cutG s) else none := by
  by_cases h : okG s = true
  · rw [if_pos h]
    obtain ⟨h1, h2, h3, h4, h5⟩ := ok_in h
    have := pars_txt _ _ h1 h2 h3 h4
    rw [h5] at this
    exact this
  · rw [if_neg h]
    cases hp : pars s with
    | none => rfl
    | some p =>
      obtain ⟨h1, h2, h3, h4, h5⟩ := pars_in hp
      exact absurd (by rw [← h5]; exact ok_txt _ _ h1 h2 h3 h4) h
theorem pars_some {s : List Int} {p : Int × Int} (h : pars s = some p) : parG s = p ∧ parF s = 0 := by
  have e := pars_ok s
  rw [h] at e
  unfold parG parF
  split at e
  · rename_i ho
    rw [if_pos ho, if_pos ho]
    exact ⟨(Option.some.inj e).symm, rfl⟩
  · cases e
theorem pars_none {s : List Int} (h : pars s = none) : parG s = (0, 0) ∧ parF s = 140 := by
  have e := pars_ok s
  rw [h] at e
  unfold parG parF
  split at e
  · cases e
  · rename_i ho
    rw [if_neg ho, if_neg ho]
    exact ⟨rfl, rfl⟩
end Go.Proofs.YtefobkgifigclaaGreatDoor.S14
/- The landed gauss: part, signed, Parse. -/
namespace Go.Proofs.YtefobkgifigclaaGreatDoor.S14
set_option maxRecDepth 100000
open Go.RowKit

theorem nums_nil : nums ⟨#[]⟩ = [] := rfl
/-- Does a text begin with a byte? -/
theorem pre_one (s : ByteArray) (c : UInt8) (hc : c ≠ 0) : Lib.hasPrefix s.data.toList [c] = decide ((nums s).getD 0 0 = (c.toNat : Int)) := by
  unfold Lib.hasPrefix nums
  cases s.data.toList with
  | nil =>
    have : c.toNat ≠ 0 := fun h => hc (UInt8.toNat_inj.1 (by rw [h]; rfl))
    simp
    omega
  | cons d t =>
    rw [Bool.eq_iff_iff]
    simp
    constructor
    · rintro rfl; rfl
    · intro h
      exact UInt8.toNat_inj.1 (by omega)
theorem trim_yes (s : ByteArray) (c : UInt8) (h : Lib.hasPrefix s.data.toList [c] = true) : (⟨(Lib.trimPrefix s.data.toList [c]).toArray⟩ : ByteArray) = strOfNums ((nums s).drop 1) := by
  rw [str_mk]
  congr 1
  unfold Lib.trimPrefix nums
  rw [if_pos h, List.map_drop]
  rfl
theorem trim_no (s : ByteArray) (c : UInt8) (h : Lib.hasPrefix s.data.toList [c] = false) : (⟨(Lib.trimPrefix s.data.toList [c]).toArray⟩ : ByteArray) = s := by
  unfold Lib.trimPrefix
  rw [if_neg (by rw [h]; simp)]
theorem cut_min (s : ByteArray) (w : World) : Calls Tryz.prog 49 #[.string s, .string ⟨#[45]⟩] w fun e w' => e = .returned (.tuple #[.string (if (nums s).getD 0 0 = 45 then strOfNums ((nums s).drop 1) else s), .bool (decide ((nums s).getD 0 0 = 45))]) ∧ w' = w := by
  have H := cutpre14 s ⟨#[45]⟩ w
  have e1 : (ByteArray.mk #[45]).data.toList = [45] := rfl
  have e2 := pre_one s 45 (by decide)
  have e3 : (((45 : UInt8).toNat : Nat) : Int) = 45 := rfl
  rw [e3] at e2
  rw [e1] at H
  by_cases h : (nums s).getD 0 0 = 45
  · rw [decide_eq_true h] at e2
    rw [trim_yes s 45 e2, e2] at H
    rw [if_pos h, decide_eq_true h]
    exact H
  · rw [decide_eq_false h] at e2
    rw [trim_no s 45 e2, e2] at H
    rw [if_neg h, decide_eq_false h]
    exact H
theorem cut_plus (s : ByteArray) (w : World) : Calls Tryz.prog 49 #[.string s, .string ⟨#[43]⟩] w fun e w' => e = .returned (.tuple #[.string (if (nums s).getD 0 0 = 43 then strOfNums ((nums s).drop 1) else s), .bool (decide ((nums s).getD 0 0 = 43))]) ∧ w' = w := by
  have H := cutpre14 s ⟨#[43]⟩ w
  have e1 : (ByteArray.mk #[43]).data.toList = [43] := rfl
  have e2 := pre_one s 43 (by decide)
  have e3 : (((43 : UInt8).toNat : Nat) : Int) = 43 := rfl
  rw [e3] at e2
  rw [e1] at H
  by_cases h : (nums s).getD 0 0 = 43
  · rw [decide_eq_true h] at e2
    rw [trim_yes s 43 e2, e2] at H
    rw [if_pos h, decide_eq_true h]
    exact H
  · rw [decide_eq_false h] at e2
    rw [trim_no s 43 e2, e2] at H
    rw [if_neg h, decide_eq_false h]
    exact H
theorem has_min (s : ByteArray) (w : World) : Calls Tryz.prog 50 #[.string s, .string ⟨#[45]⟩] w fun e w' => e = .returned (.bool (decide ((nums s).getD 0 0 = 45))) ∧ w' = w := by
  have H := haspre14 s ⟨#[45]⟩ w
  have e1 : (ByteArray.mk #[45]).data.toList = [45] := rfl
  rw [e1, pre_one s 45 (by decide)] at H
  exact H
theorem ext_drop (t : ByteArray) (k : Nat) : t.extract k t.size = strOfNums ((nums t).drop k) := by
  apply ByteArray.ext
  apply Array.toList_inj.1
  rw [strOfNums_data, ByteArray.data_extract, Array.toList_extract]
  unfold nums
  rw [← List.map_drop, List.map_map]
  have e : ((fun b => UInt8.ofNat b.toNat) ∘ fun (b : UInt8) => (b.toNat : Int)) = id := by
    funext x
    simp
  first | rw [e, List.map_id] | skip
  rw [List.extract_eq_take_drop, List.take_of_length_le (by simp)]
theorem goP_step (s : List Int) (x : Int) (k j : Nat) (h : k < s.length) : goP (s.drop k) (j + 1) x = if 48 ≤ s.getD k 0 ∧ s.getD k 0 ≤ 57 ∧ (0 < x ∨ s.getD k 0 ≠ 48) then goP (s.drop (k + 1)) j (x * 10 + (s.getD k 0 - 48)) else (x, s.drop k) := by
  rw [List.drop_eq_getElem_cons h]
  simp [goP, List.getD, h]
theorem goP_end (s : List Int) (x : Int) (k j : Nat) (h : ¬ k < s.length) : goP (s.drop k) j x = (x, s.drop k) := by
  rw [List.drop_eq_nil_of_le (by omega)]
  cases j <;> rfl
theorem goP_full (s : List Int) (x : Int) : goP s 0 x = (x, s) := by cases s <;> rfl
theorem ret_is {a b : Int} {c d : ByteArray} (h : a = b) (h' : c = d) : Ending.returned (.tuple #[.int .i64 a, .string c]) = .returned (.tuple #[.int .i64 b, .string d]) := by rw [h, h']
def sgn (bl : Bool) (x : Int) : Int := if bl then -x else x
set_option maxHeartbeats 6400000 in
theorem part_walk (s t : ByteArray) (bl : Bool) (w : World) (hs : t.size ≤ 9223372036854775806)
    (HC : Hid (∀ W, Calls Tryz.prog 49 #[.string s, .string ⟨#[45]⟩] W fun e w' => e = .returned (.tuple #[.string t, .bool bl]) ∧ w' = W)) :
    Calls Tryz.prog 28 #[.string s] w fun e w' => e = .returned (.tuple #[.int .i64 (sgn bl (goP (nums t) 6 0).1), .string (strOfNums (goP (nums t) 6 0).2)]) ∧ Gr w w' := by
  have hlen := nums_length t
  cases bl
  all_goals
    go_enter Tryz.func28, Tryz.ntmps28
    go_wp2_with (go_at_call 49; refine (unhide HC _).mono ?_; rintro e w1 ⟨rfl, rfl⟩)
    go_loopw [6, 7] (fun vn va wr => ∃ (k : Nat) (x : Int), k ≤ t.size ∧ k ≤ 6 ∧ vn = .int .i64 x ∧ va = .int .i64 (k : Int) ∧ 0 ≤ x ∧ Hid (x < 10 ^ k) ∧ Hid (goP (nums t) 6 0 = goP ((nums t).drop k) (6 - k) x) ∧ wr = w1) (fun _ a _ => t.size - (intOf a).toNat)
    case atStart => exact ⟨0, 0, by omega, by omega, rfl, rfl, Int.le_refl _, (by show (0 : Int) < 10 ^ 0; decide), rfl, rfl⟩
    case round =>
      obtain ⟨k, x, hk, hk6, rfl, rfl, x0, HX, HG, rfl⟩ := hrel
      have hx6 : x ≤ 999999 := by
        have h1 := unhide HX
        have h2 : (10 : Int) ^ k ≤ 10 ^ 6 := by exact_mod_cast Nat.pow_le_pow_right (n := 10) (by omega) hk6
        omega
      have y1 : IntKind.i64.wrap (-x) = -x := wrap_in (by omega) (by omega)
      have q0 : (0 : Int) ≤ (k : Int) := by omega
      have q1 : (k : Int) ≤ (t.size : Int) := by omega
      by_cases hlt : k < t.size
      · have hzl : (k : Int) < (t.size : Int) := by omega
        by_cases h6 : k < 6
        · have hz6 : (k : Int) < 6 := by omega
          have hst := goP_step (nums t) x k (5 - k) (by rw [hlen]; exact hlt)
          rw [nums_at t k hlt, show 5 - k + 1 = 6 - k by omega] at hst
          have hb0 := (t[k]).toNat_lt
          obtain ⟨c, hc⟩ : ∃ c : Int, (t[k].toNat : Int) = c := ⟨_, rfl⟩
          rw [hc] at hst
          have hc0 : 0 ≤ c := by omega
          have hc1 : c < 256 := by omega
          have HS := hide hst
          clear hst hb0
          by_cases d1 : 48 ≤ c
          · by_cases d2 : c ≤ 57
            · by_cases d3 : 0 < x ∨ c ≠ 48
              · have w1 : IntKind.i64.wrap (x * 10) = x * 10 := wrap_in (by omega) (by omega)
                have w2 : IntKind.u8.wrap (c - 48) = c - 48 := by simp [IntKind.wrap, IntKind.bits, IntKind.signed]; omega
                have w3 : IntKind.i64.wrap (c - 48) = c - 48 := wrap_in (by omega) (by omega)
                have w4 : IntKind.i64.wrap (x * 10 + (c - 48)) = x * 10 + (c - 48) := wrap_in (by omega) (by omega)
                have w5 : IntKind.i64.wrap ((k : Int) + 1) = (k : Int) + 1 := wrap_in (by omega) (by omega)
                by_cases d4 : 0 < x
                · go_wp2
                  go_roundw
                  case rel =>
                    refine ⟨k + 1, x * 10 + (c - 48), by omega, by omega, rfl, by go_num, by omega, ?_, ?_, trivial⟩
                    · show _ < _
                      have := unhide HX
                      rw [Int.pow_succ]
                      omega
                    · show _ = _
                      rw [unhide HG, unhide HS, if_pos ⟨d1, d2, d3⟩, show 6 - (k + 1) = 5 - k by omega]
                  case measure => simp [intOf]; omega
                · have d5 : ¬ c = 48 := by omega
                  go_wp2
                  go_roundw
                  case rel =>
                    refine ⟨k + 1, x * 10 + (c - 48), by omega, by omega, rfl, by go_num, by omega, ?_, ?_, trivial⟩
                    · show _ < _
                      have := unhide HX
                      rw [Int.pow_succ]
                      omega
                    · show _ = _
                      rw [unhide HG, unhide HS, if_pos ⟨d1, d2, d3⟩, show 6 - (k + 1) = 5 - k by omega]
                  case measure => simp [intOf]; omega
              · have d4 : ¬ 0 < x := fun h => d3 (.inl h)
                have d5 : c = 48 := Classical.byContradiction fun h => d3 (.inr h)
                have e : goP (nums t) 6 0 = (x, (nums t).drop k) := by rw [unhide HG, unhide HS, if_neg (by omega)]
                have HE := hide e
                subst d5
                clear e
                go_wp2
                go_region
                all_goals
                  go_wp2
                  go_ret2
                  exact ⟨by rw [unhide HE, ← ext_drop]; exact ret_is rfl rfl, (Gr.refl _).drew⟩
            · have HE : Hid (goP (nums t) 6 0 = (x, (nums t).drop k)) := by show _ = _; rw [unhide HG, unhide HS, if_neg (by omega)]
              go_wp2
              go_region
              all_goals
                go_wp2
                go_ret2
                exact ⟨by rw [unhide HE, ← ext_drop]; exact ret_is rfl rfl, (Gr.refl _).drew⟩
          · have HE : Hid (goP (nums t) 6 0 = (x, (nums t).drop k)) := by show _ = _; rw [unhide HG, unhide HS, if_neg (by omega)]
            go_wp2
            go_region
            all_goals
              go_wp2
              go_ret2
              exact ⟨by rw [unhide HE, ← ext_drop]; exact ret_is rfl rfl, (Gr.refl _).drew⟩
        · have hz6 : ¬ (k : Int) < 6 := by omega
          have HE : Hid (goP (nums t) 6 0 = (x, (nums t).drop k)) := by show _ = _; rw [unhide HG, show 6 - k = 0 by omega, goP_full]
          go_wp2
          go_region
          all_goals
            go_wp2
            go_ret2
            exact ⟨by rw [unhide HE, ← ext_drop]; exact ret_is rfl rfl, (Gr.refl _).drew⟩
      · have hzl : ¬ (k : Int) < (t.size : Int) := by omega
        have HE : Hid (goP (nums t) 6 0 = (x, (nums t).drop k)) := by show _ = _; rw [unhide HG, goP_end _ _ _ _ (by rw [hlen]; exact hlt)]
        go_wp2
        go_region
        all_goals
          go_wp2
          go_ret2
          exact ⟨by rw [unhide HE, ← ext_drop]; exact ret_is rfl rfl, (Gr.refl _).drew⟩
theorem nums_drop (s : ByteArray) (k : Nat) : nums (strOfNums ((nums s).drop k)) = (nums s).drop k := nums_strOfNums _ fun x hx => nums_bound s x (List.mem_of_mem_drop hx)
theorem size_drop (s : ByteArray) (k : Nat) : (strOfNums ((nums s).drop k)).size ≤ s.size := by rw [strOfNums_size, List.length_drop, nums_length]; omega
theorem part_any (s : ByteArray) (w : World) (hs : s.size ≤ 9223372036854775806) :
    Calls Tryz.prog 28 #[.string s] w fun e w' => e = .returned (.tuple #[.int .i64 (partL (nums s)).1, .string (strOfNums (partL (nums s)).2)]) ∧ Gr w w' := by
  by_cases h : (nums s).getD 0 0 = 45
  · have HC : Hid (∀ W, Calls Tryz.prog 49 #[.string s, .string ⟨#[45]⟩] W fun e w' => e = .returned (.tuple #[.string (strOfNums ((nums s).drop 1)), .bool true]) ∧ w' = W) := fun W => by
      have := cut_min s W
      rw [if_pos h, decide_eq_true h] at this
      exact this
    have H := part_walk s _ true w (Nat.le_trans (size_drop s 1) hs) HC
    rw [nums_drop] at H
    have e : partL (nums s) = (-(goP ((nums s).drop 1) 6 0).1, (goP ((nums s).drop 1) 6 0).2) := by unfold partL; rw [if_pos h]
    rw [e]
    exact H
  · have HC : Hid (∀ W, Calls Tryz.prog 49 #[.string s, .string ⟨#[45]⟩] W fun e w' => e = .returned (.tuple #[.string s, .bool false]) ∧ w' = W) := fun W => by
      have := cut_min s W
      rw [if_neg h, decide_eq_false h] at this
      exact this
    have H := part_walk s _ false w hs HC
    have e : partL (nums s) = goP (nums s) 6 0 := by unfold partL; rw [if_neg h]
    rw [e]
    exact H
set_option maxHeartbeats 800000 in
theorem sgn_any (s : ByteArray) (w : World) : Calls Tryz.prog 29 #[.string s] w fun e w' => e = .returned (.string (strOfNums (sgnL (nums s)))) ∧ w' = w := by
  have H1 := hide (fun W => has_min s W)
  have H2 := hide (fun W => cut_plus s W)
  by_cases h45 : (nums s).getD 0 0 = 45
  · have e : strOfNums (sgnL (nums s)) = s := by unfold sgnL; rw [if_pos h45, strOfNums_nums]
    rw [e]
    rw [decide_eq_true h45] at H1
    clear e h45 H2
    go_enter Tryz.func29, Tryz.ntmps29
    go_wp2_with (go_at_call 50; refine (unhide H1 _).mono ?_; rintro e w1 ⟨rfl, rfl⟩)
    go_ret
    exact ⟨rfl, rfl⟩
  · rw [decide_eq_false h45] at H1
    by_cases h43 : (nums s).getD 0 0 = 43
    · rw [if_pos h43, decide_eq_true h43] at H2
      have H3 := hide (fun W => has_min (strOfNums ((nums s).drop 1)) W)
      rw [nums_drop] at H3
      by_cases h2 : ((nums s).drop 1).getD 0 0 = 45
      · rw [decide_eq_true h2] at H3
        have e : strOfNums (sgnL (nums s)) = ⟨#[]⟩ := by unfold sgnL; rw [if_neg h45, if_neg (fun h => h.2 h2)]; rfl
        rw [e]
        clear e h45 h43 h2
        generalize strOfNums ((nums s).drop 1) = t at *
        go_enter Tryz.func29, Tryz.ntmps29
        go_wp2_with (first | (go_at_call 50; have m1 := k1; refine (unhide H3 _).mono ?_; rintro e w1 ⟨rfl, rfl⟩) | (go_at_call 49; refine (unhide H2 _).mono ?_; rintro e w1 ⟨rfl, rfl⟩; have k1 : True := trivial) | (go_at_call 50; refine (unhide H1 _).mono ?_; rintro e w1 ⟨rfl, rfl⟩))
        go_ret
        exact ⟨rfl, rfl⟩
      · rw [decide_eq_false h2] at H3
        have e : strOfNums (sgnL (nums s)) = strOfNums ((nums s).drop 1) := by unfold sgnL; rw [if_neg h45, if_pos ⟨h43, h2⟩]
        rw [e]
        clear e h45 h43 h2
        generalize strOfNums ((nums s).drop 1) = t at *
        go_enter Tryz.func29, Tryz.ntmps29
        go_wp2_with (first | (go_at_call 50; have m1 := k1; refine (unhide H3 _).mono ?_; rintro e w1 ⟨rfl, rfl⟩) | (go_at_call 49; refine (unhide H2 _).mono ?_; rintro e w1 ⟨rfl, rfl⟩; have k1 : True := trivial) | (go_at_call 50; refine (unhide H1 _).mono ?_; rintro e w1 ⟨rfl, rfl⟩))
        go_ret
        exact ⟨rfl, rfl⟩
    · rw [if_neg h43, decide_eq_false h43] at H2
      have e : strOfNums (sgnL (nums s)) = ⟨#[]⟩ := by unfold sgnL; rw [if_neg h45, if_neg (fun h => h43 h.1)]; rfl
      rw [e]
      clear e h45 h43
      go_enter Tryz.func29, Tryz.ntmps29
      go_wp2_with (first | (go_at_call 49; refine (unhide H2 _).mono ?_; rintro e w1 ⟨rfl, rfl⟩) | (go_at_call 50; refine (unhide H1 _).mono ?_; rintro e w1 ⟨rfl, rfl⟩))
      go_ret
      exact ⟨rfl, rfl⟩
theorem str_is (xs : List Int) (h : ∀ x ∈ xs, 0 ≤ x ∧ x < 256) (t : Array UInt8) (ys : List Int) (ht : nums ⟨t⟩ = ys) : ((strOfNums xs).toList == t.toList) = decide (xs = ys) := by
  have e := str_same xs h ⟨t⟩
  rw [ht, ByteArray.toList_eq ⟨t⟩] at e
  exact e
theorem str_emp (xs : List Int) : (strOfNums xs).toList.isEmpty = decide (xs = []) := by
  by_cases h : xs = []
  · rw [decide_eq_true h, h, ByteArray.toList_eq]; rfl
  · rw [decide_eq_false h]; exact str_some h
theorem goP_mem : ∀ (s : List Int) (k : Nat) (n : Int), ∀ x ∈ (goP s k n).2, x ∈ s
  | [], _, _, x, hx => hx
  | _ :: _, 0, _, x, hx => hx
  | c :: s, k + 1, n, x, hx => by
    simp only [goP] at hx
    split at hx
    · exact List.mem_cons_of_mem _ (goP_mem s k _ x hx)
    · exact hx
theorem partL_mem (s : List Int) : ∀ x ∈ (partL s).2, x ∈ s := by
  intro x hx
  unfold partL at hx
  split at hx
  · exact List.mem_of_mem_drop (goP_mem _ _ _ x hx)
  · exact goP_mem _ _ _ x hx
theorem sgnL_mem (s : List Int) : ∀ x ∈ sgnL s, x ∈ s := by
  intro x hx
  unfold sgnL at hx
  split at hx
  · exact hx
  · split at hx
    · exact List.mem_of_mem_drop hx
    · cases hx
theorem goP_lenle : ∀ (s : List Int) (k : Nat) (n : Int), (goP s k n).2.length ≤ s.length
  | [], _, _ => Nat.le_refl _
  | _ :: _, 0, _ => Nat.le_refl _
  | c :: s, k + 1, n => by
    simp only [goP]
    split
    · have := goP_lenle s k (n * 10 + (c - 48))
      simp; omega
    · exact Nat.le_refl _
theorem partL_lenle (s : List Int) : (partL s).2.length ≤ s.length := by
  unfold partL
  split
  · have := goP_lenle (s.drop 1) 6 0
    rw [List.length_drop] at this
    simp only
    omega
  · exact goP_lenle s 6 0
theorem sgnL_lenle (s : List Int) : (sgnL s).length ≤ s.length := by
  unfold sgnL
  split
  · exact Nat.le_refl _
  · split
    · rw [List.length_drop]; omega
    · simp
theorem ret_z {x y x' y' : Nat} {c d : Int} (h1 : x = x') (h2 : y = y') (h3 : c = d) : Ending.returned (.tuple #[cc x y, .int .i64 c]) = .returned (.tuple #[cc x' y', .int .i64 d]) := by rw [h1, h2, h3]
theorem flt_zero : floatOfInt .f64 0 = 0 := by kernel_rfl
set_option maxHeartbeats 3200000 in
theorem gparse_w (s : ByteArray) (w : World) (hs : s.size ≤ 9223372036854775806) : Calls Tryz.prog 17 #[.string s] w fun e w' => e = .returned (.tuple #[cc (floatOfInt .f64 (parG (nums s)).1) (floatOfInt .f64 (parG (nums s)).2), .int .i64 (parF (nums s))]) ∧ Gr w w' := by
  have hz : (s.toList == ([48] : List UInt8)) = decide (nums s = [48]) := by
    have := str_is (nums s) (nums_bound s) #[48] [48] rfl
    rw [strOfNums_nums] at this
    exact this
  have H1 := hide (fun W => part_any s W hs)
  have hb1 : ∀ x ∈ (partL (nums s)).2, 0 ≤ x ∧ x < 256 := fun x hx => nums_bound s x (partL_mem _ x hx)
  have hl1 : (partL (nums s)).2.length ≤ s.size := by have := partL_lenle (nums s); rwa [nums_length] at this
  by_cases c0 : nums s = [48]
  · have hp : pars (nums s) = some (0, 0) := by unfold pars; rw [if_pos c0]
    rw [(pars_some hp).1, (pars_some hp).2]
    show Calls _ _ _ _ fun e w' => e = .returned (.tuple #[cc (floatOfInt .f64 0) (floatOfInt .f64 0), .int .i64 0]) ∧ Gr w w'
    rw [flt_zero]
    rw [decide_eq_true c0] at hz
    clear H1 hp c0 hb1 hl1 hs
    go_enter Tryz.func17, Tryz.ntmps17
    go_wp2
    go_ret2
    exact ⟨rfl, Gr.refl _⟩
  · rw [decide_eq_false c0] at hz
    have HP : Hid (pars (nums s) = if (partL (nums s)).1 = 0 then none else if (partL (nums s)).2 = [] then some ((partL (nums s)).1, 0) else if (partL (nums s)).2 = [105] then some (0, (partL (nums s)).1) else if (partL (sgnL (partL (nums s)).2)).1 = 0 ∨ (partL (sgnL (partL (nums s)).2)).2 ≠ [105] then none else some ((partL (nums s)).1, (partL (sgnL (partL (nums s)).2)).1)) := by
      show _ = _
      unfold pars
      rw [if_neg c0]
    have he := str_emp (partL (nums s)).2
    have hi : ((strOfNums (partL (nums s)).2).toList == ([105] : List UInt8)) = decide ((partL (nums s)).2 = [105]) := str_is (partL (nums s)).2 hb1 #[105] [105] rfl
    have H2 := hide (fun W => sgn_any (strOfNums (partL (nums s)).2) W)
    rw [nums_strOfNums _ hb1] at H2
    have hb2 : ∀ x ∈ sgnL (partL (nums s)).2, 0 ≤ x ∧ x < 256 := fun x hx => hb1 x (sgnL_mem _ x hx)
    have hl2 := sgnL_lenle (partL (nums s)).2
    have H3 := hide (fun W => part_any (strOfNums (sgnL (partL (nums s)).2)) W (by rw [strOfNums_size]; omega))
    rw [nums_strOfNums _ hb2] at H3
    have hb3 : ∀ x ∈ (partL (sgnL (partL (nums s)).2)).2, 0 ≤ x ∧ x < 256 := fun x hx => hb2 x (partL_mem _ x hx)
    have hj : ((strOfNums (partL (sgnL (partL (nums s)).2)).2).toList == ([105] : List UInt8)) = decide ((partL (sgnL (partL (nums s)).2)).2 = [105]) := str_is (partL (sgnL (partL (nums s)).2)).2 hb3 #[105] [105] rfl
    have pn := fun h => pars_none (s := nums s) h
    have ps := fun p h => pars_some (s := nums s) (p := p) h
    clear hs c0 hb1 hl1 hb2 hl2 hb3
    generalize pars (nums s) = P at *
    generalize (partL (sgnL (partL (nums s)).2)).1 = g at *
    generalize (partL (sgnL (partL (nums s)).2)).2 = r2 at *
    generalize strOfNums (sgnL (partL (nums s)).2) = t at *
    generalize (partL (nums s)).1 = f at *
    generalize (partL (nums s)).2 = r at *
    generalize parG (nums s) = G at *
    generalize parF (nums s) = E at *
    by_cases c1 : f = 0
    · have hq := unhide HP
      rw [if_pos c1] at hq
      obtain ⟨g1, g2⟩ := pn hq
      rw [g1, g2]
      show Calls _ _ _ _ fun e w' => e = .returned (.tuple #[cc (floatOfInt .f64 0) (floatOfInt .f64 0), .int .i64 140]) ∧ Gr w w'
      rw [flt_zero]
      clear HP pn ps hq g1 g2 hi he hj H2 H3
      subst c1
      go_enter Tryz.func17, Tryz.ntmps17
      go_wp2_with (go_at_call 28; refine (unhide H1 _).mono ?_; rintro e w1 ⟨rfl, q1⟩)
      go_ret2
      exact ⟨rfl, q1⟩
    · by_cases c2 : r = []
      · have hq := unhide HP
        rw [if_neg c1, if_pos c2] at hq
        obtain ⟨g1, g2⟩ := ps _ hq
        rw [g1, g2]
        show Calls _ _ _ _ fun e w' => e = .returned (.tuple #[cc (floatOfInt .f64 f) (floatOfInt .f64 0), .int .i64 0]) ∧ Gr w w'
        rw [flt_zero]
        rw [decide_eq_true c2] at he
        clear HP pn ps hq g1 g2 hi hj H2 H3 c2
        go_enter Tryz.func17, Tryz.ntmps17
        go_wp2_with (go_at_call 28; refine (unhide H1 _).mono ?_; rintro e w1 ⟨rfl, q1⟩)
        go_ret2
        exact ⟨rfl, q1⟩
      · rw [decide_eq_false c2] at he
        by_cases c3 : r = [105]
        · have hq := unhide HP
          rw [if_neg c1, if_neg c2, if_pos c3] at hq
          obtain ⟨g1, g2⟩ := ps _ hq
          rw [g1, g2]
          show Calls _ _ _ _ fun e w' => e = .returned (.tuple #[cc (floatOfInt .f64 0) (floatOfInt .f64 f), .int .i64 0]) ∧ Gr w w'
          rw [flt_zero]
          rw [decide_eq_true c3] at hi
          clear HP pn ps hq g1 g2 hj H2 H3 c2 c3
          go_enter Tryz.func17, Tryz.ntmps17
          go_wp2_with (go_at_call 28; refine (unhide H1 _).mono ?_; rintro e w1 ⟨rfl, q1⟩)
          go_ret2
          exact ⟨rfl, q1⟩
        · rw [decide_eq_false c3] at hi
          by_cases c4 : g = 0
          · have hq := unhide HP
            rw [if_neg c1, if_neg c2, if_neg c3, if_pos (.inl c4)] at hq
            obtain ⟨g1, g2⟩ := pn hq
            rw [g1, g2]
            show Calls _ _ _ _ fun e w' => e = .returned (.tuple #[cc (floatOfInt .f64 0) (floatOfInt .f64 0), .int .i64 140]) ∧ Gr w w'
            rw [flt_zero]
            clear HP pn ps hq g1 g2 hj c2 c3
            subst c4
            go_enter Tryz.func17, Tryz.ntmps17
            go_wp2_with (first | (go_at_call 28; have m1 := k1; refine (unhide H3 _).mono ?_; rintro e w3 ⟨rfl, q3⟩) | (go_at_call 29; refine (unhide H2 _).mono ?_; rintro e w2 ⟨rfl, rfl⟩; have k1 : True := trivial) | (go_at_call 28; refine (unhide H1 _).mono ?_; rintro e w1 ⟨rfl, q1⟩))
            go_ret2
            exact ⟨rfl, q1.trans q3⟩
          · by_cases c5 : r2 = [105]
            · have hq := unhide HP
              rw [if_neg c1, if_neg c2, if_neg c3, if_neg (by simp [c4, c5])] at hq
              obtain ⟨g1, g2⟩ := ps _ hq
              rw [g1, g2]
              show Calls _ _ _ _ fun e w' => e = .returned (.tuple #[cc (floatOfInt .f64 f) (floatOfInt .f64 g), .int .i64 0]) ∧ Gr w w'
              rw [decide_eq_true c5] at hj
              clear HP pn ps hq g1 g2 c2 c3 c5
              go_enter Tryz.func17, Tryz.ntmps17
              go_wp2_with (first | (go_at_call 28; have m1 := k1; refine (unhide H3 _).mono ?_; rintro e w3 ⟨rfl, q3⟩) | (go_at_call 29; refine (unhide H2 _).mono ?_; rintro e w2 ⟨rfl, rfl⟩; have k1 : True := trivial) | (go_at_call 28; refine (unhide H1 _).mono ?_; rintro e w1 ⟨rfl, q1⟩))
              go_ret2
              exact ⟨rfl, q1.trans q3⟩
            · have hq := unhide HP
              rw [if_neg c1, if_neg c2, if_neg c3, if_pos (.inr c5)] at hq
              obtain ⟨g1, g2⟩ := pn hq
              rw [g1, g2]
              show Calls _ _ _ _ fun e w' => e = .returned (.tuple #[cc (floatOfInt .f64 0) (floatOfInt .f64 0), .int .i64 140]) ∧ Gr w w'
              rw [flt_zero]
              rw [decide_eq_false c5] at hj
              clear HP pn ps hq g1 g2 c2 c3 c5
              go_enter Tryz.func17, Tryz.ntmps17
              go_wp2_with (first | (go_at_call 28; have m1 := k1; refine (unhide H3 _).mono ?_; rintro e w3 ⟨rfl, q3⟩) | (go_at_call 29; refine (unhide H2 _).mono ?_; rintro e w2 ⟨rfl, rfl⟩; have k1 : True := trivial) | (go_at_call 28; refine (unhide H1 _).mono ?_; rintro e w1 ⟨rfl, q1⟩))
              go_ret2
              exact ⟨rfl, q1.trans q3⟩
end Go.Proofs.YtefobkgifigclaaGreatDoor.S14
