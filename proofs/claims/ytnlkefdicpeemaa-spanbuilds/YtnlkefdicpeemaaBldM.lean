/- What Build makes is a table, and tells what was said last (plain). -/
import Derived.Test.YtnlkefdicpeemaaBuild0
import Derived.Test.YtnlkefdicpeemaaMath
namespace Go.Proofs.Ytnlkefdicpeemaa

theorem tb_iff (l : List Sp) : isTb l ↔ ∀ i, i < l.length → okAt l i = true := ⟨fun h i hi => okTo_at h i hi, fun h => okTo_of h⟩
theorem getD_snoc (T : List Sp) (s : Sp) (i : Nat) (h : i < T.length) : (T ++ [s]).getD i sp0 = T.getD i sp0 := by
  simp [List.getD, List.getElem?_append_left h]
theorem getD_snoc_last (T : List Sp) (s : Sp) : (T ++ [s]).getD T.length sp0 = s := by simp [List.getD]
theorem tb_snoc (T : List Sp) (s : Sp) : isTb (T ++ [s]) ↔ isTb T ∧ mayS s = true ∧ s.h ≠ 0 ∧ (T.length = 0 ∨ folS (T.getD (T.length - 1) sp0) s = true) := by
  rw [tb_iff, tb_iff]
  have e1 : ∀ i, i < T.length → okAt (T ++ [s]) i = okAt T i := fun i hi => by
    unfold okAt
    rw [getD_snoc T s i hi, getD_snoc T s (i - 1) (by omega)]
  have e2 : okAt (T ++ [s]) T.length = (mayS s && (decide (s.h ≠ 0) && (decide (T.length = 0) || folS (T.getD (T.length - 1) sp0) s))) := by
    unfold okAt
    rw [getD_snoc_last]
    by_cases h0 : T.length = 0
    · simp [h0]
    · rw [getD_snoc T s (T.length - 1) (by omega)]
  constructor
  · intro h
    have h1 := h T.length (by simp)
    rw [e2] at h1
    simp only [Bool.and_eq_true, Bool.or_eq_true, decide_eq_true_eq] at h1
    exact ⟨fun i hi => by rw [← e1 i hi]; exact h i (by simp; omega), h1.1, h1.2.1, h1.2.2⟩
  · rintro ⟨h1, h2, h3, h4⟩ i hi
    by_cases hi2 : i < T.length
    · rw [e1 i hi2]; exact h1 i hi2
    · have : i = T.length := by simp at hi; omega
      rw [this, e2]
      simp only [Bool.and_eq_true, Bool.or_eq_true, decide_eq_true_eq]
      exact ⟨h2, h3, h4⟩
theorem fnd_snoc (T : List Sp) (s : Sp) (r : Int) (h : ∀ x, x ∈ T → x.t < s.f) : fnd (T ++ [s]) r = if inS s r = true then s.h else fnd T r := by
  induction T with
  | nil => simp [fnd]
  | cons x T ih =>
    simp only [List.cons_append, fnd]
    rw [ih fun y hy => h y (by simp [hy])]
    by_cases hx : inS x r = true
    · have h1 := (inS_iff _ _).1 hx
      have h2 := h x (by simp)
      have h3 : ¬ inS s r = true := by rw [inS_iff]; omega
      rw [if_pos hx, if_neg h3, if_pos hx]
    · rw [if_neg hx, if_neg hx]

/-- A span laid behind a table. -/
theorem lay_tb (T : List Sp) (s : Sp) (hT : isTb T) (hs : mayS s = true) (h0 : s.h ≠ 0) (hlt : ∀ x, x ∈ T → x.t < s.f) :
    isTb (layL T s) ∧ (∀ x, x ∈ layL T s → x.t ≤ s.t) ∧ ∀ r, fnd (layL T s) r = if inS s r = true then s.h else fnd T r := by
  have hss := (mayS_iff _).1 hs
  rcases List.eq_nil_or_concat T with rfl | ⟨T0, p, rfl⟩
  · rw [layL_nil]
    refine ⟨(tb_snoc [] s).2 ⟨hT, hs, h0, .inl rfl⟩, fun x hx => by simp at hx; rw [hx]; omega, fun r => ?_⟩
    simp [fnd]
  · rw [List.concat_eq_append] at hT hlt ⊢
    have hpos : 0 < (T0 ++ [p]).length := by simp
    have hlast : (T0 ++ [p]).getD ((T0 ++ [p]).length - 1) sp0 = p := by simp [List.getD]
    obtain ⟨t1, t2, t3, t4⟩ := (tb_snoc T0 p).1 hT
    have hpp := (mayS_iff _).1 t2
    have hplt := hlt p (by simp)
    have hall : ∀ x, x ∈ T0 → x.t < p.f := fun x hx => by
      obtain ⟨i, hi, he⟩ := List.mem_iff_getElem.1 hx
      have h1 := ok_lt (l := T0 ++ [p]) (i := i) (j := T0.length) hT (by omega) (by simp)
      rw [getD_snoc T0 p i hi, getD_snoc_last] at h1
      have : T0.getD i sp0 = x := by simp [List.getD, hi, he]
      rw [this] at h1; exact h1
    cases hj : joinS p s with
    | true =>
      have hjj := (joinS_iff _ _).1 hj
      rw [layL_into _ s hpos (by rw [hlast]; exact hj), hlast, List.dropLast_concat]
      refine ⟨(tb_snoc T0 _).2 ⟨t1, ?_, t3, ?_⟩, ?_, fun r => ?_⟩
      · rw [mayS_iff]; dsimp only; omega
      · refine t4.imp id fun h => ?_
        simp only [folS, joinS] at h ⊢
        exact h
      · intro x hx
        rcases List.mem_append.1 hx with hx | hx
        · have := hall x hx; omega
        · simp at hx; rw [hx]; exact Int.le_refl _
      · rw [fnd_snoc T0 ⟨p.f, s.t, p.h⟩ r hall, fnd_snoc T0 p r hall]
        by_cases i1 : inS p r = true
        · have e1 := (inS_iff _ _).1 i1
          have n1 : ¬ inS s r = true := by rw [inS_iff]; omega
          have p1 : inS ⟨p.f, s.t, p.h⟩ r = true := by rw [inS_iff]; dsimp only; omega
          rw [if_pos p1, if_neg n1, if_pos i1]
        · by_cases i2 : inS s r = true
          · have e2 := (inS_iff _ _).1 i2
            have p1 : inS ⟨p.f, s.t, p.h⟩ r = true := by rw [inS_iff]; dsimp only; omega
            rw [if_pos p1, if_pos i2]; exact hjj.2.symm
          · have p1 : ¬ inS ⟨p.f, s.t, p.h⟩ r = true := by
              rw [inS_iff] at i1 i2 ⊢; dsimp only; omega
            rw [if_neg p1, if_neg i2, if_neg i1]
    | false =>
      rw [layL_push _ s hpos (by rw [hlast]; exact hj)]
      refine ⟨(tb_snoc _ s).2 ⟨hT, hs, h0, .inr ?_⟩, ?_, fun r => fnd_snoc _ s r hlt⟩
      · rw [hlast]; simp only [folS, hj, Bool.not_false, Bool.and_true, decide_eq_true_eq]; exact hplt
      · intro x hx
        rcases List.mem_append.1 hx with hx | hx
        · have := hlt x hx; omega
        · simp at hx; rw [hx]; exact Int.le_refl _

theorem lastV_zero (l : List Sp) (r : Int) (h : ∀ s, s ∈ l → inS s r = false) : lastV l r = 0 := by
  unfold lastV
  rw [List.find?_eq_none.2 (fun s hs => by rw [h s (by simpa using hs)]; simp)]
theorem lastV_congr (l : List Sp) (r r' : Int) (h : ∀ s, s ∈ l → inS s r = inS s r') : lastV l r = lastV l r' := by
  unfold lastV
  have : l.reverse.find? (fun s => inS s r) = l.reverse.find? (fun s => inS s r') := by
    have hh : ∀ L : List Sp, (∀ s, s ∈ L → inS s r = inS s r') → L.find? (fun s => inS s r) = L.find? (fun s => inS s r') := by
      intro L
      induction L with
      | nil => intro _; rfl
      | cons x L ih =>
        intro hL
        simp only [List.find?_cons, hL x (by simp), ih fun s hs => hL s (by simp [hs])]
    exact hh _ fun s hs => h s (by simpa using hs)
  rw [this]

section
variable {l : List Sp} {es : List Int}
theorem es_lt (hpw : es.Pairwise (· < ·)) (i j : Nat) (hij : i < j) (hj : j < es.length) : es.getD i 0 < es.getD j 0 := by
  have := List.pairwise_iff_getElem.1 hpw i j (by omega) hj hij
  simpa [List.getD, hj, show i < es.length by omega] using this
theorem es_mem (i : Nat) (hi : i < es.length) : es.getD i 0 ∈ es := by
  simp [List.getD, hi]
theorem es_get (x : Int) (h : x ∈ es) : ∃ i, i < es.length ∧ es.getD i 0 = x := by
  obtain ⟨i, hi, he⟩ := List.mem_iff_getElem.1 h
  exact ⟨i, hi, by simp [List.getD, hi, he]⟩
theorem es_between (hpw : es.Pairwise (· < ·)) (k : Nat) (hk : k + 1 < es.length) (x : Int) (hx : x ∈ es) : x ≤ es.getD k 0 ∨ es.getD (k + 1) 0 ≤ x := by
  obtain ⟨i, hi, rfl⟩ := es_get x hx
  rcases Nat.lt_trichotomy i k with h | h | h
  · exact .inl (Int.le_of_lt (es_lt hpw i k h (by omega)))
  · rw [h]; exact .inl (Int.le_refl _)
  · rcases Nat.lt_or_ge (k + 1) i with h2 | h2
    · exact .inr (Int.le_of_lt (es_lt hpw (k + 1) i h2 hi))
    · rw [show i = k + 1 by omega]; exact .inr (Int.le_refl _)
theorem last_const (hpw : es.Pairwise (· < ·)) (hmem : ∀ x, x ∈ es ↔ ∃ s, s ∈ l ∧ (x = s.f ∨ x = s.t + 1)) (k : Nat) (hk : k + 1 < es.length) (r : Int) (h1 : es.getD k 0 ≤ r) (h2 : r < es.getD (k + 1) 0) : lastV l r = lastV l (es.getD k 0) := by
  refine lastV_congr l _ _ fun s hs => ?_
  have e1 := es_between hpw k hk s.f ((hmem _).2 ⟨s, hs, .inl rfl⟩)
  have e2 := es_between hpw k hk (s.t + 1) ((hmem _).2 ⟨s, hs, .inr rfl⟩)
  have : (inS s r = true) ↔ (inS s (es.getD k 0) = true) := by rw [inS_iff, inS_iff]; omega
  cases h3 : inS s r <;> cases h4 : inS s (es.getD k 0) <;> simp_all
theorem last_early (hpw : es.Pairwise (· < ·)) (hmem : ∀ x, x ∈ es ↔ ∃ s, s ∈ l ∧ (x = s.f ∨ x = s.t + 1)) (_h0 : 0 < es.length) (r : Int) (h : r < es.getD 0 0) : lastV l r = 0 := by
  refine lastV_zero l r fun s hs => ?_
  obtain ⟨i, hi, he⟩ := es_get s.f ((hmem _).2 ⟨s, hs, .inl rfl⟩)
  have : es.getD 0 0 ≤ s.f := by
    rcases Nat.eq_zero_or_pos i with h1 | h1
    · subst h1; omega
    · have := es_lt hpw 0 i h1 hi; omega
  rw [inS_not]; omega
theorem last_late (hpw : es.Pairwise (· < ·)) (hmem : ∀ x, x ∈ es ↔ ∃ s, s ∈ l ∧ (x = s.f ∨ x = s.t + 1)) (h0 : 0 < es.length) (r : Int) (h : es.getD (es.length - 1) 0 ≤ r) : lastV l r = 0 := by
  refine lastV_zero l r fun s hs => ?_
  obtain ⟨i, hi, he⟩ := es_get (s.t + 1) ((hmem _).2 ⟨s, hs, .inr rfl⟩)
  have : s.t + 1 ≤ es.getD (es.length - 1) 0 := by
    rcases Nat.lt_or_ge i (es.length - 1) with h1 | h1
    · have := es_lt hpw i (es.length - 1) h1 (by omega); omega
    · rw [show es.length - 1 = i by omega]; omega
  rw [inS_not]; omega

theorem bld_inv (hm : ∀ k, k < l.length → mayS (l.getD k sp0) = true) (hpw : es.Pairwise (· < ·)) (hmem : ∀ x, x ∈ es ↔ ∃ s, s ∈ l ∧ (x = s.f ∨ x = s.t + 1)) : ∀ k, k < es.length → isTb (bldTo l es k) ∧ (∀ x, x ∈ bldTo l es k → x.t < es.getD k 0) ∧ ∀ r, fnd (bldTo l es k) r = if r < es.getD k 0 then lastV l r else 0
  | 0, hk => by
    refine ⟨rfl, fun x hx => by simp [bldTo] at hx, fun r => ?_⟩
    simp only [bldTo, fnd]
    split
    · rename_i h; exact (last_early hpw hmem hk r h).symm
    · rfl
  | k + 1, hk => by
    obtain ⟨i1, i2, i3⟩ := bld_inv hm hpw hmem k (by omega)
    have hlt := es_lt hpw k (k + 1) (by omega) hk
    have hb1 := es_bound hm hmem k
    have hb2 := es_bound hm hmem (k + 1)
    have hkey : ∀ r, (if es.getD k 0 ≤ r ∧ r ≤ es.getD (k + 1) 0 - 1 then lastV l (es.getD k 0) else (if r < es.getD k 0 then lastV l r else 0)) = if r < es.getD (k + 1) 0 then lastV l r else 0 := fun r => by
      by_cases h1 : r < es.getD k 0
      · rw [if_neg (by omega), if_pos h1, if_pos (by omega)]
      · by_cases h2 : r < es.getD (k + 1) 0
        · rw [if_pos (by omega), if_pos h2, last_const hpw hmem k hk r (by omega) h2]
        · rw [if_neg (by omega), if_neg h1, if_neg h2]
    simp only [bldTo]
    by_cases hz : lastV l (es.getD k 0) = 0
    · rw [if_pos hz]
      refine ⟨i1, fun x hx => by have := i2 x hx; omega, fun r => ?_⟩
      rw [i3 r, ← hkey r, hz]
      by_cases h1 : es.getD k 0 ≤ r ∧ r ≤ es.getD (k + 1) 0 - 1
      · rw [if_pos h1, if_neg (by omega)]
      · rw [if_neg h1]
    · rw [if_neg hz]
      obtain ⟨j1, j2, j3⟩ := lay_tb (bldTo l es k) ⟨es.getD k 0, es.getD (k + 1) 0 - 1, lastV l (es.getD k 0)⟩ i1 (by rw [mayS_iff]; dsimp only; omega) hz i2
      refine ⟨j1, fun x hx => by have := j2 x hx; dsimp only at this; omega, fun r => ?_⟩
      rw [j3 r, i3 r, ← hkey r]
      by_cases h1 : es.getD k 0 ≤ r ∧ r ≤ es.getD (k + 1) 0 - 1
      · rw [if_pos ((inS_iff _ _).2 h1), if_pos h1]
      · rw [if_neg (fun h => h1 ((inS_iff _ _).1 h)), if_neg h1]

/-- What is built is a table, and tells of each number what was said last. -/
theorem bld_tells (hm : ∀ k, k < l.length → mayS (l.getD k sp0) = true) (hpw : es.Pairwise (· < ·)) (hmem : ∀ x, x ∈ es ↔ ∃ s, s ∈ l ∧ (x = s.f ∨ x = s.t + 1)) : isTb (bldTo l es es.length) ∧ ∀ r, fnd (bldTo l es es.length) r = lastV l r := by
  by_cases h0 : 0 < es.length
  · obtain ⟨i1, _, i3⟩ := bld_inv hm hpw hmem (es.length - 1) (by omega)
    have hz : lastV l (es.getD (es.length - 1) 0) = 0 := last_late hpw hmem h0 _ (Int.le_refl _)
    have e : bldTo l es es.length = bldTo l es (es.length - 1) := by
      obtain ⟨n, hn⟩ : ∃ n, es.length = n + 1 := ⟨es.length - 1, by omega⟩
      rw [hn] at hz ⊢
      simp only [Nat.add_sub_cancel] at hz ⊢
      rw [bldTo, if_pos hz]
    rw [e]
    refine ⟨i1, fun r => ?_⟩
    rw [i3 r]
    by_cases h1 : r < es.getD (es.length - 1) 0
    · rw [if_pos h1]
    · rw [if_neg h1, last_late hpw hmem h0 r (by omega)]
  · have h1 : es.length = 0 := by omega
    have hl : l = [] := by
      cases l with
      | nil => rfl
      | cons s l =>
        have := (hmem s.f).2 ⟨s, by simp, .inl rfl⟩
        rw [List.length_eq_zero_iff.1 h1] at this
        simp at this
    subst hl
    rw [h1]
    exact ⟨rfl, fun r => rfl⟩
end
end Go.Proofs.Ytnlkefdicpeemaa
