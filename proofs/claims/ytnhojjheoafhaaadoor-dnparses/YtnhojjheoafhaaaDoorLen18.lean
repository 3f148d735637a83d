/- How long texts of names are; a step of writing. -/
import Derived.Test.YtnhojjheoafhaaaDoorNm18
namespace Go.Proofs.YtnhojjheoafhaaaDoor
set_option maxRecDepth 100000
open Go.RowKit

theorem escB_len (f la : Bool) (c : Int) : 1 ≤ (escB f la c).length ∧ (escB f la c).length ≤ 3 := by
  unfold escB
  repeat' split
  all_goals simp
theorem shV_len : ∀ (l : List Int) (f : Bool), (shV f l).length ≤ 3 * l.length
  | [], _ => by simp [shV]
  | c :: t, f => by
    have h1 := shV_len t false
    have h2 := escB_len f t.isEmpty c
    rw [shV, List.length_append, List.length_cons]
    omega
/-- A pair whose texts are not too long. -/
def smP (p : Pr) : Prop := p.nam.size ≤ 16 ∧ p.val.size ≤ 400
theorem okP_sm {p : Pr} (h : okP p = true) : smP p := by
  obtain ⟨h1, _, h3⟩ := okP_parts h
  have := wrd_len h1
  rw [nums_length] at this
  exact ⟨this.2, h3⟩
theorem shP_len {p : Pr} (h : smP p) : (shP p).length ≤ 1217 := by
  unfold shP
  have := shV_len (nums p.val) true
  rw [nums_length] at this
  rw [List.length_append, List.length_cons, nums_length]
  have := h.1
  have := h.2
  omega
theorem shR_len : ∀ (r : List Pr) (f : Bool), (∀ p ∈ r, smP p) → (shR f r).length ≤ 1218 * r.length
  | [], _, _ => by simp [shR]
  | p :: t, f, h => by
    have h1 := shR_len t false (fun q hq => h q (by simp [hq]))
    have h2 := shP_len (h p (by simp))
    rw [shR, List.length_append, List.length_append, List.length_cons]
    cases f <;> simp <;> omega
theorem shR_snoc (p : Pr) : ∀ (a : List Pr) (f : Bool), shR f (a ++ [p]) = shR f a ++ ((if (f && a.isEmpty) = true then [] else [43]) ++ shP p)
  | [], f => by cases f <;> simp [shR]
  | q :: t, f => by
    have := shR_snoc p t false
    simp only [List.cons_append, shR, this]
    cases f <;> simp
theorem shR_next (r : List Pr) (i : Nat) (h : i < r.length) : shR true (r.take (i + 1)) = shR true (r.take i) ++ ((if i = 0 then [] else [43]) ++ shP (r.getD i pr0)) := by
  rw [List.take_succ_eq_append_getElem h, shR_snoc]
  have e : r[i] = r.getD i pr0 := by simp [List.getD, h]
  rw [e]
  by_cases h0 : i = 0
  · subst h0; simp
  · rw [if_neg (by cases r with | nil => simp at h | cons => simp_all), if_neg h0]
theorem shN_snoc (p : List Pr) : ∀ (a : List (List Pr)) (f : Bool), shN f (a ++ [p]) = shN f a ++ ((if (f && a.isEmpty) = true then [] else [44]) ++ shR true p)
  | [], f => by cases f <;> simp [shN]
  | q :: t, f => by
    have := shN_snoc p t false
    simp only [List.cons_append, shN, this]
    cases f <;> simp
theorem shN_next (r : List (List Pr)) (i : Nat) (h : i < r.length) : shN true (r.take (i + 1)) = shN true (r.take i) ++ ((if i = 0 then [] else [44]) ++ shR true (r.getD i [])) := by
  rw [List.take_succ_eq_append_getElem h, shN_snoc]
  have e : r[i] = r.getD i [] := by simp [List.getD, h]
  rw [e]
  by_cases h0 : i = 0
  · subst h0; simp
  · rw [if_neg (by cases r with | nil => simp at h | cons => simp_all), if_neg h0]
theorem shN_len : ∀ (n : List (List Pr)) (f : Bool), (∀ r ∈ n, r.length ≤ 3 ∧ ∀ p ∈ r, smP p) → (shN f n).length ≤ 3655 * n.length
  | [], _, _ => by simp [shN]
  | r :: t, f, h => by
    have h1 := shN_len t false (fun q hq => h q (by simp [hq]))
    have h2 := shR_len r true (h r (by simp)).2
    have h3 := (h r (by simp)).1
    rw [shN, List.length_append, List.length_append, List.length_cons]
    cases f <;> simp <;> omega
/-- A step through a value. -/
theorem shV_step (l : List Int) (k : Nat) (h : k < l.length) : shV (decide (k = 0)) (l.drop k) = escB (decide (k = 0)) (decide (k + 1 = l.length)) (l.getD k 0) ++ shV (decide (k + 1 = 0)) (l.drop (k + 1)) := by
  rw [drop_consI l k h, shV]
  congr 2
  rw [Bool.eq_iff_iff]
  simp
  omega
theorem okN_sm {n : List (List Pr)} (h : okN n = true) : n.length ≤ 6 ∧ ∀ r ∈ n, r.length ≤ 3 ∧ ∀ p ∈ r, smP p := by
  obtain ⟨h1, h2⟩ := okN_parts h
  refine ⟨h1, fun r hr => ?_⟩
  obtain ⟨h3, h4⟩ := okR_parts (h2 r hr)
  exact ⟨h3.2, fun p hp => okP_sm (h4 p hp)⟩
end Go.Proofs.YtnhojjheoafhaaaDoor
