/- The decimal digits of a number, plainly. -/
import Derived.WalkKit
import Derived.Test.YtjjildpdelkejaaM06
namespace Go.Proofs.Ytjjildpdelkejaa.S17
/-- A number's decimal digits. -/
def digN (n : Nat) : List Int := if _h : n < 10 then [48 + (n : Int)] else digN (n / 10) ++ [48 + ((n % 10 : Nat) : Int)]
theorem digN_small {n : Nat} (h : n < 10) : digN n = [48 + (n : Int)] := by rw [digN, dif_pos h]
theorem digN_big {n : Nat} (h : ¬ n < 10) : digN n = digN (n / 10) ++ [48 + ((n % 10 : Nat) : Int)] := by rw [digN, dif_neg h]
theorem digN_bound (n : Nat) : ∀ x ∈ digN n, 48 ≤ x ∧ x ≤ 57 := by
  induction n using Nat.strongRecOn with
  | _ n ih =>
    intro x hx
    by_cases h : n < 10
    · rw [digN_small h] at hx; simp at hx; omega
    · rw [digN_big h] at hx
      rcases List.mem_append.1 hx with h1 | h1
      · exact ih (n / 10) (by omega) x h1
      · simp at h1; omega
theorem digN_len (k : Nat) : ∀ n, n < 10 ^ (k + 1) → (digN n).length ≤ k + 1 := by
  induction k with
  | zero => intro n h; rw [digN_small (by simpa using h)]; simp
  | succ k ih =>
    intro n h
    by_cases h1 : n < 10
    · rw [digN_small h1]; simp
    · rw [digN_big h1]
      have := ih (n / 10) (by rw [Nat.pow_succ] at h; omega)
      simp; omega
end Go.Proofs.Ytjjildpdelkejaa.S17
/- Object identifiers, plainly: which lists are some, their order, their texts. -/
namespace Go.Proofs.Ytjjildpdelkejaa.S17
/-- The greatest number at a place. -/
def mostO (l : List Int) (i : Nat) : Int := if i = 0 then 2 else if i = 1 ∧ l.getD 0 0 ≠ 2 then 39 else 99999
def okAt (l : List Int) (i : Nat) : Bool := decide (0 ≤ l.getD i 0 ∧ l.getD i 0 ≤ mostO l i)
def okTo (l : List Int) : Nat → Bool
  | 0 => true
  | k + 1 => okTo l k && okAt l k
def okO (l : List Int) : Bool := decide (2 ≤ l.length ∧ l.length ≤ 12) && okTo l l.length
def chkO (l : List Int) : Int := if okO l then 0 else 170
theorem okTo_le (l : List Int) (n k : Nat) (h : okTo l n = true) (hk : k ≤ n) : okTo l k = true := by
  induction n with
  | zero => rw [Nat.le_zero.1 hk]; rfl
  | succ n ih =>
    simp only [okTo, Bool.and_eq_true] at h
    rcases Nat.lt_or_ge n k with h1 | h1
    · have : k = n + 1 := by omega
      rw [this]; simp only [okTo, Bool.and_eq_true]; exact h
    · exact ih h.1 h1
theorem okTo_at (l : List Int) (n k : Nat) (h : okTo l n = true) (hk : k < n) : okAt l k = true := by
  have := okTo_le l n (k + 1) h hk
  simp only [okTo, Bool.and_eq_true] at this
  exact this.2
theorem okTo_bad (l : List Int) (n k : Nat) (hk : k < n) (h : okAt l k = false) : okTo l n = false := by
  cases h2 : okTo l n
  · rfl
  · rw [okTo_at l n k h2 hk] at h; cases h
theorem okO_len {l : List Int} (h : okO l = true) : 2 ≤ l.length ∧ l.length ≤ 12 := by
  unfold okO at h
  simp only [Bool.and_eq_true, decide_eq_true_eq] at h
  exact h.1
theorem okO_at {l : List Int} (h : okO l = true) (k : Nat) (hk : k < l.length) : 0 ≤ l.getD k 0 ∧ l.getD k 0 ≤ 99999 := by
  have h1 : okTo l l.length = true := by unfold okO at h; simp only [Bool.and_eq_true] at h; exact h.2
  have h2 := okTo_at l _ k h1 hk
  unfold okAt mostO at h2
  simp only [decide_eq_true_eq] at h2
  refine ⟨h2.1, ?_⟩
  have h3 := h2.2
  split at h3
  · omega
  · split at h3 <;> omega
theorem okO_mem {l : List Int} (h : okO l = true) : ∀ x, x ∈ l → 0 ≤ x ∧ x ≤ 99999 := fun x hx => by
  obtain ⟨k, hk, rfl⟩ := List.mem_iff_getElem.1 hx
  have := okO_at h k hk
  simpa [List.getD, hk] using this

/-- The order of lists. -/
def cmpL : List Int → List Int → Int
  | [], [] => 0
  | [], _ :: _ => -1
  | _ :: _, [] => 1
  | x :: a, y :: b => if x < y then -1 else if y < x then 1 else cmpL a b
theorem cmp_vals : ∀ a b, cmpL a b = -1 ∨ cmpL a b = 0 ∨ cmpL a b = 1
  | [], [] => .inr (.inl rfl)
  | [], _ :: _ => .inl rfl
  | _ :: _, [] => .inr (.inr rfl)
  | x :: a, y :: b => by
    simp only [cmpL]
    split
    · exact .inl rfl
    · split
      · exact .inr (.inr rfl)
      · exact cmp_vals a b
theorem cmp_self : ∀ a, cmpL a a = 0
  | [] => rfl
  | x :: a => by simp only [cmpL]; rw [if_neg (by omega), if_neg (by omega)]; exact cmp_self a
theorem cmp_zero : ∀ a b, cmpL a b = 0 → a = b
  | [], [], _ => rfl
  | [], _ :: _, h => by simp [cmpL] at h
  | _ :: _, [], h => by simp [cmpL] at h
  | x :: a, y :: b, h => by
    simp only [cmpL] at h
    split at h
    · omega
    · split at h
      · omega
      · have := cmp_zero a b h
        have : x = y := by omega
        simp [*]
theorem cmp_neg : ∀ a b, cmpL b a = - cmpL a b
  | [], [] => rfl
  | [], _ :: _ => rfl
  | _ :: _, [] => rfl
  | x :: a, y :: b => by
    simp only [cmpL]
    have := cmp_neg a b
    split
    · rw [if_neg (by omega)]
    · split
      · rfl
      · exact this
theorem cmp_trans : ∀ a b c, cmpL a b ≤ 0 → cmpL b c ≤ 0 → cmpL a c ≤ 0
  | [], _, [], _, _ => by simp [cmpL]
  | [], _, _ :: _, _, _ => by simp [cmpL]
  | _ :: _, [], _, h, _ => by simp [cmpL] at h
  | _ :: _, _ :: _, [], _, h => by simp [cmpL] at h
  | x :: a, y :: b, z :: c, h1, h2 => by
    simp only [cmpL] at h1 h2 ⊢
    have := cmp_trans a b c
    split at h1 <;> split at h2 <;> (try split at h1) <;> (try split at h2) <;> (try omega) <;> split <;> (try split) <;> omega
theorem cmp_front : ∀ (t u : List Int), cmpL t (t ++ u) ≤ 0
  | [], [] => by simp [cmpL]
  | [], _ :: _ => by simp [cmpL]
  | x :: t, u => by
    simp only [List.cons_append, cmpL]
    rw [if_neg (by omega), if_neg (by omega)]
    exact cmp_front t u
theorem cmp_between : ∀ (t u b : List Int), cmpL t b ≤ 0 → cmpL b (t ++ u) ≤ 0 → ∃ v, b = t ++ v
  | [], _, b, _, _ => ⟨b, rfl⟩
  | x :: t, u, [], h, _ => by simp [cmpL] at h
  | x :: t, u, y :: b, h1, h2 => by
    simp only [List.cons_append, cmpL] at h1 h2
    have hxy : x = y := by
      split at h1
      · split at h2
        · omega
        · omega
      · split at h1
        · omega
        · omega
    subst hxy
    rw [if_neg (by omega), if_neg (by omega)] at h1 h2
    obtain ⟨v, hv⟩ := cmp_between t u b h1 h2
    exact ⟨v, by rw [hv]; rfl⟩
theorem cmp_step (a b : List Int) (k : Nat) (ha : k < a.length) (hb : k < b.length) : cmpL (a.drop k) (b.drop k) = if a.getD k 0 < b.getD k 0 then -1 else if b.getD k 0 < a.getD k 0 then 1 else cmpL (a.drop (k + 1)) (b.drop (k + 1)) := by
  rw [List.drop_eq_getElem_cons ha, List.drop_eq_getElem_cons hb]
  simp [cmpL, List.getD, ha, hb]
theorem cmp_end (a b : List Int) (k : Nat) (ha : k ≤ a.length) (hb : k ≤ b.length) (h : ¬ (k < a.length ∧ k < b.length)) : cmpL (a.drop k) (b.drop k) = if a.length < b.length then -1 else if b.length < a.length then 1 else 0 := by
  rcases Nat.lt_or_ge k a.length with h1 | h1
  · have h2 : b.drop k = [] := List.drop_eq_nil_of_le (by omega)
    rw [h2, List.drop_eq_getElem_cons h1]
    simp only [cmpL]
    rw [if_neg (by omega), if_pos (by omega)]
  · have h2 : a.drop k = [] := List.drop_eq_nil_of_le h1
    rw [h2]
    rcases Nat.lt_or_ge k b.length with h3 | h3
    · rw [List.drop_eq_getElem_cons h3]
      simp only [cmpL]
      rw [if_pos (by omega)]
    · rw [List.drop_eq_nil_of_le h3]
      simp only [cmpL]
      rw [if_neg (by omega), if_neg (by omega)]

/-- Under, and above. -/
def underO (a b : List Int) : Bool := okO a && okO b && decide (b.length ≤ a.length) && decide (cmpL (a.take b.length) b = 0)
theorem under_iff (a b : List Int) : underO a b = true ↔ okO a = true ∧ okO b = true ∧ ∃ u, a = b ++ u := by
  unfold underO
  simp only [Bool.and_eq_true, decide_eq_true_eq]
  constructor
  · rintro ⟨⟨⟨h1, h2⟩, h3⟩, h4⟩
    refine ⟨h1, h2, a.drop b.length, ?_⟩
    have := cmp_zero _ _ h4
    conv => lhs; rw [← List.take_append_drop b.length a, this]
  · rintro ⟨h1, h2, u, rfl⟩
    refine ⟨⟨⟨h1, h2⟩, by simp⟩, ?_⟩
    rw [List.take_left]
    exact cmp_self b
def aboveO (l : List Int) : List Int := if okO l = true ∧ l.length ≠ 2 then l.take (l.length - 1) else []
theorem okTo_take (l : List Int) (m : Nat) (hm : 1 ≤ m) : ∀ k, k ≤ m → m ≤ l.length → okTo (l.take m) k = okTo l k
  | 0, _, _ => rfl
  | k + 1, hk, hl => by
    have h1 : ∀ j, j < m → (l.take m).getD j 0 = l.getD j 0 := fun j hj => by simp [List.getD, hj]
    simp only [okTo]
    rw [okTo_take l m hm k (by omega) hl]
    unfold okAt mostO
    rw [h1 k (by omega), h1 0 (by omega)]
theorem above_ok (l : List Int) (h : okO l = true) (h2 : l.length ≠ 2) : okO (l.take (l.length - 1)) = true := by
  have hl := okO_len h
  have h3 : okTo l l.length = true := by unfold okO at h; simp only [Bool.and_eq_true] at h; exact h.2
  have e : (l.take (l.length - 1)).length = l.length - 1 := by simp
  unfold okO
  rw [e, okTo_take l (l.length - 1) (by omega) _ (Nat.le_refl _) (by omega), okTo_le l _ _ h3 (by omega)]
  simp
  omega
theorem above_len (l : List Int) (h : okO l = true) (h2 : l.length ≠ 2) : (aboveO l).length = l.length - 1 := by unfold aboveO; rw [if_pos ⟨h, h2⟩]; simp
theorem above_under (l : List Int) (h : okO l = true) (h2 : l.length ≠ 2) : underO l (aboveO l) = true := by
  rw [under_iff]
  unfold aboveO
  rw [if_pos ⟨h, h2⟩]
  exact ⟨h, above_ok l h h2, l.drop (l.length - 1), (List.take_append_drop _ _).symm⟩

/-- The text of an identifier. -/
def joinO : List Int → List Int
  | [] => []
  | x :: t => 46 :: (digN x.toNat ++ joinO t)
def showO : List Int → List Int
  | [] => []
  | x :: t => digN x.toNat ++ joinO t
theorem joinO_snoc : ∀ (l : List Int) (x : Int), joinO (l ++ [x]) = joinO l ++ 46 :: digN x.toNat
  | [], x => by simp [joinO]
  | y :: l, x => by simp [joinO, joinO_snoc l x]
theorem showO_snoc (l : List Int) (x : Int) (h : l ≠ []) : showO (l ++ [x]) = showO l ++ 46 :: digN x.toNat := by
  cases l with
  | nil => exact absurd rfl h
  | cons y l => simp [showO, joinO_snoc]
theorem joinO_bound : ∀ l, ∀ x ∈ joinO l, 0 ≤ x ∧ x < 256
  | [], x, h => by simp [joinO] at h
  | y :: l, x, h => by
    simp only [joinO, List.mem_cons, List.mem_append] at h
    rcases h with h | h | h
    · omega
    · have := digN_bound _ x h; omega
    · exact joinO_bound l x h
theorem showO_bound (l : List Int) : ∀ x ∈ showO l, 0 ≤ x ∧ x < 256 := fun x h => by
  cases l with
  | nil => simp [showO] at h
  | cons y l =>
    simp only [showO, List.mem_append] at h
    rcases h with h | h
    · have := digN_bound _ x h; omega
    · exact joinO_bound l x h
theorem joinO_len : ∀ (l : List Int), (∀ x, x ∈ l → 0 ≤ x ∧ x ≤ 99999) → (joinO l).length ≤ 6 * l.length
  | [], _ => by simp [joinO]
  | y :: l, h => by
    have h1 := joinO_len l fun x hx => h x (by simp [hx])
    have h2 := h y (by simp)
    have h3 := digN_len 4 y.toNat (by omega)
    simp only [joinO, List.length_cons, List.length_append]
    omega
theorem showO_len (l : List Int) (h : okO l = true) : (showO l).length ≤ 100 := by
  have h1 := okO_len h
  have h2 := okO_mem h
  cases l with
  | nil => simp [showO]
  | cons y l =>
    have h3 := joinO_len l fun x hx => h2 x (by simp [hx])
    have h4 := digN_len 4 y.toNat (by have := h2 y (by simp); omega)
    simp only [showO, List.length_append, List.length_cons] at h1 ⊢
    omega

/-- Reading on: the numbers so far, and the one at hand. -/
def goO : List Int → List Int → Int → Option (List Int × Int)
  | [], l, n => some (l, n)
  | c :: s, l, n => if c = 46 then goO s (l ++ [n]) 0 else if 48 ≤ c ∧ c ≤ 57 ∧ n ≤ 99999 then goO s l (10 * n + c - 48) else none
def finO (p : List Int × Int) : List Int := p.1 ++ [p.2]
/-- The identifier that a text is; none: the empty list. -/
def parO (s : List Int) : List Int :=
  if 100 < s.length then [] else match goO s [] 0 with
  | none => []
  | some p => if okO (finO p) = true ∧ showO (finO p) = s then finO p else []
def parE (s : List Int) : Int := if parO s = [] then 170 else 0
theorem goO_step (s q : List Int) (x : Int) (k : Nat) (h : k < s.length) : goO (s.drop k) q x = if s.getD k 0 = 46 then goO (s.drop (k + 1)) (q ++ [x]) 0 else if 48 ≤ s.getD k 0 ∧ s.getD k 0 ≤ 57 ∧ x ≤ 99999 then goO (s.drop (k + 1)) q (10 * x + s.getD k 0 - 48) else none := by
  rw [List.drop_eq_getElem_cons h]
  simp [goO, List.getD, h]
theorem parO_long {s : List Int} (h : 100 < s.length) : parO s = [] := by unfold parO; rw [if_pos h]
theorem parO_none {s : List Int} (h : goO s [] 0 = none) : parO s = [] := by unfold parO; rw [h]; simp
theorem parO_some {s q : List Int} {x : Int} (hl : ¬ 100 < s.length) (h : goO s [] 0 = some (q, x)) : parO s = if okO (q ++ [x]) = true ∧ showO (q ++ [x]) = s then q ++ [x] else [] := by unfold parO; rw [if_neg hl, h]; rfl
theorem parE_none {s : List Int} (h : parO s = []) : parE s = 170 := by unfold parE; rw [if_pos h]
theorem parE_some {s : List Int} (h : parO s ≠ []) : parE s = 0 := by unfold parE; rw [if_neg h]
theorem goO_dig (n : Nat) : ∀ (r l : List Int), n ≤ 99999 → goO (digN n ++ r) l 0 = goO r l n := by
  induction n using Nat.strongRecOn with
  | _ n ih =>
    intro r l h
    by_cases h1 : n < 10
    · rw [digN_small h1]
      simp only [List.singleton_append, goO]
      rw [if_neg (by omega), if_pos (by omega)]
      congr 1; omega
    · rw [digN_big h1, List.append_assoc, ih (n / 10) (by omega) _ _ (by omega)]
      simp only [List.singleton_append, goO]
      rw [if_neg (by omega), if_pos (by omega)]
      congr 1; omega
theorem goO_join : ∀ (t l : List Int) (n : Int), (∀ x, x ∈ t → 0 ≤ x ∧ x ≤ 99999) → (goO (joinO t) l n).map finO = some (l ++ n :: t)
  | [], l, n, _ => by simp [joinO, goO, finO]
  | x :: t, l, n, h => by
    simp only [joinO, goO, if_true]
    have hx := h x (by simp)
    rw [goO_dig x.toNat _ _ (by omega), goO_join t _ _ fun y hy => h y (by simp [hy])]
    have : ((x.toNat : Nat) : Int) = x := by omega
    simp [this]
theorem par_show (l : List Int) (h : okO l = true) : parO (showO l) = l := by
  unfold parO
  rw [if_neg (by have := showO_len l h; omega)]
  have hm := okO_mem h
  have hl := okO_len h
  cases l with
  | nil => simp at hl
  | cons y t =>
    have hy := hm y (by simp)
    have e : (goO (showO (y :: t)) [] 0).map finO = some (y :: t) := by
      simp only [showO]
      rw [goO_dig y.toNat _ _ (by omega), goO_join t _ _ fun x hx => hm x (by simp [hx])]
      have : ((y.toNat : Nat) : Int) = y := by omega
      simp [this]
    cases hg : goO (showO (y :: t)) [] 0 with
    | none => rw [hg] at e; simp at e
    | some p =>
      rw [hg] at e
      simp only [Option.map_some, Option.some.injEq] at e
      simp only [e, h, if_true, and_self]
theorem par_ok (s : List Int) (h : parO s ≠ []) : okO (parO s) = true ∧ showO (parO s) = s := by
  revert h
  unfold parO
  split
  · intro h; exact absurd rfl h
  · split
    · intro h; exact absurd rfl h
    · split
      · rename_i h; intro _; exact h
      · intro h; exact absurd rfl h
end Go.Proofs.Ytjjildpdelkejaa.S17
/- The document's Check, Cmp, Under and Above of layer 17, and the sameness of two lists. -/
namespace Go.Proofs.Ytjjildpdelkejaa.S17
open Go.RowKit

theorem chk_short {l : List Int} (h : l.length < 2 ∨ 12 < l.length) : chkO l = 170 := by
  unfold chkO okO
  rw [decide_eq_false (by omega)]
  rfl
end Go.Proofs.Ytjjildpdelkejaa.S17
/- The document's Cmp, Under and Above of layer 17, and the sameness of two lists. -/
namespace Go.Proofs.Ytjjildpdelkejaa.S17
open Go.RowKit

theorem cmp_nil_left (m : List Int) : cmpL [] m = if 0 < m.length then -1 else 0 := by cases m <;> simp [cmpL]
theorem cmp_nil_right (l : List Int) : cmpL l [] = if 0 < l.length then 1 else 0 := by cases l <;> simp [cmpL]
end Go.Proofs.Ytjjildpdelkejaa.S17
