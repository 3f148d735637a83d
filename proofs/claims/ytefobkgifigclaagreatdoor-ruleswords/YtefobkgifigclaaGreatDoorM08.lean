/- Plain mathematics: what bytes are read as. -/
import Derived.Test.YtefobkgifigclaaGreatDoorM07
import Derived.Lib.Strings
namespace Go.Proofs.YtefobkgifigclaaGreatDoor
set_option maxRecDepth 100000
open Go.RowKit

/-- A byte that is none's first. -/
def cont (b : Int) : Bool := decide (128 ≤ b ∧ b < 192)
def r2 (L : List Int) : Int := 64 * (L.getD 0 0 % 32) + L.getD 1 0 % 64
def r3 (L : List Int) : Int := 64 * (64 * (L.getD 0 0 % 16) + L.getD 1 0 % 64) + L.getD 2 0 % 64
def r4 (L : List Int) : Int := 64 * (64 * (64 * (L.getD 0 0 % 8) + L.getD 1 0 % 64) + L.getD 2 0 % 64) + L.getD 3 0 % 64

def is1 (L : List Int) : Bool := decide (1 ≤ L.length ∧ L.getD 0 0 < 128)
def is2 (L : List Int) : Bool := decide (2 ≤ L.length ∧ 192 ≤ L.getD 0 0 ∧ L.getD 0 0 < 224 ∧ cont (L.getD 1 0) = true ∧ 128 ≤ r2 L)
def is3 (L : List Int) : Bool := decide (3 ≤ L.length ∧ 224 ≤ L.getD 0 0 ∧ L.getD 0 0 < 240 ∧ cont (L.getD 1 0) = true ∧ cont (L.getD 2 0) = true ∧ 2048 ≤ r3 L ∧ isPt (r3 L) = true)
def is4 (L : List Int) : Bool := decide (4 ≤ L.length ∧ 240 ≤ L.getD 0 0 ∧ L.getD 0 0 < 248 ∧ cont (L.getD 1 0) = true ∧ cont (L.getD 2 0) = true ∧ cont (L.getD 3 0) = true ∧ 65536 ≤ r4 L ∧ isPt (r4 L) = true)

/-- The code point at the head of bytes, and how many bytes it has; 0 of them: none. -/
def decR (L : List Int) : Int := if is1 L then L.getD 0 0 else if is2 L then r2 L else if is3 L then r3 L else if is4 L then r4 L else 0
def decN (L : List Int) : Int := if is1 L then 1 else if is2 L then 2 else if is3 L then 3 else if is4 L then 4 else 0

/-- Are the first n bytes those of the number that they would be? -/
def tryN (L : List Int) (n : Nat) : Bool := decide (n ≤ L.length) && (isPt (guessOf (L.take n)) && decide (enc1 (guessOf (L.take n)) = L.take n))

theorem try1 (L : List Int) (hb : ∀ x ∈ L, 0 ≤ x ∧ x < 256) : tryN L 1 = is1 L := by
  match L, hb with
  | [], _ => simp [tryN, is1]
  | a :: t, hb =>
    have ha := hb a (by simp)
    have e : guessOf ((a :: t).take 1) = a := by simp [guessOf, gF, gBase]
    have p : isPt a = true := by rw [isPt_iff]; omega
    rw [Bool.eq_iff_iff]
    unfold tryN is1
    rw [e]
    simp [p]
    constructor
    · intro h
      by_cases h' : a < 128
      · exact h'
      · unfold enc1 at h
        rw [if_neg h', if_pos (by omega)] at h
        simp at h
    · intro h
      unfold enc1
      rw [if_pos h]
      simp

theorem try2 (L : List Int) (hb : ∀ x ∈ L, 0 ≤ x ∧ x < 256) : tryN L 2 = is2 L := by
  match L, hb with
  | [], _ => simp [tryN, is2]
  | [a], _ => simp [tryN, is2]
  | a :: b :: t, hb =>
    have ha := hb a (by simp)
    have hb' := hb b (by simp)
    have e : guessOf ((a :: b :: t).take 2) = r2 (a :: b :: t) := by simp [guessOf, gF, gBase, r2]
    have hr : r2 (a :: b :: t) = 64 * (a % 32) + b % 64 := by simp [r2]
    have p : isPt (r2 (a :: b :: t)) = true := by rw [isPt_iff]; omega
    rw [Bool.eq_iff_iff]
    unfold tryN is2
    rw [e]
    generalize r2 (a :: b :: t) = r at *
    simp [p, cont]
    constructor
    · intro h
      unfold enc1 at h
      split at h
      · simp at h
      · split at h
        · simp at h; omega
        · split at h <;> simp at h
    · intro h
      unfold enc1
      rw [if_neg (by omega), if_pos (by omega)]
      simp; omega

theorem try3 (L : List Int) (hb : ∀ x ∈ L, 0 ≤ x ∧ x < 256) : tryN L 3 = is3 L := by
  match L, hb with
  | [], _ => simp [tryN, is3]
  | [a], _ => simp [tryN, is3]
  | [a, b], _ => simp [tryN, is3]
  | a :: b :: c :: t, hb =>
    have ha := hb a (by simp)
    have hb' := hb b (by simp)
    have hc := hb c (by simp)
    have e : guessOf ((a :: b :: c :: t).take 3) = r3 (a :: b :: c :: t) := by simp [guessOf, gF, gBase, r3]
    have hr : r3 (a :: b :: c :: t) = 64 * (64 * (a % 16) + b % 64) + c % 64 := by simp [r3]
    rw [Bool.eq_iff_iff]
    unfold tryN is3
    rw [e]
    generalize r3 (a :: b :: c :: t) = r at *
    simp [cont]
    constructor
    · rintro ⟨p, h⟩
      unfold enc1 at h
      split at h
      · simp at h
      · split at h
        · simp at h
        · split at h
          · simp at h; simp [p]; omega
          · simp at h
    · intro h
      refine ⟨by simp [h], ?_⟩
      have h' := h.2.2.2.2.1
      unfold enc1
      rw [if_neg (by omega), if_neg (by omega), if_pos (by omega)]
      simp; omega

theorem try4 (L : List Int) (hb : ∀ x ∈ L, 0 ≤ x ∧ x < 256) : tryN L 4 = is4 L := by
  match L, hb with
  | [], _ => simp [tryN, is4]
  | [a], _ => simp [tryN, is4]
  | [a, b], _ => simp [tryN, is4]
  | [a, b, c], _ => simp [tryN, is4]
  | a :: b :: c :: d :: t, hb =>
    have ha := hb a (by simp)
    have hb' := hb b (by simp)
    have hc := hb c (by simp)
    have hd := hb d (by simp)
    have e : guessOf ((a :: b :: c :: d :: t).take 4) = r4 (a :: b :: c :: d :: t) := by simp [guessOf, gF, gBase, r4]
    have hr : r4 (a :: b :: c :: d :: t) = 64 * (64 * (64 * (a % 8) + b % 64) + c % 64) + d % 64 := by simp [r4]
    rw [Bool.eq_iff_iff]
    unfold tryN is4
    rw [e]
    generalize r4 (a :: b :: c :: d :: t) = r at *
    simp [cont]
    constructor
    · rintro ⟨p, h⟩
      unfold enc1 at h
      split at h
      · simp at h
      · split at h
        · simp at h
        · split at h
          · simp at h
          · simp at h; simp [p]; omega
    · intro h
      refine ⟨by simp [h], ?_⟩
      unfold enc1
      rw [if_neg (by omega), if_neg (by omega), if_neg (by omega)]
      simp; omega

theorem decN_0 (L : List Int) (hb : ∀ x ∈ L, 0 ≤ x ∧ x < 256) (h : ∀ m, 1 ≤ m → m ≤ 4 → tryN L m = false) : decN L = 0 ∧ decR L = 0 := by
  have h1 := h 1 (by omega) (by omega)
  have h2 := h 2 (by omega) (by omega)
  have h3 := h 3 (by omega) (by omega)
  have h4 := h 4 (by omega) (by omega)
  rw [try1 L hb] at h1
  rw [try2 L hb] at h2
  rw [try3 L hb] at h3
  rw [try4 L hb] at h4
  unfold decN decR
  simp [h1, h2, h3, h4]

theorem guess_take (L : List Int) (n : Nat) (h1 : 1 ≤ n) (h4 : n ≤ 4) (hn : n ≤ L.length) : guessOf (L.take n) = (if n = 1 then L.getD 0 0 else if n = 2 then r2 L else if n = 3 then r3 L else r4 L) := by
  have hl : (L.take n).length = n := by simp; omega
  have hg : ∀ i, i < n → (L.take n).getD i 0 = L.getD i 0 := fun i hi => by simp [List.getD, hi]
  unfold guessOf
  rw [hl]
  match n, h1, h4, hg with
  | 1, _, _, hg => rw [hg 0 (by omega)]; simp [gF, gBase]
  | 2, _, _, hg => rw [hg 0 (by omega)]; simp only [gF, gBase]; rw [hg 1 (by omega)]; rfl
  | 3, _, _, hg => rw [hg 0 (by omega)]; simp only [gF, gBase]; rw [hg 1 (by omega), hg 2 (by omega)]; rfl
  | 4, _, _, hg => rw [hg 0 (by omega)]; simp only [gF, gBase]; rw [hg 1 (by omega), hg 2 (by omega), hg 3 (by omega)]; rfl

theorem decN_n (L : List Int) (hb : ∀ x ∈ L, 0 ≤ x ∧ x < 256) (n : Nat) (hn1 : 1 ≤ n) (hn4 : n ≤ 4) (h : ∀ m, 1 ≤ m → m < n → tryN L m = false) (ht : tryN L n = true) :
    decN L = n ∧ decR L = guessOf (L.take n) := by
  have hl : n ≤ L.length := by unfold tryN at ht; simp at ht; exact ht.1
  rw [guess_take L n hn1 hn4 hl]
  match n, hn1, hn4 with
  | 1, _, _ =>
    rw [try1 L hb] at ht
    unfold decN decR
    simp [ht]
  | 2, _, _ =>
    have h1 := h 1 (by omega) (by omega)
    rw [try1 L hb] at h1
    rw [try2 L hb] at ht
    unfold decN decR
    simp [ht, h1]
  | 3, _, _ =>
    have h1 := h 1 (by omega) (by omega)
    have h2 := h 2 (by omega) (by omega)
    rw [try1 L hb] at h1
    rw [try2 L hb] at h2
    rw [try3 L hb] at ht
    unfold decN decR
    simp [ht, h1, h2]
  | 4, _, _ =>
    have h1 := h 1 (by omega) (by omega)
    have h2 := h 2 (by omega) (by omega)
    have h3 := h 3 (by omega) (by omega)
    rw [try1 L hb] at h1
    rw [try2 L hb] at h2
    rw [try3 L hb] at h3
    rw [try4 L hb] at ht
    unfold decN decR
    simp [ht, h1, h2, h3]

/-- What Decode tells. -/
def from_ (s : ByteArray) (at_ : Int) : List Int := (nums s).drop at_.toNat
def within (s : ByteArray) (at_ : Int) : Bool := decide (0 ≤ at_ ∧ at_ < s.size)
def dR (s : ByteArray) (at_ : Int) : Int := if within s at_ then decR (from_ s at_) else 0
def dT (s : ByteArray) (at_ : Int) : Int := if within s at_ then (if decN (from_ s at_) = 0 then 0 else at_ + decN (from_ s at_)) else 0
def dE (s : ByteArray) (at_ : Int) : Int := if within s at_ then (if decN (from_ s at_) = 0 then 10 else 0) else 2

theorem from_bound (s : ByteArray) (at_ : Int) : ∀ x ∈ from_ s at_, 0 ≤ x ∧ x < 256 := fun x hx => nums_bound s x (List.mem_of_mem_drop hx)
theorem from_length (s : ByteArray) (k : Nat) : (from_ s (k : Int)).length = s.size - k := by simp [from_, nums_length]

theorem nums_extract (s : ByteArray) (a b : Nat) : nums (s.extract a b) = ((nums s).drop a).take (b - a) := by
  unfold nums
  rw [Lib.extract_data, List.map_take, List.map_drop]

theorem strOfNums_nums (t : ByteArray) : strOfNums (nums t) = t := by
  apply ByteArray.ext
  apply Array.toList_inj.1
  rw [strOfNums_data]
  unfold nums
  rw [List.map_map]
  conv => rhs; rw [← List.map_id t.data.toList]
  apply List.map_congr_left
  intro x _
  simp
theorem nums_strOfNums (xs : List Int) (h : ∀ x ∈ xs, 0 ≤ x ∧ x < 256) : nums (strOfNums xs) = xs := by
  unfold nums
  rw [strOfNums_data, List.map_map]
  conv => rhs; rw [← List.map_id xs]
  apply List.map_congr_left
  intro x hx
  have := h x hx
  simp
  omega
theorem enc1_byte (r : Int) (h : isPt r = true) : ∀ x ∈ enc1 r, 0 ≤ x ∧ x < 256 := by
  obtain ⟨h0, h1⟩ := isPt_lo h
  intro x hx
  unfold enc1 at hx
  split at hx
  · simp at hx; omega
  · split at hx
    · simp at hx; omega
    · split at hx
      · simp at hx; omega
      · simp at hx; omega
theorem str_eq (r : Int) (h : isPt r = true) (t : ByteArray) : ((strOfNums (enc1 r)).toList == t.toList) = decide (enc1 r = nums t) := by
  rw [Bool.eq_iff_iff]
  simp
  constructor
  · intro e
    have e' : strOfNums (enc1 r) = t := by
      apply ByteArray.ext
      apply Array.toList_inj.1
      rw [← ByteArray.toList_eq, ← ByteArray.toList_eq]
      exact e
    rw [← e', nums_strOfNums _ (enc1_byte r h)]
  · intro e
    rw [e, strOfNums_nums]
end Go.Proofs.YtefobkgifigclaaGreatDoor
/- Plain mathematics: the program's way of reading a code point. -/
namespace Go.Proofs.YtefobkgifigclaaGreatDoor
set_option maxRecDepth 100000
open Go.RowKit

theorem headN_cases (a : Int) : (a < 128 ∧ headN a = 1 ∧ headR a = a) ∨ ((128 ≤ a ∧ (a < 192 ∨ 248 ≤ a)) ∧ headN a = 0 ∧ headR a = 0) ∨ ((192 ≤ a ∧ a < 224) ∧ headN a = 2 ∧ headR a = a % 32) ∨ ((224 ≤ a ∧ a < 240) ∧ headN a = 3 ∧ headR a = a % 16) ∨ ((240 ≤ a ∧ a < 248) ∧ headN a = 4 ∧ headR a = a % 8) := by
  unfold headN headR
  by_cases h1 : a < 128
  · simp [h1]
  by_cases h2 : a < 192 ∨ 248 ≤ a
  · rw [if_neg h1, if_pos h2, if_neg h1, if_pos h2]; simp; omega
  by_cases h3 : a < 224
  · rw [if_neg h1, if_neg h2, if_pos h3, if_neg h1, if_neg h2, if_pos h3]; simp; omega
  by_cases h4 : a < 240
  · rw [if_neg h1, if_neg h2, if_neg h3, if_pos h4, if_neg h1, if_neg h2, if_neg h3, if_pos h4]; simp; omega
  · rw [if_neg h1, if_neg h2, if_neg h3, if_neg h4, if_neg h1, if_neg h2, if_neg h3, if_neg h4]; simp; omega

theorem dec_no (L : List Int) (h1 : is1 L = false) (h2 : is2 L = false) (h3 : is3 L = false) (h4 : is4 L = false) : decN L = 0 ∧ decR L = 0 := by
  unfold decN decR
  simp [h1, h2, h3, h4]

theorem u_none (L : List Int) (h : headN (L.getD 0 0) = 0 ∨ (L.length : Int) < headN (L.getD 0 0)) (hl : 1 ≤ L.length) : decN L = 0 ∧ decR L = 0 := by
  have hc := headN_cases (L.getD 0 0)
  apply dec_no <;> (first | unfold is1 | unfold is2 | unfold is3 | unfold is4) <;> rw [decide_eq_false_iff_not] <;> omega

theorem u_cont (L : List Int) (j : Nat) (hj : 1 ≤ j) (hj' : (j : Int) < headN (L.getD 0 0)) (h : cont (L.getD j 0) = false) : decN L = 0 ∧ decR L = 0 := by
  have hc := headN_cases (L.getD 0 0)
  have hj4 : j = 1 ∨ j = 2 ∨ j = 3 := by omega
  apply dec_no
  · unfold is1; rw [decide_eq_false_iff_not]; omega
  · unfold is2; rw [decide_eq_false_iff_not]; rintro ⟨_, _, _, c1, _⟩
    rcases hj4 with rfl | rfl | rfl
    · rw [h] at c1; cases c1
    · omega
    · omega
  · unfold is3; rw [decide_eq_false_iff_not]; rintro ⟨_, _, _, c1, c2, _⟩
    rcases hj4 with rfl | rfl | rfl
    · rw [h] at c1; cases c1
    · rw [h] at c2; cases c2
    · omega
  · unfold is4; rw [decide_eq_false_iff_not]; rintro ⟨_, _, _, c1, c2, c3, _⟩
    rcases hj4 with rfl | rfl | rfl
    · rw [h] at c1; cases c1
    · rw [h] at c2; cases c2
    · rw [h] at c3; cases c3

theorem lenOf_eq (r : Int) (n : Int) (hn : 1 ≤ n) : lenOf r = n ↔ isPt r = true ∧ n = (if r < 128 then 1 else if r < 2048 then 2 else if r < 65536 then 3 else 4) := by
  unfold lenOf
  cases h : isPt r
  · simp; omega
  · simp; omega

theorem u_end (L : List Int) (hb : ∀ x ∈ L, 0 ≤ x ∧ x < 256) (m : Nat) (hm : headN (L.getD 0 0) = (m : Int) + 1) (hl : m + 1 ≤ L.length) (hc : ∀ j, 1 ≤ j → j ≤ m → cont (L.getD j 0) = true) :
    (lenOf (gF L (headR (L.getD 0 0)) m) = (m : Int) + 1 → decN L = (m : Int) + 1 ∧ decR L = gF L (headR (L.getD 0 0)) m) ∧
    (lenOf (gF L (headR (L.getD 0 0)) m) ≠ (m : Int) + 1 → decN L = 0 ∧ decR L = 0) := by
  have hh := headN_cases (L.getD 0 0)
  have b0 := getD_bound L hb 0
  have b1 := getD_bound L hb 1
  have b2 := getD_bound L hb 2
  have b3 := getD_bound L hb 3
  have hm4 : m = 0 ∨ m = 1 ∨ m = 2 ∨ m = 3 := by omega
  rcases hm4 with rfl | rfl | rfl | rfl
  · have hr : headR (L.getD 0 0) = L.getD 0 0 := by omega
    have h1 : is1 L = true := by unfold is1; rw [decide_eq_true_iff]; omega
    have hd : decN L = 1 ∧ decR L = L.getD 0 0 := by unfold decN decR; simp [h1]
    simp only [gF]
    rw [hr]
    refine ⟨fun _ => hd, fun h => absurd ?_ h⟩
    show lenOf _ = (1 : Int)
    rw [lenOf_eq _ _ (by omega), isPt_iff, if_pos (by omega)]
    exact ⟨by omega, rfl⟩
  · have hr : headR (L.getD 0 0) = L.getD 0 0 % 32 := by omega
    have e : gF L (headR (L.getD 0 0)) 1 = r2 L := by rw [hr]; rfl
    have c1 := hc 1 (by omega) (by omega)
    have hr2 : r2 L = 64 * (L.getD 0 0 % 32) + L.getD 1 0 % 64 := rfl
    have h1 : is1 L = false := by unfold is1; rw [decide_eq_false_iff_not]; omega
    have h3 : is3 L = false := by unfold is3; rw [decide_eq_false_iff_not]; omega
    have h4 : is4 L = false := by unfold is4; rw [decide_eq_false_iff_not]; omega
    rw [e]
    constructor
    · intro h
      have h' := (lenOf_eq _ _ (by omega)).1 h
      have h2 : is2 L = true := by
        unfold is2; rw [decide_eq_true_iff]
        refine ⟨by omega, by omega, by omega, c1, ?_⟩
        have := h'.2
        split at this <;> omega
      unfold decN decR; simp [h1, h2]
    · intro h
      refine dec_no L h1 ?_ h3 h4
      unfold is2; rw [decide_eq_false_iff_not]
      intro h2
      apply h
      rw [lenOf_eq _ _ (by omega), isPt_iff, if_neg (by omega), if_pos (by omega)]
      exact ⟨by omega, rfl⟩
  · have hr : headR (L.getD 0 0) = L.getD 0 0 % 16 := by omega
    have e : gF L (headR (L.getD 0 0)) 2 = r3 L := by rw [hr]; rfl
    have c1 := hc 1 (by omega) (by omega)
    have c2 := hc 2 (by omega) (by omega)
    have hr3 : r3 L = 64 * (64 * (L.getD 0 0 % 16) + L.getD 1 0 % 64) + L.getD 2 0 % 64 := rfl
    have h1 : is1 L = false := by unfold is1; rw [decide_eq_false_iff_not]; omega
    have h2 : is2 L = false := by unfold is2; rw [decide_eq_false_iff_not]; omega
    have h4 : is4 L = false := by unfold is4; rw [decide_eq_false_iff_not]; omega
    rw [e]
    constructor
    · intro h
      have h' := (lenOf_eq _ _ (by omega)).1 h
      have h3 : is3 L = true := by
        unfold is3; rw [decide_eq_true_iff]
        refine ⟨by omega, by omega, by omega, c1, c2, ?_, h'.1⟩
        have := h'.2
        split at this
        · omega
        · split at this <;> omega
      unfold decN decR; simp [h1, h2, h3]
    · intro h
      refine dec_no L h1 h2 ?_ h4
      unfold is3; rw [decide_eq_false_iff_not]
      intro h3
      apply h
      rw [lenOf_eq _ _ (by omega), if_neg (by omega), if_neg (by omega), if_pos (by omega)]
      exact ⟨h3.2.2.2.2.2.2, rfl⟩
  · have hr : headR (L.getD 0 0) = L.getD 0 0 % 8 := by omega
    have e : gF L (headR (L.getD 0 0)) 3 = r4 L := by rw [hr]; rfl
    have c1 := hc 1 (by omega) (by omega)
    have c2 := hc 2 (by omega) (by omega)
    have c3 := hc 3 (by omega) (by omega)
    have h1 : is1 L = false := by unfold is1; rw [decide_eq_false_iff_not]; omega
    have h2 : is2 L = false := by unfold is2; rw [decide_eq_false_iff_not]; omega
    have h3 : is3 L = false := by unfold is3; rw [decide_eq_false_iff_not]; omega
    rw [e]
    constructor
    · intro h
      have h' := (lenOf_eq _ _ (by omega)).1 h
      have h4 : is4 L = true := by
        unfold is4; rw [decide_eq_true_iff]
        refine ⟨by omega, by omega, by omega, c1, c2, c3, ?_, h'.1⟩
        have := h'.2
        split at this
        · omega
        · split at this
          · omega
          · split at this <;> omega
      unfold decN decR; simp [h1, h2, h3, h4]
    · intro h
      refine dec_no L h1 h2 h3 ?_
      unfold is4; rw [decide_eq_false_iff_not]
      intro h4
      apply h
      rw [lenOf_eq _ _ (by omega), if_neg (by omega), if_neg (by omega), if_neg (by omega)]
      exact ⟨h4.2.2.2.2.2.2.2, rfl⟩
end Go.Proofs.YtefobkgifigclaaGreatDoor
