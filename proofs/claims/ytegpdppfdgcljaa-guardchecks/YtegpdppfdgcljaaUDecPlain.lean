/- Plain mathematics: what bytes are read as. -/
import Derived.Test.YtegpdppfdgcljaaUGuess
import Derived.Test.YtegpdppfdgcljaaUBits
import Derived.Lib.Strings
namespace Go.Proofs.Ytegpdppfdgcljaa
open Go.RowKit

/-- A byte that is none's first. -/
def cont (b : Int) : Bool := decide (128 ≤ b ∧ b < 192)
def r2 (L : List Int) : Int := 64 * (L.getD 0 0 % 32) + L.getD 1 0 % 64
def r3 (L : List Int) : Int := 64 * (64 * (L.getD 0 0 % 16) + L.getD 1 0 % 64) + L.getD 2 0 % 64
def r4 (L : List Int) : Int := 64 * (64 * (64 * (L.getD 0 0 % 8) + L.getD 1 0 % 64) + L.getD 2 0 % 64) + L.getD 3 0 % 64

def is1 (L : List Int) : Bool := decide (1 ≤ L.length ∧ L.getD 0 0 < 128)
def is2 (L : List Int) : Bool := decide (2 ≤ L.length ∧ 192 ≤ L.getD 0 0 ∧ L.getD 0 0 < 224 ∧ cont (L.getD 1 0) = true ∧ 128 ≤ r2 L)
def is3 (L : List Int) : Bool := decide (3 ≤ L.length ∧ 224 ≤ L.getD 0 0 ∧ L.getD 0 0 < 240 ∧ cont (L.getD 1 0) = true ∧ cont (L.getD 2 0) = true ∧ 2048 ≤ r3 L ∧ isPt (r3 L) = true)
def is4 (L : List Int) : Bool := decide (4 ≤ L.length ∧ 240 ≤ L.getD 0 0 ∧ L.getD 0 0 < 248 ∧ cont (L.getD 1 0) = true ∧ cont (L.getD 2 0) = true ∧ cont (L.getD 3 0) = true ∧ 65536 ≤ r4 L ∧ isPt (r4 L) = true)

/-- The code point at the head of bytes, and how many bytes it has; 0 of them: none. -/
def decR (L : List Int) : Int := if is1 L then L.getD 0 0 else if is2 L then r2 L else if is3 L then r3 L else if is4 L then r4 L else 0
def decN (L : List Int) : Int := if is1 L then 1 else if is2 L then 2 else if is3 L then 3 else if is4 L then 4 else 0

/-- Are the first n bytes those of the number that they would be? -/
def tryN (L : List Int) (n : Nat) : Bool := decide (n ≤ L.length) && (isPt (guessOf (L.take n)) && decide (enc1 (guessOf (L.take n)) = L.take n))

theorem try1 (L : List Int) (hb : ∀ x ∈ L, 0 ≤ x ∧ x < 256) : tryN L 1 = is1 L := by
  match L, hb with
  | [], _ => simp [tryN, is1]
  | a :: t, hb =>
    have ha := hb a (by simp)
    have e : guessOf ((a :: t).take 1) = a := by simp [guessOf, gF, gBase]
    have p : isPt a = true := by rw [isPt_iff]; omega
    rw [Bool.eq_iff_iff]
    unfold tryN is1
    rw [e]
    simp [p]
    constructor
    · intro h
      by_cases h' : a < 128
      · exact h'
      · unfold enc1 at h
        rw [if_neg h', if_pos (by omega)] at h
        simp at h
    · intro h
      unfold enc1
      rw [if_pos h]
      simp

theorem try2 (L : List Int) (hb : ∀ x ∈ L, 0 ≤ x ∧ x < 256) : tryN L 2 = is2 L := by
  match L, hb with
  | [], _ => simp [tryN, is2]
  | [a], _ => simp [tryN, is2]
  | a :: b :: t, hb =>
    have ha := hb a (by simp)
    have hb' := hb b (by simp)
    have e : guessOf ((a :: b :: t).take 2) = r2 (a :: b :: t) := by simp [guessOf, gF, gBase, r2]
    have hr : r2 (a :: b :: t) = 64 * (a % 32) + b % 64 := by simp [r2]
    have p : isPt (r2 (a :: b :: t)) = true := by rw [isPt_iff]; omega
    rw [Bool.eq_iff_iff]
    unfold tryN is2
    rw [e]
    generalize r2 (a :: b :: t) = r at *
    simp [p, cont]
    constructor
    · intro h
      unfold enc1 at h
      split at h
      · simp at h
      · split at h
        · simp at h; omega
        · split at h <;> simp at h
    · intro h
      unfold enc1
      rw [if_neg (by omega), if_pos (by omega)]
      simp; omega

theorem try3 (L : List Int) (hb : ∀ x ∈ L, 0 ≤ x ∧ x < 256) : tryN L 3 = is3 L := by
  match L, hb with
  | [], _ => simp [tryN, is3]
  | [a], _ => simp [tryN, is3]
  | [a, b], _ => simp [tryN, is3]
  | a :: b :: c :: t, hb =>
    have ha := hb a (by simp)
    have hb' := hb b (by simp)
    have hc := hb c (by simp)
    have e : guessOf ((a :: b :: c :: t).take 3) = r3 (a :: b :: c :: t) := by simp [guessOf, gF, gBase, r3]
    have hr : r3 (a :: b :: c :: t) = 64 * (64 * (a % 16) + b % 64) + c % 64 := by simp [r3]
    rw [Bool.eq_iff_iff]
    unfold tryN is3
    rw [e]
    generalize r3 (a :: b :: c :: t) = r at *
    simp [cont]
    constructor
    · rintro ⟨p, h⟩
      unfold enc1 at h
      split at h
      · simp at h
      · split at h
        · simp at h
        · split at h
          · simp at h; simp [p]; omega
          · simp at h
    · intro h
      refine ⟨by simp [h], ?_⟩
      have h' := h.2.2.2.2.1
      unfold enc1
      rw [if_neg (by omega), if_neg (by omega), if_pos (by omega)]
      simp; omega

theorem try4 (L : List Int) (hb : ∀ x ∈ L, 0 ≤ x ∧ x < 256) : tryN L 4 = is4 L := by
  match L, hb with
  | [], _ => simp [tryN, is4]
  | [a], _ => simp [tryN, is4]
  | [a, b], _ => simp [tryN, is4]
  | [a, b, c], _ => simp [tryN, is4]
  | a :: b :: c :: d :: t, hb =>
    have ha := hb a (by simp)
    have hb' := hb b (by simp)
    have hc := hb c (by simp)
    have hd := hb d (by simp)
    have e : guessOf ((a :: b :: c :: d :: t).take 4) = r4 (a :: b :: c :: d :: t) := by simp [guessOf, gF, gBase, r4]
    have hr : r4 (a :: b :: c :: d :: t) = 64 * (64 * (64 * (a % 8) + b % 64) + c % 64) + d % 64 := by simp [r4]
    rw [Bool.eq_iff_iff]
    unfold tryN is4
    rw [e]
    generalize r4 (a :: b :: c :: d :: t) = r at *
    simp [cont]
    constructor
    · rintro ⟨p, h⟩
      unfold enc1 at h
      split at h
      · simp at h
      · split at h
        · simp at h
        · split at h
          · simp at h
          · simp at h; simp [p]; omega
    · intro h
      refine ⟨by simp [h], ?_⟩
      unfold enc1
      rw [if_neg (by omega), if_neg (by omega), if_neg (by omega)]
      simp; omega

theorem decN_0 (L : List Int) (hb : ∀ x ∈ L, 0 ≤ x ∧ x < 256) (h : ∀ m, 1 ≤ m → m ≤ 4 → tryN L m = false) : decN L = 0 ∧ decR L = 0 := by
  have h1 := h 1 (by omega) (by omega)
  have h2 := h 2 (by omega) (by omega)
  have h3 := h 3 (by omega) (by omega)
  have h4 := h 4 (by omega) (by omega)
  rw [try1 L hb] at h1
  rw [try2 L hb] at h2
  rw [try3 L hb] at h3
  rw [try4 L hb] at h4
  unfold decN decR
  simp [h1, h2, h3, h4]

theorem guess_take (L : List Int) (n : Nat) (h1 : 1 ≤ n) (h4 : n ≤ 4) (hn : n ≤ L.length) : guessOf (L.take n) = (if n = 1 then L.getD 0 0 else if n = 2 then r2 L else if n = 3 then r3 L else r4 L) := by
  have hl : (L.take n).length = n := by simp; omega
  have hg : ∀ i, i < n → (L.take n).getD i 0 = L.getD i 0 := fun i hi => by simp [List.getD, hi]
  unfold guessOf
  rw [hl]
  match n, h1, h4, hg with
  | 1, _, _, hg => rw [hg 0 (by omega)]; simp [gF, gBase]
  | 2, _, _, hg => rw [hg 0 (by omega)]; simp only [gF, gBase]; rw [hg 1 (by omega)]; rfl
  | 3, _, _, hg => rw [hg 0 (by omega)]; simp only [gF, gBase]; rw [hg 1 (by omega), hg 2 (by omega)]; rfl
  | 4, _, _, hg => rw [hg 0 (by omega)]; simp only [gF, gBase]; rw [hg 1 (by omega), hg 2 (by omega), hg 3 (by omega)]; rfl

theorem decN_n (L : List Int) (hb : ∀ x ∈ L, 0 ≤ x ∧ x < 256) (n : Nat) (hn1 : 1 ≤ n) (hn4 : n ≤ 4) (h : ∀ m, 1 ≤ m → m < n → tryN L m = false) (ht : tryN L n = true) :
    decN L = n ∧ decR L = guessOf (L.take n) := by
  have hl : n ≤ L.length := by unfold tryN at ht; simp at ht; exact ht.1
  rw [guess_take L n hn1 hn4 hl]
  match n, hn1, hn4 with
  | 1, _, _ =>
    rw [try1 L hb] at ht
    unfold decN decR
    simp [ht]
  | 2, _, _ =>
    have h1 := h 1 (by omega) (by omega)
    rw [try1 L hb] at h1
    rw [try2 L hb] at ht
    unfold decN decR
    simp [ht, h1]
  | 3, _, _ =>
    have h1 := h 1 (by omega) (by omega)
    have h2 := h 2 (by omega) (by omega)
    rw [try1 L hb] at h1
    rw [try2 L hb] at h2
    rw [try3 L hb] at ht
    unfold decN decR
    simp [ht, h1, h2]
  | 4, _, _ =>
    have h1 := h 1 (by omega) (by omega)
    have h2 := h 2 (by omega) (by omega)
    have h3 := h 3 (by omega) (by omega)
    rw [try1 L hb] at h1
    rw [try2 L hb] at h2
    rw [try3 L hb] at h3
    rw [try4 L hb] at ht
    unfold decN decR
    simp [ht, h1, h2, h3]

/-- What Decode tells. -/
def from_ (s : ByteArray) (at_ : Int) : List Int := (nums s).drop at_.toNat
def within (s : ByteArray) (at_ : Int) : Bool := decide (0 ≤ at_ ∧ at_ < s.size)
def dR (s : ByteArray) (at_ : Int) : Int := if within s at_ then decR (from_ s at_) else 0
def dT (s : ByteArray) (at_ : Int) : Int := if within s at_ then (if decN (from_ s at_) = 0 then 0 else at_ + decN (from_ s at_)) else 0
def dE (s : ByteArray) (at_ : Int) : Int := if within s at_ then (if decN (from_ s at_) = 0 then 10 else 0) else 2

theorem from_bound (s : ByteArray) (at_ : Int) : ∀ x ∈ from_ s at_, 0 ≤ x ∧ x < 256 := fun x hx => nums_bound s x (List.mem_of_mem_drop hx)
theorem from_length (s : ByteArray) (k : Nat) : (from_ s (k : Int)).length = s.size - k := by simp [from_, nums_length]

theorem nums_extract (s : ByteArray) (a b : Nat) : nums (s.extract a b) = ((nums s).drop a).take (b - a) := by
  unfold nums
  rw [Lib.extract_data, List.map_take, List.map_drop]

theorem strOfNums_nums (t : ByteArray) : strOfNums (nums t) = t := by
  apply ByteArray.ext
  apply Array.toList_inj.1
  rw [strOfNums_data]
  unfold nums
  rw [List.map_map]
  conv => rhs; rw [← List.map_id t.data.toList]
  apply List.map_congr_left
  intro x _
  simp
theorem nums_strOfNums (xs : List Int) (h : ∀ x ∈ xs, 0 ≤ x ∧ x < 256) : nums (strOfNums xs) = xs := by
  unfold nums
  rw [strOfNums_data, List.map_map]
  conv => rhs; rw [← List.map_id xs]
  apply List.map_congr_left
  intro x hx
  have := h x hx
  simp
  omega
theorem enc1_byte (r : Int) (h : isPt r = true) : ∀ x ∈ enc1 r, 0 ≤ x ∧ x < 256 := by
  obtain ⟨h0, h1⟩ := isPt_lo h
  intro x hx
  unfold enc1 at hx
  split at hx
  · simp at hx; omega
  · split at hx
    · simp at hx; omega
    · split at hx
      · simp at hx; omega
      · simp at hx; omega
theorem str_eq (r : Int) (h : isPt r = true) (t : ByteArray) : ((strOfNums (enc1 r)).toList == t.toList) = decide (enc1 r = nums t) := by
  rw [Bool.eq_iff_iff]
  simp
  constructor
  · intro e
    have e' : strOfNums (enc1 r) = t := by
      apply ByteArray.ext
      apply Array.toList_inj.1
      rw [← ByteArray.toList_eq, ← ByteArray.toList_eq]
      exact e
    rw [← e', nums_strOfNums _ (enc1_byte r h)]
  · intro e
    rw [e, strOfNums_nums]
end Go.Proofs.Ytegpdppfdgcljaa
