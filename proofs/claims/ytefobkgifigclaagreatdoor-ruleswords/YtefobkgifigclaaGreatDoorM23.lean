/- Sums, differences and products of floats that are whole numbers are exact below 2 ^ 53. -/
import Derived.Test.YtefobkgifigclaaGreatDoorM21
namespace Go.Proofs.YtefobkgifigclaaGreatDoor.S14
set_option maxRecDepth 100000
open Ieee

theorem tw_inj {a b n : Nat} (h : a * tw n = b * tw n) : a = b := Nat.eq_of_mul_eq_mul_right (tw_pos n) h
theorem log_mul (m p : Nat) (hm : m ≠ 0) : (m * tw p).log2 = m.log2 + p := by
  have l1 : tw m.log2 ≤ m := Nat.log2_self_le hm
  have l2 : m < tw (m.log2 + 1) := Nat.lt_log2_self
  have hz : m * tw p ≠ 0 := by
    have := Nat.mul_pos (Nat.pos_of_ne_zero hm) (tw_pos p)
    omega
  refine (Nat.log2_eq_iff hz).2 ⟨?_, ?_⟩
  · show tw (m.log2 + p) ≤ m * tw p
    rw [← tw_add]
    exact Nat.mul_le_mul_right _ l1
  · show m * tw p < tw (m.log2 + p + 1)
    rw [show m.log2 + p + 1 = m.log2 + 1 + p by omega, ← tw_add]
    exact Nat.mul_lt_mul_of_pos_right l2 (tw_pos _)
/-- What is cut off is nothing. -/
theorem cut_exact (s : Bool) (q d : Nat) (hq : q ≠ 0) : Toward.even.cut s (q * tw d) d = q := by
  unfold Toward.cut
  have hm : min d ((q * tw d).log2 + 2) = d := by rw [log_mul q d hq]; omega
  have hg : 1 <<< d = tw d := by rw [shl, Nat.one_mul]
  simp only
  rw [hm, hg, Nat.mul_mod_left, Nat.mul_div_cancel _ (tw_pos d)]
  have hp := tw_pos d
  have h0 : decide (tw d < 2 * 0) = false := by simp
  have h1 : (tw d == 2 * 0) = false := by
    apply Bool.eq_false_iff.2
    intro h
    have := beq_iff_eq.1 h
    omega
  rw [h0, h1]
  simp
/-- The nearest word of a number that is whole is that of the whole number. -/
theorem near_same (neg : Bool) (mag M : Nat) (place : Int) (hM : M ≠ 0) (h53 : M < 9007199254740992) (h : mag * tw place.toNat = M * tw (-place).toNat) :
    double.nearest neg mag place = double.nearest neg M 0 := by
  have hmag : mag ≠ 0 := by
    intro h0
    rw [h0, Nat.zero_mul] at h
    have := Nat.mul_pos (Nat.pos_of_ne_zero hM) (tw_pos (-place).toNat)
    omega
  have hlog : (mag.log2 : Int) + place = M.log2 := by
    have e := congrArg Nat.log2 h
    rw [log_mul _ _ hmag, log_mul _ _ hM] at e
    omega
  have hL52 : M.log2 ≤ 52 := by
    rcases Nat.lt_or_ge 52 M.log2 with h5 | h5
    · have h6 : tw 53 ≤ tw M.log2 := Nat.pow_le_pow_right (by omega) h5
      have h7 : tw 53 = 9007199254740992 := by kernel_rfl
      have h8 : tw M.log2 ≤ M := Nat.log2_self_le hM
      omega
    · exact h5
  have hl : double.leastPlace = -1074 := by kernel_rfl
  have hfb : double.fractionBits = 52 := rfl
  unfold Format.nearest
  rw [if_neg hmag, if_neg hM]
  simp only
  rw [hl, hfb]
  clear hl hfb h53
  generalize hL : M.log2 = L at *
  have e1 : max (place + (mag.log2 : Int) - ((52 : Nat) : Int)) (-1074) = (L : Int) - 52 := by omega
  have e2 : max ((0 : Int) + (L : Int) - ((52 : Nat) : Int)) (-1074) = (L : Int) - 52 := by omega
  rw [e1, e2]
  have a1 : ((0 : Int) - ((L : Int) - 52)).toNat = 52 - L := by omega
  have a2 : (((L : Int) - 52) - 0).toNat = 0 := by omega
  rw [a1, a2, cut_zero, shl, shl]
  have key : Toward.even.cut neg (mag * tw (place - ((L : Int) - 52)).toNat) (((L : Int) - 52) - place).toNat = M * tw (52 - L) := by
    by_cases hp : ((L : Int) - 52) ≤ place
    · have z : (((L : Int) - 52) - place).toNat = 0 := by omega
      rw [z, cut_zero]
      refine tw_inj (n := (-place).toNat + place.toNat) ?_
      have g1 : mag * tw (place - ((L : Int) - 52)).toNat * tw ((-place).toNat + place.toNat) = mag * tw place.toNat * tw ((place - ((L : Int) - 52)).toNat + (-place).toNat) := by
        rw [Nat.mul_assoc, Nat.mul_assoc, tw_add, tw_add]
        congr 2
        omega
      have g2 : M * tw (52 - L) * tw ((-place).toNat + place.toNat) = M * tw (-place).toNat * tw (52 - L + place.toNat) := by
        rw [Nat.mul_assoc, Nat.mul_assoc, tw_add, tw_add]
        congr 2
        omega
      rw [g1, g2, h]
      congr 2
      omega
    · have z : (place - ((L : Int) - 52)).toNat = 0 := by omega
      rw [z]
      have t0 : tw 0 = 1 := rfl
      have zp : place.toNat = 0 := by omega
      rw [zp, t0, Nat.mul_one] at h
      rw [t0, Nat.mul_one, h]
      have e3 : (-place).toNat = (52 - L) + (((L : Int) - 52) - place).toNat := by omega
      rw [e3, ← tw_add, ← Nat.mul_assoc]
      refine cut_exact _ _ _ ?_
      have := Nat.mul_pos (Nat.pos_of_ne_zero hM) (tw_pos (52 - L))
      omega
  rw [key]
theorem S_zero (neg : Bool) : S (double.word neg 0) = some 0 := by
  cases neg
  · kernel_rfl
  · kernel_rfl
/-- The written word of a whole number below 2 ^ 53. -/
theorem near_val (neg : Bool) (mag : Nat) (place n : Int) (hp : -2148 ≤ place) (h : mag * tw (place + 2148).toNat = n.natAbs * tw 2148) (h53 : n.natAbs < 9007199254740992) (hn : n ≠ 0 → neg = decide (n < 0)) :
    S (double.write (.number neg mag place)) = some (n * K) := by
  show S (double.nearest neg mag place) = _
  by_cases h0 : n = 0
  · subst h0
    have hm : mag = 0 := by
      rw [Int.natAbs_zero, Nat.zero_mul] at h
      rcases Nat.mul_eq_zero.1 h with h | h
      · exact h
      · have := tw_pos (place + 2148).toNat
        omega
    subst hm
    unfold Format.nearest
    rw [if_pos rfl, Int.zero_mul]
    exact S_zero neg
  · have hM : n.natAbs ≠ 0 := by omega
    have hh : mag * tw place.toNat = n.natAbs * tw (-place).toNat := by
      refine tw_inj (n := 2148 - (-place).toNat) ?_
      rw [Nat.mul_assoc, Nat.mul_assoc, tw_add, tw_add]
      have e1 : place.toNat + (2148 - (-place).toNat) = (place + 2148).toNat := by omega
      have e2 : (-place).toNat + (2148 - (-place).toNat) = 2148 := by omega
      rw [e1, e2, h]
    rw [near_same neg mag n.natAbs place hM h53 hh, hn h0]
    exact S_ofInt n h53
theorem signed_abs (s : Bool) (m u : Nat) : (signed s m u).natAbs = m * tw u := by
  unfold signed
  rw [shl]
  cases s
  · rw [if_neg (by simp), Int.natAbs_natCast]
  · rw [if_pos rfl, Int.natAbs_neg, Int.natAbs_natCast]
theorem signed_neg {s : Bool} {m u : Nat} {a : Int} (h : signed s m u = a * K) (ha : a ≠ 0) : s = decide (a < 0) := by
  have hk := K_pos
  unfold signed at h
  rw [shl] at h
  cases s
  · simp only [Bool.false_eq_true, if_false] at h
    have : ¬ a < 0 := by
      intro hn
      have : a * K < 0 := Int.mul_neg_of_neg_of_pos hn hk
      omega
    rw [decide_eq_false this]
  · simp only [if_true] at h
    have : a < 0 := by
      rcases Int.lt_trichotomy a 0 with h1 | h1 | h1
      · exact h1
      · exact absurd h1 ha
      · have : 0 < a * K := Int.mul_pos h1 hk
        omega
    rw [decide_eq_true this]
theorem K_abs (a : Int) : (a * K).natAbs = a.natAbs * tw 1074 := by
  rw [Int.natAbs_mul]
  rfl
/-- What a float that is a whole number reads as. -/
theorem read_of {x : Nat} {a : Int} (hx : S x = some (a * K)) : ∃ s m i, double.read x = .number s m i ∧ -1074 ≤ i ∧ signed s m (i + 1074).toNat = a * K := by
  unfold S at hx
  cases h1 : double.read x with
  | infinity s => rw [h1] at hx; simp [sc] at hx
  | nan s f => rw [h1] at hx; simp [sc] at hx
  | number s m i =>
    rw [h1] at hx
    simp only [sc, Option.some.injEq] at hx
    exact ⟨s, m, i, rfl, read_place h1, hx⟩
theorem mul_S {x y : Nat} {a b : Int} (hx : S x = some (a * K)) (hy : S y = some (b * K)) (h53 : (a * b).natAbs < 9007199254740992) : ∃ r, double.mul x y = some r ∧ S r = some (a * b * K) := by
  obtain ⟨s, m, i, r1, p1, v1⟩ := read_of hx
  obtain ⟨t, n, j, r2, p2, v2⟩ := read_of hy
  refine ⟨double.write (.number (s ^^ t) (m * n) (i + j)), by unfold Format.mul; rw [r1, r2]; rfl, ?_⟩
  refine near_val _ _ _ _ (by omega) ?_ h53 ?_
  · have e1 := congrArg Int.natAbs v1
    have e2 := congrArg Int.natAbs v2
    rw [signed_abs, K_abs] at e1 e2
    have e3 : (i + j + 2148).toNat = (i + 1074).toNat + (j + 1074).toNat := by omega
    have e4 : tw 2148 = tw 1074 * tw 1074 := by rw [tw_add]
    rw [e3, ← tw_add, e4, Int.natAbs_mul]
    rw [Nat.mul_mul_mul_comm, e1, e2, Nat.mul_mul_mul_comm]
  · intro h0
    have ha : a ≠ 0 := by rintro rfl; simp at h0
    have hb : b ≠ 0 := by rintro rfl; simp at h0
    rw [signed_neg v1 ha, signed_neg v2 hb]
    by_cases l1 : a < 0 <;> by_cases l2 : b < 0
    · have : ¬ a * b < 0 := by have := Int.mul_pos_of_neg_of_neg l1 l2; omega
      rw [decide_eq_true l1, decide_eq_true l2, decide_eq_false this]; rfl
    · have : a * b < 0 := Int.mul_neg_of_neg_of_pos l1 (by omega)
      rw [decide_eq_true l1, decide_eq_false l2, decide_eq_true this]; rfl
    · have : a * b < 0 := Int.mul_neg_of_pos_of_neg (by omega) l2
      rw [decide_eq_false l1, decide_eq_true l2, decide_eq_true this]; rfl
    · have : ¬ a * b < 0 := by have := Int.mul_pos (a := a) (b := b) (by omega) (by omega); omega
      rw [decide_eq_false l1, decide_eq_false l2, decide_eq_false this]; rfl
theorem sum_S (s t : Bool) (m n : Nat) (i j a b : Int) (p1 : -1074 ≤ i) (p2 : -1074 ≤ j) (v1 : signed s m (i + 1074).toNat = a * K) (v2 : signed t n (j + 1074).toNat = b * K) (h53 : (a + b).natAbs < 9007199254740992) :
    ∃ d, Datum.sum (.number s m i) (.number t n j) = some d ∧ S (double.write d) = some ((a + b) * K) := by
  refine ⟨_, rfl, ?_⟩
  have k1 : (i + 1074).toNat = (i - min i j).toNat + (min i j + 1074).toNat := by omega
  have k2 : (j + 1074).toNat = (j - min i j).toNat + (min i j + 1074).toNat := by omega
  rw [k1, signed_add] at v1
  rw [k2, signed_add] at v2
  have hb : -1074 ≤ min i j := by omega
  generalize min i j = q at *
  generalize signed s m (i - q).toNat = X at *
  generalize signed t n (j - q).toNat = Y at *
  have v : (X + Y) * ((tw (q + 1074).toNat : Nat) : Int) = (a + b) * K := by rw [Int.add_mul, Int.add_mul, v1, v2]
  refine near_val _ _ _ _ (by omega) ?_ h53 ?_
  · have e := congrArg Int.natAbs v
    rw [Int.natAbs_mul, K_abs, Int.natAbs_natCast] at e
    have e3 : (q + 2148).toNat = (q + 1074).toNat + 1074 := by omega
    have e4 : tw 2148 = tw 1074 * tw 1074 := by rw [tw_add]
    rw [e3, ← tw_add, e4, ← Nat.mul_assoc, e, Nat.mul_assoc]
  · intro h0
    have hk := K_pos
    have ht : (0 : Int) < ((tw (q + 1074).toNat : Nat) : Int) := Int.natCast_pos.2 (tw_pos _)
    generalize ((tw (q + 1074).toNat : Nat) : Int) = T at *
    have hz : X + Y ≠ 0 := by
      intro h
      rw [h, Int.zero_mul] at v
      rcases Int.mul_eq_zero.1 v.symm with h | h
      · exact h0 h
      · omega
    rw [if_neg hz]
    by_cases hn : a + b < 0
    · have l : (a + b) * K < 0 := Int.mul_neg_of_neg_of_pos hn hk
      have : X + Y < 0 := by
        rcases Int.lt_trichotomy (X + Y) 0 with h | h | h
        · exact h
        · exact absurd h hz
        · have := Int.mul_pos h ht
          omega
      rw [decide_eq_true hn, decide_eq_true this]
    · have l : 0 < (a + b) * K := Int.mul_pos (by omega) hk
      have : ¬ X + Y < 0 := by
        intro h
        have := Int.mul_neg_of_neg_of_pos h ht
        omega
      rw [decide_eq_false hn, decide_eq_false this]
theorem add_S {x y : Nat} {a b : Int} (hx : S x = some (a * K)) (hy : S y = some (b * K)) (h53 : (a + b).natAbs < 9007199254740992) : ∃ r, double.add x y = some r ∧ S r = some ((a + b) * K) := by
  obtain ⟨s, m, i, r1, p1, v1⟩ := read_of hx
  obtain ⟨t, n, j, r2, p2, v2⟩ := read_of hy
  obtain ⟨d, hd, hs⟩ := sum_S s t m n i j a b p1 p2 v1 v2 h53
  exact ⟨double.write d, by unfold Format.add; rw [r1, r2, hd]; rfl, hs⟩
theorem signed_not (s : Bool) (m u : Nat) : signed (!s) m u = -signed s m u := by
  unfold signed
  cases s <;> simp
theorem sub_S {x y : Nat} {a b : Int} (hx : S x = some (a * K)) (hy : S y = some (b * K)) (h53 : (a - b).natAbs < 9007199254740992) : ∃ r, double.sub x y = some r ∧ S r = some ((a - b) * K) := by
  obtain ⟨s, m, i, r1, p1, v1⟩ := read_of hx
  obtain ⟨t, n, j, r2, p2, v2⟩ := read_of hy
  have v3 : signed (!t) n (j + 1074).toNat = -b * K := by rw [signed_not, v2, Int.neg_mul]
  obtain ⟨d, hd, hs⟩ := sum_S s (!t) m n i j a (-b) p1 p2 v1 v3 (by rw [← Int.sub_eq_add_neg]; exact h53)
  rw [← Int.sub_eq_add_neg] at hs
  exact ⟨double.write d, by unfold Format.sub; rw [r1, r2]; show (Datum.sum (.number s m i) (.number (!t) n j)).map _ = _; rw [hd]; rfl, hs⟩
/-- A product of two numbers of two parts is exact. -/
theorem cmul_S {x y u v : Nat} {a b c d : Int} (hx : S x = some (a * K)) (hy : S y = some (b * K)) (hu : S u = some (c * K)) (hv : S v = some (d * K))
    (h1 : (a * c).natAbs < 4503599627370496) (h2 : (b * d).natAbs < 4503599627370496) (h3 : (a * d).natAbs < 4503599627370496) (h4 : (b * c).natAbs < 4503599627370496) :
    ∃ re im, cMulBits x y u v = some (re, im) ∧ S re = some ((a * c - b * d) * K) ∧ S im = some ((a * d + b * c) * K) := by
  obtain ⟨r1, e1, s1⟩ := mul_S hx hu (by omega)
  obtain ⟨r2, e2, s2⟩ := mul_S hy hv (by omega)
  obtain ⟨r3, e3, s3⟩ := sub_S s1 s2 (by omega)
  obtain ⟨r4, e4, s4⟩ := mul_S hx hv (by omega)
  obtain ⟨r5, e5, s5⟩ := mul_S hy hu (by omega)
  obtain ⟨r6, e6, s6⟩ := add_S s4 s5 (by omega)
  refine ⟨r3, r6, ?_, s3, s6⟩
  have f1 : floatBits .mul .f64 x u = some r1 := e1
  have f2 : floatBits .mul .f64 y v = some r2 := e2
  have f3 : floatBits .sub .f64 r1 r2 = some r3 := e3
  have f4 : floatBits .mul .f64 x v = some r4 := e4
  have f5 : floatBits .mul .f64 y u = some r5 := e5
  have f6 : floatBits .add .f64 r4 r5 = some r6 := e6
  unfold cMulBits
  rw [f1, Option.bind_some, f2, Option.bind_some, f3, Option.bind_some, f4, Option.bind_some, f5, Option.bind_some, f6]
  rfl
theorem S_nought : S 0 = some (0 * K) := by rw [Int.zero_mul]; exact S_zero false
theorem S_one : S 4607182418800017408 = some (1 * K) := by kernel_rfl
end Go.Proofs.YtefobkgifigclaaGreatDoor.S14
