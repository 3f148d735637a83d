/- Floats, as exact numbers: a finite float times 2 ^ 1074 is whole. -/
import Derived.Laws.FloatArith
import Derived.Laws.ComplexArith
import Derived.KernelRfl
namespace Go.Proofs.YtpkofpgdnbkknaaDoor
open Ieee

/-- A power of two. -/
def tw (n : Nat) : Nat := 2 ^ n
theorem tw_pos (n : Nat) : 0 < tw n := Nat.two_pow_pos n
theorem tw_add (a b : Nat) : tw a * tw b = tw (a + b) := (Nat.pow_add 2 a b).symm
theorem shl (m u : Nat) : m <<< u = m * tw u := Nat.shiftLeft_eq m u
/-- 2 ^ 1074. -/
def K : Int := ((tw 1074 : Nat) : Int)
theorem K_pos : 0 < K := Int.natCast_pos.2 (tw_pos 1074)
/-- A finite float's value, times 2 ^ 1074. -/
def sc : Datum → Option Int
  | .number s m e => some (signed s m (e + 1074).toNat)
  | _ => none
def S (x : Nat) : Option Int := sc (double.read x)
theorem sc_number (s : Bool) (m : Nat) (e : Int) : sc (.number s m e) = some (signed s m (e + 1074).toNat) := rfl
theorem signed_add (s : Bool) (m u v : Nat) : signed s m (u + v) = signed s m u * ((tw v : Nat) : Int) := by
  unfold signed
  have h : m <<< (u + v) = m <<< u * tw v := by rw [shl, shl, ← tw_add, Nat.mul_assoc]
  rw [h]
  cases s
  · simp
  · simp [Int.neg_mul]
theorem read_place {x m : Nat} {s : Bool} {e : Int} (h : double.read x = .number s m e) : -1074 ≤ e := by
  have hl : double.leastPlace = -1074 := by kernel_rfl
  unfold Format.read at h
  simp only at h
  split at h
  · cases h; omega
  · split at h
    · cases h; omega
    · split at h <;> cases h
theorem cmp_scale (a b c : Int) (hc : 0 < c) : compare (a * c) (b * c) = compare a b := by
  have h1 : a * c < b * c ↔ a < b := Int.mul_lt_mul_right hc
  have h2 : a * c = b * c ↔ a = b := Int.mul_eq_mul_right_iff (by omega)
  simp only [compare, compareOfLessAndEq, h1, h2]
theorem order_S {x y : Nat} {a b : Int} (hx : S x = some a) (hy : S y = some b) : double.order x y = some (compare a b) := by
  unfold S at hx hy
  cases h1 : double.read x with
  | infinity s => rw [h1] at hx; simp [sc] at hx
  | nan s f => rw [h1] at hx; simp [sc] at hx
  | number s m i =>
    cases h2 : double.read y with
    | infinity s => rw [h2] at hy; simp [sc] at hy
    | nan s f => rw [h2] at hy; simp [sc] at hy
    | number t n j =>
      have e1 := read_place h1
      have e2 := read_place h2
      rw [h1] at hx
      rw [h2] at hy
      simp only [sc, Option.some.injEq] at hx hy
      unfold Format.order
      rw [h1, h2]
      simp only [Datum.order]
      congr 1
      have k1 : (i + 1074).toNat = (i - min i j).toNat + (min i j + 1074).toNat := by omega
      have k2 : (j + 1074).toNat = (j - min i j).toNat + (min i j + 1074).toNat := by omega
      rw [← hx, ← hy, k1, k2, signed_add, signed_add, cmp_scale _ _ _ (Int.natCast_pos.2 (tw_pos _))]
theorem order_nan {x : Nat} {s : Bool} {f : Nat} (h : double.read x = .nan s f) : double.order x x = none := by
  unfold Format.order
  rw [h]
  rfl
theorem order_inf {x : Nat} {s : Bool} (h : double.read x = .infinity s) : double.order x x = some .eq := by
  unfold Format.order
  rw [h]
  cases s <;> rfl
theorem order_inf_num {x y : Nat} {s : Bool} {b : Int} (h : double.read x = .infinity s) (hy : S y = some b) : double.order x y = some (if s then .lt else .gt) := by
  unfold S at hy
  unfold Format.order
  rw [h]
  cases h2 : double.read y with
  | infinity s => rw [h2] at hy; simp [sc] at hy
  | nan s f => rw [h2] at hy; simp [sc] at hy
  | number t n j => rfl
theorem S_lo : S 13920209174949527552 = some (-999999 * K) := by kernel_rfl
theorem S_hi : S 4696837138094751744 = some (999999 * K) := by kernel_rfl

theorem cut_zero (s : Bool) (n : Nat) : Toward.even.cut s n 0 = n := by
  unfold Toward.cut
  simp [Nat.mod_one]
theorem read_word (neg : Bool) (q f : Nat) (hq1 : 1 ≤ q) (hq2 : q < 2047) (hf : f < 4503599627370496) :
    double.read (double.word neg (q * 4503599627370496 + f)) = .number neg (4503599627370496 + f) (-1074 + ((q - 1 : Nat) : Int)) := by
  have hl : double.leastPlace = -1074 := by kernel_rfl
  have hb : double.binade = 4503599627370496 := by kernel_rfl
  have hi : double.infRung = 9218868437227405312 := by kernel_rfl
  have hs : double.signWeight = 9223372036854775808 := by kernel_rfl
  have hr : q * 4503599627370496 + f < 9218868437227405312 := by omega
  have hm : (q * 4503599627370496 + f) % 4503599627370496 = f := by omega
  have hd : (q * 4503599627370496 + f) / 4503599627370496 = q := by omega
  have hge : ¬ q * 4503599627370496 + f < 4503599627370496 := by omega
  generalize q * 4503599627370496 + f = r at *
  unfold Format.read Format.word
  rw [hl, hb, hi, hs]
  cases neg
  · have w1 : r / 9223372036854775808 % 2 = 0 := by omega
    have w2 : r % 9223372036854775808 = r := by omega
    simp only [Bool.false_eq_true, if_false]
    rw [w1, w2, if_neg hge, if_pos hr, hm, hd]
    rfl
  · have w1 : (9223372036854775808 + r) / 9223372036854775808 % 2 = 1 := by omega
    have w2 : (9223372036854775808 + r) % 9223372036854775808 = r := by omega
    simp only [if_true]
    rw [w1, w2, if_neg hge, if_pos hr, hm, hd]
    rfl
theorem S_ofInt (n : Int) (h : n.natAbs < 9007199254740992) : S (floatOfInt .f64 n) = some (n * K) := by
  unfold S floatOfInt
  show sc (double.read (double.nearest (decide (n < 0)) n.natAbs 0)) = _
  by_cases h0 : n.natAbs = 0
  · have : n = 0 := by omega
    subst this
    have z : sc (double.read (double.nearest false 0 0)) = some 0 := by kernel_rfl
    rw [Int.zero_mul]
    exact z
  · have hl : double.leastPlace = -1074 := by kernel_rfl
    have hb : double.binade = 4503599627370496 := by kernel_rfl
    have hi : double.infRung = 9218868437227405312 := by kernel_rfl
    have hfb : double.fractionBits = 52 := rfl
    unfold Format.nearest
    rw [if_neg h0]
    simp only
    rw [hl, hb, hi, hfb]
    clear hl hb hi hfb
    have l1 : tw n.natAbs.log2 ≤ n.natAbs := Nat.log2_self_le h0
    have l2 : n.natAbs < tw (n.natAbs.log2 + 1) := Nat.lt_log2_self
    generalize hM : n.natAbs = M at *
    generalize hL : M.log2 = L at *
    have hL52 : L ≤ 52 := by
      rcases Nat.lt_or_ge 52 L with h5 | h5
      · have h6 : tw 53 ≤ tw L := Nat.pow_le_pow_right (by omega) h5
        have h7 : tw 53 = 9007199254740992 := by kernel_rfl
        omega
      · exact h5
    have hlast : max ((0 : Int) + (L : Int) - ((52 : Nat) : Int)) (-1074) = (L : Int) - 52 := by omega
    rw [hlast]
    have a1 : ((0 : Int) - ((L : Int) - 52)).toNat = 52 - L := by omega
    have a2 : (((L : Int) - 52) - 0).toNat = 0 := by omega
    have a3 : (((L : Int) - 52) - -1074).toNat = L + 1022 := by omega
    rw [a1, a2, a3, cut_zero, shl]
    have p1 : tw L * tw (52 - L) = 4503599627370496 := by rw [tw_add, show L + (52 - L) = 52 by omega]; kernel_rfl
    have p2 : tw (L + 1) * tw (52 - L) = 9007199254740992 := by rw [tw_add, show L + 1 + (52 - L) = 53 by omega]; kernel_rfl
    have q1 : 4503599627370496 ≤ M * tw (52 - L) := by rw [← p1]; exact Nat.mul_le_mul_right _ l1
    have q2 : M * tw (52 - L) < 9007199254740992 := by rw [← p2]; exact Nat.mul_lt_mul_of_pos_right l2 (tw_pos _)
    have t2 : (M * tw (52 - L)) <<< (L + 1022) = M * tw 1074 := by
      rw [shl, Nat.mul_assoc, tw_add, show 52 - L + (L + 1022) = 1074 by omega]
    generalize M * tw (52 - L) = X at *
    obtain ⟨f, hf⟩ : ∃ f, X = 4503599627370496 + f := ⟨X - 4503599627370496, by omega⟩
    clear q1 p1 p2 l1 l2 hL h0 a1 a2 a3 hlast
    have f52 : f < 4503599627370496 := by omega
    have hmin : min ((L + 1022) * 4503599627370496 + X) 9218868437227405312 = (L + 1023) * 4503599627370496 + f := by
      rw [Nat.min_eq_left (by omega)]; omega
    rw [hmin, read_word _ (L + 1023) f (by omega) (by omega) f52, ← hf]
    clear hmin hf q2 f52
    rw [sc_number]
    refine congrArg some ?_
    have t1 : ((-1074 : Int) + (((L + 1023 - 1 : Nat)) : Int) + 1074).toNat = L + 1022 := by omega
    rw [t1]
    unfold signed K
    rw [t2]
    generalize tw 1074 = Z
    by_cases hn : n < 0
    · rw [decide_eq_true hn, if_pos rfl]
      have : n = -(M : Int) := by omega
      rw [this]; push_cast; rw [Int.neg_mul]
    · rw [decide_eq_false hn, if_neg (by simp)]
      have : n = (M : Int) := by omega
      rw [this]; push_cast; rfl

theorem cutz (s : Bool) (n d : Nat) : Toward.zero.cut s n d = n / tw d := by
  have h1 : Toward.zero.cut s n d = n / tw (min d (n.log2 + 2)) := by
    unfold Toward.cut
    simp only [Bool.toNat_false, Nat.add_zero]
    rw [shl, Nat.one_mul]
  rw [h1]
  rcases Nat.le_total d (n.log2 + 2) with h | h
  · rw [Nat.min_eq_left h]
  · rw [Nat.min_eq_right h]
    have a : n < tw (n.log2 + 1) := Nat.lt_log2_self
    have b : tw (n.log2 + 1) ≤ tw (n.log2 + 2) := Nat.pow_le_pow_right (by omega) (by omega)
    have c : tw (n.log2 + 2) ≤ tw d := Nat.pow_le_pow_right (by omega) h
    rw [Nat.div_eq_of_lt (by omega), Nat.div_eq_of_lt (by omega)]
theorem trunc_num (s : Bool) (m : Nat) (e : Int) (he : -1074 ≤ e) : ∃ t : Int, (Datum.number s m e).toInt .zero = some t ∧ (∀ k, signed s m (e + 1074).toNat = k * K → t = k) ∧ (∀ b : Int, -(b * K) ≤ signed s m (e + 1074).toNat → signed s m (e + 1074).toNat ≤ b * K → -b ≤ t ∧ t ≤ b) := by
  obtain ⟨d, hd⟩ : ∃ d, (-e).toNat = d := ⟨_, rfl⟩
  obtain ⟨c, hc⟩ : ∃ c, 1074 - d = c := ⟨_, rfl⟩
  have hdc : d + c = 1074 := by omega
  have hsum : (e + 1074).toNat = e.toNat + c := by omega
  have hK : K = ((tw d : Nat) : Int) * ((tw c : Nat) : Int) := by
    unfold K
    rw [← Int.natCast_mul, tw_add, hdc]
  have hS : signed s m (e + 1074).toNat = signed s m e.toNat * ((tw c : Nat) : Int) := by rw [hsum, signed_add]
  refine ⟨signed s ((m * tw e.toNat) / tw d) 0, ?_, ?_⟩
  · unfold Datum.toInt Datum.integral
    simp only
    rw [hd, cutz, shl]
  · rw [hS, hK]
    have hm : ∀ X : Nat, signed s X 0 = if s then -(X : Int) else (X : Int) := fun X => by unfold signed; rw [shl]; simp [tw]
    have ha : signed s m e.toNat = if s then -((m * tw e.toNat : Nat) : Int) else ((m * tw e.toNat : Nat) : Int) := by unfold signed; rw [shl]
    rw [hm, ha]
    have hcp : (0 : Int) < ((tw c : Nat) : Int) := Int.natCast_pos.2 (tw_pos c)
    have hdp : 0 < tw d := tw_pos d
    generalize hcc : ((tw c : Nat) : Int) = C at *
    generalize hA : m * tw e.toNat = A at *
    generalize hD : tw d = D at *
    have hdm := Nat.div_add_mod A D
    have hml := Nat.mod_lt A hdp
    generalize hq : A / D = q at *
    generalize hr : A % D = r at *
    clear hS hK hm ha hsum hd hc hdc he hcc hA hD hq hr
    refine ⟨fun k hk => ?_, fun b h1 h2 => ?_⟩
    · have hk' : (if s then -(A : Int) else (A : Int)) = k * D := by
        rw [← Int.mul_assoc] at hk
        exact Int.eq_of_mul_eq_mul_right (by omega) hk
      clear hk
      have hAz : (A : Int) = D * q + r := by rw [← hdm]; push_cast; rfl
      cases s
      · simp only [Bool.false_eq_true, if_false] at hk' ⊢
        rw [hAz] at hk'
        have e1 : (r : Int) = D * (k - q) := by rw [Int.mul_sub, Int.mul_comm D k]; omega
        have hz : k - q = 0 := by
          rcases Int.lt_trichotomy (k - q) 0 with h | h | h
          · have : (D : Int) * (k - q) ≤ D * (-1) := Int.mul_le_mul_of_nonneg_left (by omega) (by omega)
            omega
          · exact h
          · have : (D : Int) * 1 ≤ D * (k - q) := Int.mul_le_mul_of_nonneg_left (by omega) (by omega)
            omega
        omega
      · simp only [if_true] at hk' ⊢
        rw [hAz] at hk'
        have e1 : (r : Int) = D * (-k - q) := by rw [Int.mul_sub, Int.mul_neg, Int.mul_comm D k]; omega
        have hz : -k - q = 0 := by
          rcases Int.lt_trichotomy (-k - q) 0 with h | h | h
          · have : (D : Int) * (-k - q) ≤ D * (-1) := Int.mul_le_mul_of_nonneg_left (by omega) (by omega)
            omega
          · exact h
          · have : (D : Int) * 1 ≤ D * (-k - q) := Int.mul_le_mul_of_nonneg_left (by omega) (by omega)
            omega
        omega
    · rw [← Int.mul_assoc] at h1 h2
      have g1 : -(b * D) ≤ (if s then -(A : Int) else (A : Int)) := by
        rw [← Int.neg_mul] at h1
        exact Int.le_of_mul_le_mul_right h1 hcp
      have g2 : (if s then -(A : Int) else (A : Int)) ≤ b * D := Int.le_of_mul_le_mul_right h2 hcp
      have hAz : (A : Int) = D * q + r := by rw [← hdm]; push_cast; rfl
      have hab : (A : Int) ≤ b * D := by cases s <;> simp at g1 g2 <;> omega
      have hqb : (q : Int) ≤ b := by
        have : (D : Int) * q ≤ D * b := by rw [Int.mul_comm D b]; omega
        exact Int.le_of_mul_le_mul_left this (by omega)
      cases s <;> simp <;> omega

/-- The whole number that a float is, from -999999 to 999999; none: it is none. -/
def wh (x : Nat) : Option Int :=
  match S x with
  | none => none
  | some v => if v = v / K * K ∧ -(999999 * K) ≤ v ∧ v ≤ 999999 * K then some (v / K) else none
theorem wh_some {x : Nat} {k : Int} (h : S x = some (k * K)) (h1 : -999999 ≤ k) (h2 : k ≤ 999999) : wh x = some k := by
  have hk := K_pos
  unfold wh
  rw [h]
  have e : k * K / K = k := Int.mul_ediv_cancel k (by omega)
  simp only [e]
  have l1 : -999999 * K ≤ k * K := Int.mul_le_mul_of_nonneg_right h1 (by omega)
  have l2 : k * K ≤ 999999 * K := Int.mul_le_mul_of_nonneg_right h2 (by omega)
  rw [if_pos ⟨trivial, by rw [← Int.neg_mul]; exact l1, l2⟩]
theorem wh_val {x : Nat} {k : Int} (h : wh x = some k) : S x = some (k * K) ∧ -999999 ≤ k ∧ k ≤ 999999 := by
  have hk := K_pos
  unfold wh at h
  split at h
  · cases h
  · rename_i v hv
    split at h
    · rename_i hc
      obtain ⟨c1, c2, c3⟩ := hc
      cases h
      refine ⟨by rw [hv, ← c1], ?_, ?_⟩
      · rw [c1, ← Int.neg_mul] at c2; exact Int.le_of_mul_le_mul_right c2 hk
      · rw [c1] at c3; exact Int.le_of_mul_le_mul_right c3 hk
    · cases h
theorem wh_ofInt (n : Int) (h1 : -999999 ≤ n) (h2 : n ≤ 999999) : wh (floatOfInt .f64 n) = some n := wh_some (S_ofInt n (by omega)) h1 h2
end Go.Proofs.YtpkofpgdnbkknaaDoor
