/- Floats, as exact numbers: a finite float times 2 ^ 1074 is whole. -/
import Derived.Laws.FloatArith
import Derived.Laws.ComplexArith
import Derived.KernelRfl
import Derived.WalkKit
import Derived.Below
import Derived.BigQuiet
import Derived.Deep.QuietTactic
import Derived.Shelf.SlSortCmp.QuietGrown
import Derived.Test.YtefobkgifigclaaGreatDoorProg
import Derived.WalkLawsBesides
namespace Go.Proofs.YtefobkgifigclaaGreatDoor.S14
set_option maxRecDepth 100000
open Ieee

/-- A power of two. -/
def tw (n : Nat) : Nat := 2 ^ n
theorem tw_pos (n : Nat) : 0 < tw n := Nat.two_pow_pos n
theorem tw_add (a b : Nat) : tw a * tw b = tw (a + b) := (Nat.pow_add 2 a b).symm
theorem shl (m u : Nat) : m <<< u = m * tw u := Nat.shiftLeft_eq m u
/-- 2 ^ 1074. -/
def K : Int := ((tw 1074 : Nat) : Int)
theorem K_pos : 0 < K := Int.natCast_pos.2 (tw_pos 1074)
/-- A finite float's value, times 2 ^ 1074. -/
def sc : Datum → Option Int
  | .number s m e => some (signed s m (e + 1074).toNat)
  | _ => none
def S (x : Nat) : Option Int := sc (double.read x)
theorem sc_number (s : Bool) (m : Nat) (e : Int) : sc (.number s m e) = some (signed s m (e + 1074).toNat) := rfl
theorem signed_add (s : Bool) (m u v : Nat) : signed s m (u + v) = signed s m u * ((tw v : Nat) : Int) := by
  unfold signed
  have h : m <<< (u + v) = m <<< u * tw v := by rw [shl, shl, ← tw_add, Nat.mul_assoc]
  rw [h]
  cases s
  · simp
  · simp [Int.neg_mul]
theorem read_place {x m : Nat} {s : Bool} {e : Int} (h : double.read x = .number s m e) : -1074 ≤ e := by
  have hl : double.leastPlace = -1074 := by kernel_rfl
  unfold Format.read at h
  simp only at h
  split at h
  · cases h; omega
  · split at h
    · cases h; omega
    · split at h <;> cases h
theorem cmp_scale (a b c : Int) (hc : 0 < c) : compare (a * c) (b * c) = compare a b := by
  have h1 : a * c < b * c ↔ a < b := Int.mul_lt_mul_right hc
  have h2 : a * c = b * c ↔ a = b := Int.mul_eq_mul_right_iff (by omega)
  simp only [compare, compareOfLessAndEq, h1, h2]
theorem order_S {x y : Nat} {a b : Int} (hx : S x = some a) (hy : S y = some b) : double.order x y = some (compare a b) := by
  unfold S at hx hy
  cases h1 : double.read x with
  | infinity s => rw [h1] at hx; simp [sc] at hx
  | nan s f => rw [h1] at hx; simp [sc] at hx
  | number s m i =>
    cases h2 : double.read y with
    | infinity s => rw [h2] at hy; simp [sc] at hy
    | nan s f => rw [h2] at hy; simp [sc] at hy
    | number t n j =>
      have e1 := read_place h1
      have e2 := read_place h2
      rw [h1] at hx
      rw [h2] at hy
      simp only [sc, Option.some.injEq] at hx hy
      unfold Format.order
      rw [h1, h2]
      simp only [Datum.order]
      congr 1
      have k1 : (i + 1074).toNat = (i - min i j).toNat + (min i j + 1074).toNat := by omega
      have k2 : (j + 1074).toNat = (j - min i j).toNat + (min i j + 1074).toNat := by omega
      rw [← hx, ← hy, k1, k2, signed_add, signed_add, cmp_scale _ _ _ (Int.natCast_pos.2 (tw_pos _))]
theorem order_nan {x : Nat} {s : Bool} {f : Nat} (h : double.read x = .nan s f) : double.order x x = none := by
  unfold Format.order
  rw [h]
  rfl
theorem order_inf {x : Nat} {s : Bool} (h : double.read x = .infinity s) : double.order x x = some .eq := by
  unfold Format.order
  rw [h]
  cases s <;> rfl
theorem order_inf_num {x y : Nat} {s : Bool} {b : Int} (h : double.read x = .infinity s) (hy : S y = some b) : double.order x y = some (if s then .lt else .gt) := by
  unfold S at hy
  unfold Format.order
  rw [h]
  cases h2 : double.read y with
  | infinity s => rw [h2] at hy; simp [sc] at hy
  | nan s f => rw [h2] at hy; simp [sc] at hy
  | number t n j => rfl
theorem S_lo : S 13920209174949527552 = some (-999999 * K) := by kernel_rfl
theorem S_hi : S 4696837138094751744 = some (999999 * K) := by kernel_rfl

theorem cut_zero (s : Bool) (n : Nat) : Toward.even.cut s n 0 = n := by
  unfold Toward.cut
  simp [Nat.mod_one]
theorem read_word (neg : Bool) (q f : Nat) (hq1 : 1 ≤ q) (hq2 : q < 2047) (hf : f < 4503599627370496) :
    double.read (double.word neg (q * 4503599627370496 + f)) = .number neg (4503599627370496 + f) (-1074 + ((q - 1 : Nat) : Int)) := by
  have hl : double.leastPlace = -1074 := by kernel_rfl
  have hb : double.binade = 4503599627370496 := by kernel_rfl
  have hi : double.infRung = 9218868437227405312 := by kernel_rfl
  have hs : double.signWeight = 9223372036854775808 := by kernel_rfl
  have hr : q * 4503599627370496 + f < 9218868437227405312 := by omega
  have hm : (q * 4503599627370496 + f) % 4503599627370496 = f := by omega
  have hd : (q * 4503599627370496 + f) / 4503599627370496 = q := by omega
  have hge : ¬ q * 4503599627370496 + f < 4503599627370496 := by omega
  generalize q * 4503599627370496 + f = r at *
  unfold Format.read Format.word
  rw [hl, hb, hi, hs]
  cases neg
  · have w1 : r / 9223372036854775808 % 2 = 0 := by omega
    have w2 : r % 9223372036854775808 = r := by omega
    simp only [Bool.false_eq_true, if_false]
    rw [w1, w2, if_neg hge, if_pos hr, hm, hd]
    rfl
  · have w1 : (9223372036854775808 + r) / 9223372036854775808 % 2 = 1 := by omega
    have w2 : (9223372036854775808 + r) % 9223372036854775808 = r := by omega
    simp only [if_true]
    rw [w1, w2, if_neg hge, if_pos hr, hm, hd]
    rfl
theorem S_ofInt (n : Int) (h : n.natAbs < 9007199254740992) : S (floatOfInt .f64 n) = some (n * K) := by
  unfold S floatOfInt
  show sc (double.read (double.nearest (decide (n < 0)) n.natAbs 0)) = _
  by_cases h0 : n.natAbs = 0
  · have : n = 0 := by omega
    subst this
    have z : sc (double.read (double.nearest false 0 0)) = some 0 := by kernel_rfl
    rw [Int.zero_mul]
    exact z
  · have hl : double.leastPlace = -1074 := by kernel_rfl
    have hb : double.binade = 4503599627370496 := by kernel_rfl
    have hi : double.infRung = 9218868437227405312 := by kernel_rfl
    have hfb : double.fractionBits = 52 := rfl
    unfold Format.nearest
    rw [if_neg h0]
    simp only
    rw [hl, hb, hi, hfb]
    clear hl hb hi hfb
    have l1 : tw n.natAbs.log2 ≤ n.natAbs := Nat.log2_self_le h0
    have l2 : n.natAbs < tw (n.natAbs.log2 + 1) := Nat.lt_log2_self
    generalize hM : n.natAbs = M at *
    generalize hL : M.log2 = L at *
    have hL52 : L ≤ 52 := by
      rcases Nat.lt_or_ge 52 L with h5 | h5
      · have h6 : tw 53 ≤ tw L := Nat.pow_le_pow_right (by omega) h5
        have h7 : tw 53 = 9007199254740992 := by kernel_rfl
        omega
      · exact h5
    have hlast : max ((0 : Int) + (L : Int) - ((52 : Nat) : Int)) (-1074) = (L : Int) - 52 := by omega
    rw [hlast]
    have a1 : ((0 : Int) - ((L : Int) - 52)).toNat = 52 - L := by omega
    have a2 : (((L : Int) - 52) - 0).toNat = 0 := by omega
    have a3 : (((L : Int) - 52) - -1074).toNat = L + 1022 := by omega
    rw [a1, a2, a3, cut_zero, shl]
    have p1 : tw L * tw (52 - L) = 4503599627370496 := by rw [tw_add, show L + (52 - L) = 52 by omega]; kernel_rfl
    have p2 : tw (L + 1) * tw (52 - L) = 9007199254740992 := by rw [tw_add, show L + 1 + (52 - L) = 53 by omega]; kernel_rfl
    have q1 : 4503599627370496 ≤ M * tw (52 - L) := by rw [← p1]; exact Nat.mul_le_mul_right _ l1
    have q2 : M * tw (52 - L) < 9007199254740992 := by rw [← p2]; exact Nat.mul_lt_mul_of_pos_right l2 (tw_pos _)
    have t2 : (M * tw (52 - L)) <<< (L + 1022) = M * tw 1074 := by
      rw [shl, Nat.mul_assoc, tw_add, show 52 - L + (L + 1022) = 1074 by omega]
    generalize M * tw (52 - L) = X at *
    obtain ⟨f, hf⟩ : ∃ f, X = 4503599627370496 + f := ⟨X - 4503599627370496, by omega⟩
    clear q1 p1 p2 l1 l2 hL h0 a1 a2 a3 hlast
    have f52 : f < 4503599627370496 := by omega
    have hmin : min ((L + 1022) * 4503599627370496 + X) 9218868437227405312 = (L + 1023) * 4503599627370496 + f := by
      rw [Nat.min_eq_left (by omega)]; omega
    rw [hmin, read_word _ (L + 1023) f (by omega) (by omega) f52, ← hf]
    clear hmin hf q2 f52
    rw [sc_number]
    refine congrArg some ?_
    have t1 : ((-1074 : Int) + (((L + 1023 - 1 : Nat)) : Int) + 1074).toNat = L + 1022 := by omega
    rw [t1]
    unfold signed K
    rw [t2]
    generalize tw 1074 = Z
    by_cases hn : n < 0
    · rw [decide_eq_true hn, if_pos rfl]
      have : n = -(M : Int) := by omega
      rw [this]; push_cast; rw [Int.neg_mul]
    · rw [decide_eq_false hn, if_neg (by simp)]
      have : n = (M : Int) := by omega
      rw [this]; push_cast; rfl

theorem cutz (s : Bool) (n d : Nat) : Toward.zero.cut s n d = n / tw d := by
  have h1 : Toward.zero.cut s n d = n / tw (min d (n.log2 + 2)) := by
    unfold Toward.cut
    simp only [Bool.toNat_false, Nat.add_zero]
    rw [shl, Nat.one_mul]
  rw [h1]
  rcases Nat.le_total d (n.log2 + 2) with h | h
  · rw [Nat.min_eq_left h]
  · rw [Nat.min_eq_right h]
    have a : n < tw (n.log2 + 1) := Nat.lt_log2_self
    have b : tw (n.log2 + 1) ≤ tw (n.log2 + 2) := Nat.pow_le_pow_right (by omega) (by omega)
    have c : tw (n.log2 + 2) ≤ tw d := Nat.pow_le_pow_right (by omega) h
    rw [Nat.div_eq_of_lt (by omega), Nat.div_eq_of_lt (by omega)]
theorem trunc_num (s : Bool) (m : Nat) (e : Int) (he : -1074 ≤ e) : ∃ t : Int, (Datum.number s m e).toInt .zero = some t ∧ (∀ k, signed s m (e + 1074).toNat = k * K → t = k) ∧ (∀ b : Int, -(b * K) ≤ signed s m (e + 1074).toNat → signed s m (e + 1074).toNat ≤ b * K → -b ≤ t ∧ t ≤ b) := by
  obtain ⟨d, hd⟩ : ∃ d, (-e).toNat = d := ⟨_, rfl⟩
  obtain ⟨c, hc⟩ : ∃ c, 1074 - d = c := ⟨_, rfl⟩
  have hdc : d + c = 1074 := by omega
  have hsum : (e + 1074).toNat = e.toNat + c := by omega
  have hK : K = ((tw d : Nat) : Int) * ((tw c : Nat) : Int) := by
    unfold K
    rw [← Int.natCast_mul, tw_add, hdc]
  have hS : signed s m (e + 1074).toNat = signed s m e.toNat * ((tw c : Nat) : Int) := by rw [hsum, signed_add]
  refine ⟨signed s ((m * tw e.toNat) / tw d) 0, ?_, ?_⟩
  · unfold Datum.toInt Datum.integral
    simp only
    rw [hd, cutz, shl]
  · rw [hS, hK]
    have hm : ∀ X : Nat, signed s X 0 = if s then -(X : Int) else (X : Int) := fun X => by unfold signed; rw [shl]; simp [tw]
    have ha : signed s m e.toNat = if s then -((m * tw e.toNat : Nat) : Int) else ((m * tw e.toNat : Nat) : Int) := by unfold signed; rw [shl]
    rw [hm, ha]
    have hcp : (0 : Int) < ((tw c : Nat) : Int) := Int.natCast_pos.2 (tw_pos c)
    have hdp : 0 < tw d := tw_pos d
    generalize hcc : ((tw c : Nat) : Int) = C at *
    generalize hA : m * tw e.toNat = A at *
    generalize hD : tw d = D at *
    have hdm := Nat.div_add_mod A D
    have hml := Nat.mod_lt A hdp
    generalize hq : A / D = q at *
    generalize hr : A % D = r at *
    clear hS hK hm ha hsum hd hc hdc he hcc hA hD hq hr
    refine ⟨fun k hk => ?_, fun b h1 h2 => ?_⟩
    · have hk' : (if s then -(A : Int) else (A : Int)) = k * D := by
        rw [← Int.mul_assoc] at hk
        exact Int.eq_of_mul_eq_mul_right (by omega) hk
      clear hk
      have hAz : (A : Int) = D * q + r := by rw [← hdm]; push_cast; rfl
      cases s
      · simp only [Bool.false_eq_true, if_false] at hk' ⊢
        rw [hAz] at hk'
        have e1 : (r : Int) = D * (k - q) := by rw [Int.mul_sub, Int.mul_comm D k]; omega
        have hz : k - q = 0 := by
          rcases Int.lt_trichotomy (k - q) 0 with h | h | h
          · have : (D : Int) * (k - q) ≤ D * (-1) := Int.mul_le_mul_of_nonneg_left (by omega) (by omega)
            omega
          · exact h
          · have : (D : Int) * 1 ≤ D * (k - q) := Int.mul_le_mul_of_nonneg_left (by omega) (by omega)
            omega
        omega
      · simp only [if_true] at hk' ⊢
        rw [hAz] at hk'
        have e1 : (r : Int) = D * (-k - q) := by rw [Int.mul_sub, Int.mul_neg, Int.mul_comm D k]; omega
        have hz : -k - q = 0 := by
          rcases Int.lt_trichotomy (-k - q) 0 with h | h | h
          · have : (D : Int) * (-k - q) ≤ D * (-1) := Int.mul_le_mul_of_nonneg_left (by omega) (by omega)
            omega
          · exact h
          · have : (D : Int) * 1 ≤ D * (-k - q) := Int.mul_le_mul_of_nonneg_left (by omega) (by omega)
            omega
        omega
    · rw [← Int.mul_assoc] at h1 h2
      have g1 : -(b * D) ≤ (if s then -(A : Int) else (A : Int)) := by
        rw [← Int.neg_mul] at h1
        exact Int.le_of_mul_le_mul_right h1 hcp
      have g2 : (if s then -(A : Int) else (A : Int)) ≤ b * D := Int.le_of_mul_le_mul_right h2 hcp
      have hAz : (A : Int) = D * q + r := by rw [← hdm]; push_cast; rfl
      have hab : (A : Int) ≤ b * D := by cases s <;> simp at g1 g2 <;> omega
      have hqb : (q : Int) ≤ b := by
        have : (D : Int) * q ≤ D * b := by rw [Int.mul_comm D b]; omega
        exact Int.le_of_mul_le_mul_left this (by omega)
      cases s <;> simp <;> omega

/-- The whole number that a float is, from -999999 to 999999; none: it is none. -/
def wh (x : Nat) : Option Int :=
  match S x with
  | none => none
  | some v => if v = v / K * K ∧ -(999999 * K) ≤ v ∧ v ≤ 999999 * K then some (v / K) else none
theorem wh_some {x : Nat} {k : Int} (h : S x = some (k * K)) (h1 : -999999 ≤ k) (h2 : k ≤ 999999) : wh x = some k := by
  have hk := K_pos
  unfold wh
  rw [h]
  have e : k * K / K = k := Int.mul_ediv_cancel k (by omega)
  simp only [e]
  have l1 : -999999 * K ≤ k * K := Int.mul_le_mul_of_nonneg_right h1 (by omega)
  have l2 : k * K ≤ 999999 * K := Int.mul_le_mul_of_nonneg_right h2 (by omega)
  rw [if_pos ⟨trivial, by rw [← Int.neg_mul]; exact l1, l2⟩]
theorem wh_val {x : Nat} {k : Int} (h : wh x = some k) : S x = some (k * K) ∧ -999999 ≤ k ∧ k ≤ 999999 := by
  have hk := K_pos
  unfold wh at h
  split at h
  · cases h
  · rename_i v hv
    split at h
    · rename_i hc
      obtain ⟨c1, c2, c3⟩ := hc
      cases h
      refine ⟨by rw [hv, ← c1], ?_, ?_⟩
      · rw [c1, ← Int.neg_mul] at c2; exact Int.le_of_mul_le_mul_right c2 hk
      · rw [c1] at c3; exact Int.le_of_mul_le_mul_right c3 hk
    · cases h
theorem wh_ofInt (n : Int) (h1 : -999999 ≤ n) (h2 : n ≤ 999999) : wh (floatOfInt .f64 n) = some n := wh_some (S_ofInt n (by omega)) h1 h2
end Go.Proofs.YtefobkgifigclaaGreatDoor.S14
/- Words that all texts of this stage share: hidden facts, a span, and plain facts on worlds. -/
namespace Go.Proofs.YtefobkgifigclaaGreatDoor.S14
set_option maxRecDepth 100000
open Go.RowKit
open Go.Sort (grow)

theorem hide {p : Prop} (h : p) : Hid p := h
theorem unhide {p : Prop} (h : Hid p) : p := h
theorem ret_bool {a b : Bool} (h : a = b) : Ending.returned (.bool a) = .returned (.bool b) := by rw [h]
theorem ret_int {k : IntKind} {a b : Int} (h : a = b) : Ending.returned (.int k a) = .returned (.int k b) := by rw [h]
theorem cell_lt {w : World} {a : Addr} {v : Value} (h : w.cell? a = some v) : a.block < w.heap.size := by
  rcases Nat.lt_or_ge a.block w.heap.size with h' | h'
  · exact h'
  · simp [World.cell?, Array.getElem?_eq_none h'] at h
theorem below_new {w w1 : World} {o : Obj} (hb : Below (w.alloc o).heap.size (w.alloc o) w1) : Below w.heap.size w w1 :=
  ((Below.refl _ _).alloc (Nat.le_refl _) _).trans (hb.mono (by simp))

/-- A span: from, to, what it has. -/
structure Sp where
  f : Int
  t : Int
  h : Int
/-- The span that is none. -/
def sp0 : Sp := ⟨0, 0, 0⟩
/-- Are two spans, two lists of spans the same? -/
def eqS (a b : Sp) : Bool := decide (a.f = b.f ∧ a.t = b.t ∧ a.h = b.h)
def eqL : List Sp → List Sp → Bool
  | [], [] => true
  | [], _ :: _ => false
  | _ :: _, [] => false
  | a :: l, b :: m => eqS a b && eqL l m
theorem eqS_iff (a b : Sp) : eqS a b = true ↔ a = b := by
  obtain ⟨f, t, h⟩ := a
  obtain ⟨f2, t2, h2⟩ := b
  simp [eqS]
theorem eqL_iff (a b : List Sp) : eqL a b = true ↔ a = b := by
  induction a generalizing b with
  | nil => cases b <;> simp [eqL]
  | cons x a ih =>
    cases b with
    | nil => simp [eqL]
    | cons y b => simp [eqL, eqS_iff, ih]
theorem eqL_true {a b : List Sp} (h : a = b) : eqL a b = true := (eqL_iff a b).2 h
theorem eqL_false {a b : List Sp} (h : ¬ a = b) : eqL a b = false := by
  cases h2 : eqL a b
  · rfl
  · exact absurd ((eqL_iff a b).1 h2) h

/-- May a span be? -/
def mayS (s : Sp) : Bool := decide (0 ≤ s.f ∧ s.f ≤ s.t ∧ s.t ≤ 1114111)
theorem mayS_iff (s : Sp) : mayS s = true ↔ 0 ≤ s.f ∧ s.f ≤ s.t ∧ s.t ≤ 1114111 := by unfold mayS; simp
theorem mayS_not (s : Sp) : mayS s = false ↔ ¬ (0 ≤ s.f ∧ s.f ≤ s.t ∧ s.t ≤ 1114111) := by unfold mayS; rw [decide_eq_false_iff_not]

/-- Is a number in a span? -/
def inS (s : Sp) (r : Int) : Bool := decide (s.f ≤ r ∧ r ≤ s.t)
theorem inS_iff (s : Sp) (r : Int) : inS s r = true ↔ s.f ≤ r ∧ r ≤ s.t := by unfold inS; simp
theorem inS_not (s : Sp) (r : Int) : inS s r = false ↔ ¬ (s.f ≤ r ∧ r ≤ s.t) := by unfold inS; rw [decide_eq_false_iff_not]

/-- Does a span touch the one ahead, with the same? -/
def joinS (p s : Sp) : Bool := decide (s.f = p.t + 1 ∧ s.h = p.h)
theorem joinS_iff (p s : Sp) : joinS p s = true ↔ s.f = p.t + 1 ∧ s.h = p.h := by unfold joinS; simp
theorem joinS_not (p s : Sp) : joinS p s = false ↔ ¬ (s.f = p.t + 1 ∧ s.h = p.h) := by unfold joinS; rw [decide_eq_false_iff_not]

/-- May a span follow the one ahead? -/
def folS (p s : Sp) : Bool := decide (p.t < s.f) && !joinS p s

/-- A slice that holds the spans l. -/
def Tab (w : World) (v : Value) (l : List Sp) : Prop :=
  ∃ a cap, v = .slice a l.length cap ∧ (0 < l.length → ∃ b off, a = some ⟨b, off, none⟩ ∧ ∀ j, j < l.length →
    w.cell? ⟨b, off + j * 3, none⟩ = some (.int .i32 (l.getD j sp0).f) ∧ w.cell? ⟨b, off + j * 3 + 1, none⟩ = some (.int .i32 (l.getD j sp0).t) ∧ w.cell? ⟨b, off + j * 3 + 2, none⟩ = some (.int .i64 (l.getD j sp0).h))

theorem Tab.below {w w2 : World} {v : Value} {l : List Sp} (h : Tab w v l) (hb : Below w.heap.size w w2) : Tab w2 v l := by
  obtain ⟨a, cap, rfl, hc⟩ := h
  refine ⟨a, cap, rfl, fun i => ?_⟩
  obtain ⟨b, off, rfl, hcc⟩ := hc i
  refine ⟨b, off, rfl, fun j hj => ?_⟩
  obtain ⟨h1, h2, h3⟩ := hcc j hj
  exact ⟨(hb.cell (p := ⟨b, off + j * 3, none⟩) (cell_lt h1)).trans h1, (hb.cell (p := ⟨b, off + j * 3 + 1, none⟩) (cell_lt h2)).trans h2, (hb.cell (p := ⟨b, off + j * 3 + 2, none⟩) (cell_lt h3)).trans h3⟩

theorem Tab.nil (w : World) (a : Option Addr) (c : Nat) : Tab w (.slice a 0 c) [] := ⟨a, c, rfl, fun h => absurd h (Nat.lt_irrefl _)⟩
theorem below_drewN {B : Nat} {w w1 : World} (h : Below B w w1) (n : Nat) : Below B w (w1.drewN n) := ⟨h.os, h.tape, h.output, h.size, h.block⟩

/-- The world has drawn, and blocks were laid behind; all that lay lies as it lay. -/
def Gr (w w' : World) : Prop := ∃ q os, w' = grow (w.drewN q) os
theorem Gr.refl (w : World) : Gr w w := ⟨0, #[], by rw [Go.Sort.grow_empty]; rfl⟩
theorem Gr.trans {a b c : World} (h : Gr a b) (k : Gr b c) : Gr a c := by
  obtain ⟨q, os, rfl⟩ := h
  obtain ⟨q2, os2, rfl⟩ := k
  exact ⟨q + q2, os ++ os2, by show grow (grow ((a.drewN q).drewN q2) os) os2 = _; rw [Go.Sort.grow_grow, World.drewN_drewN]⟩
theorem Gr.one (w : World) (o : Obj) : Gr w (w.alloc o) := ⟨0, #[o], by rw [Go.Sort.alloc_eq_grow]; rfl⟩
theorem Gr.alloc {a b : World} (h : Gr a b) (o : Obj) : Gr a (b.alloc o) := h.trans (Gr.one b o)
theorem Gr.drewN {a b : World} (h : Gr a b) (n : Nat) : Gr a (b.drewN n) := h.trans ⟨n, #[], by rw [Go.Sort.grow_empty]⟩
theorem Gr.drew {a b : World} (h : Gr a b) : Gr a b.drew := h.drewN 1
theorem Gr.grow {a b : World} (h : Gr a b) (n : Nat) (os : Array Obj) : Gr a (Go.Sort.grow (b.drewN n) os) := h.trans ⟨n, os, rfl⟩
theorem Gr.below {a b : World} (h : Gr a b) : Below a.heap.size a b := by
  obtain ⟨q, os, rfl⟩ := h
  exact ⟨rfl, rfl, rfl, by simp [Go.Sort.grow, World.drewN], fun i hi => by
    show ((a.drewN q).heap ++ os)[i]? = _
    rw [Array.getElem?_append_left (by show i < a.heap.size; omega)]
    rfl⟩
theorem Gr.cell {a b : World} (h : Gr a b) {p : Addr} {v : Value} (hc : a.cell? p = some v) : b.cell? p = some v := (h.below.cell (p := p) (cell_lt hc)).trans hc
theorem Gr.tab {a b : World} (h : Gr a b) {v : Value} {l : List Sp} (hc : Tab a v l) : Tab b v l := hc.below h.below
theorem Gr.size {a b : World} (h : Gr a b) : a.heap.size ≤ b.heap.size := h.below.size
/-- A cell in every world that has grown. -/
theorem cell_gr {w : World} {a : Addr} {v : Value} (h : w.cell? a = some v) (n : Nat) (os : Array Obj) : (grow (w.drewN n) os).cell? a = some v := cell_grown (cell_lt h) h n os
theorem callsGr {f : FuncId} {args : Array Value} {w : World} {n : Nat} {os : Array Obj} {v : Value} {P : Program}
    (h : Calls P f args (grow (w.drewN n) os) fun e w' => e = .returned v ∧ Gr (grow (w.drewN n) os) w') : Calls P f args (grow (w.drewN n) os) fun e w'' => e = .returned v ∧ ∃ p : GrownBy, w'' = grow (w.drewN p.n) p.os :=
  Calls.grown_of h

/-- The three cells of a new box. -/
theorem box3 (w : World) (a b c : Value) (T : TypeId) : (w.alloc (.cells #[a, b, c] T)).cell? ⟨w.heap.size, 0, none⟩ = some a ∧ (w.alloc (.cells #[a, b, c] T)).cell? ⟨w.heap.size, 1, none⟩ = some b ∧ (w.alloc (.cells #[a, b, c] T)).cell? ⟨w.heap.size, 2, none⟩ = some c := by
  refine ⟨?_, ?_, ?_⟩ <;> rw [World.cell?_alloc_mark] <;> rfl
theorem box1 (w : World) (a : Value) (T : TypeId) : (w.alloc (.cells #[a] T)).cell? ⟨w.heap.size, 0, none⟩ = some a := by
  rw [World.cell?_alloc_mark]; rfl
end Go.Proofs.YtefobkgifigclaaGreatDoor.S14
/- The document's Whole of layer 14. -/
namespace Go.Proofs.YtefobkgifigclaaGreatDoor.S14
set_option maxRecDepth 100000
open Go.RowKit

theorem ret_ib {a b : Int} {c d : Bool} (h : a = b) (h' : c = d) : Ending.returned (.tuple #[.int .i64 a, .bool c]) = .returned (.tuple #[.int .i64 b, .bool d]) := by rw [h, h']
theorem wh_none_of {x : Nat} (h : S x = none) : wh x = none := by unfold wh; rw [h]
theorem wh_low {x : Nat} {v : Int} (h : S x = some v) (h1 : v < -999999 * K) : wh x = none := by
  unfold wh
  rw [h]
  simp only
  rw [if_neg (by rintro ⟨_, h2, _⟩; rw [← Int.neg_mul] at h2; omega)]
theorem wh_high {x : Nat} {v : Int} (h : S x = some v) (h1 : 999999 * K < v) : wh x = none := by
  unfold wh
  rw [h]
  simp only
  rw [if_neg (by rintro ⟨_, _, h2⟩; omega)]
theorem cmp_lt {a b : Int} (h : a < b) : compare a b = .lt := by simp only [compare, compareOfLessAndEq]; rw [if_pos h]
theorem cmp_gt {a b : Int} (h : b < a) : compare a b = .gt := by simp only [compare, compareOfLessAndEq]; rw [if_neg (by omega), if_neg (by omega)]
theorem cmp_eq (a : Int) : compare a a = .eq := by simp [compare, compareOfLessAndEq]
end Go.Proofs.YtefobkgifigclaaGreatDoor.S14
/- The decimal digits of a number, plainly. -/
namespace Go.Proofs.YtefobkgifigclaaGreatDoor.S14
set_option maxRecDepth 100000
/-- A number's decimal digits. -/
def digN (n : Nat) : List Int := if _h : n < 10 then [48 + (n : Int)] else digN (n / 10) ++ [48 + ((n % 10 : Nat) : Int)]
theorem digN_small {n : Nat} (h : n < 10) : digN n = [48 + (n : Int)] := by rw [digN, dif_pos h]
theorem digN_big {n : Nat} (h : ¬ n < 10) : digN n = digN (n / 10) ++ [48 + ((n % 10 : Nat) : Int)] := by rw [digN, dif_neg h]
theorem digN_bound (n : Nat) : ∀ x ∈ digN n, 48 ≤ x ∧ x ≤ 57 := by
  induction n using Nat.strongRecOn with
  | _ n ih =>
    intro x hx
    by_cases h : n < 10
    · rw [digN_small h] at hx; simp at hx; omega
    · rw [digN_big h] at hx
      rcases List.mem_append.1 hx with h1 | h1
      · exact ih (n / 10) (by omega) x h1
      · simp at h1; omega
theorem digN_len (k : Nat) : ∀ n, n < 10 ^ (k + 1) → (digN n).length ≤ k + 1 := by
  induction k with
  | zero => intro n h; rw [digN_small (by simpa using h)]; simp
  | succ k ih =>
    intro n h
    by_cases h1 : n < 10
    · rw [digN_small h1]; simp
    · rw [digN_big h1]
      have := ih (n / 10) (by rw [Nat.pow_succ] at h; omega)
      simp; omega
end Go.Proofs.YtefobkgifigclaaGreatDoor.S14
/- Numbers of two parts and their texts, plainly. -/
namespace Go.Proofs.YtefobkgifigclaaGreatDoor.S14
set_option maxRecDepth 100000
/-- A whole number's text. -/
def digZ (n : Int) : List Int := if n < 0 then 45 :: digN (-n).toNat else digN n.toNat
theorem digZ_neg {n : Int} (h : n < 0) : digZ n = 45 :: digN (-n).toNat := by unfold digZ; rw [if_pos h]
theorem digZ_pos {n : Int} (h : ¬ n < 0) : digZ n = digN n.toNat := by unfold digZ; rw [if_neg h]
theorem digZ_bound (n : Int) : ∀ x ∈ digZ n, 45 ≤ x ∧ x ≤ 57 := by
  intro x hx
  unfold digZ at hx
  split at hx
  · rcases List.mem_cons.1 hx with h | h
    · omega
    · have := digN_bound _ x h; omega
  · have := digN_bound _ x hx; omega
theorem digZ_len (n : Int) (h1 : -999999 ≤ n) (h2 : n ≤ 999999) : (digZ n).length ≤ 7 := by
  unfold digZ
  split
  · have := digN_len 5 (-n).toNat (by omega)
    simp; omega
  · have := digN_len 5 n.toNat (by omega)
    omega
/-- The text of two whole parts. -/
def txt (a b : Int) : List Int := if b = 0 then digZ a else if a = 0 then digZ b ++ [105] else if 0 < b then digZ a ++ 43 :: (digZ b ++ [105]) else digZ a ++ (digZ b ++ [105])
theorem txt_bound (a b : Int) : ∀ x ∈ txt a b, 0 ≤ x ∧ x < 256 := by
  intro x hx
  have ha := digZ_bound a
  have hb := digZ_bound b
  unfold txt at hx
  split at hx
  · have := ha x hx; omega
  · split at hx
    · rcases List.mem_append.1 hx with h | h
      · have := hb x h; omega
      · simp at h; omega
    · split at hx
      · rcases List.mem_append.1 hx with h | h
        · have := ha x h; omega
        · rcases List.mem_cons.1 h with h | h
          · omega
          · rcases List.mem_append.1 h with h | h
            · have := hb x h; omega
            · simp at h; omega
      · rcases List.mem_append.1 hx with h | h
        · have := ha x h; omega
        · rcases List.mem_append.1 h with h | h
          · have := hb x h; omega
          · simp at h; omega
theorem txt_len (a b : Int) (h1 : -999999 ≤ a) (h2 : a ≤ 999999) (h3 : -999999 ≤ b) (h4 : b ≤ 999999) : (txt a b).length ≤ 16 := by
  have := digZ_len a h1 h2
  have := digZ_len b h3 h4
  unfold txt
  split
  · omega
  · split
    · simp; omega
    · split <;> simp <;> omega

/-- Digits from the left, while the number is below 1000000. -/
def goD : List Int → Int → Int × List Int
  | [], n => (n, [])
  | c :: s, n => if 48 ≤ c ∧ c ≤ 57 ∧ n < 1000000 then goD s (10 * n + c - 48) else (n, c :: s)
def takeL (s : List Int) : Int × List Int := if s.getD 0 0 = 45 then (-(goD (s.drop 1) 0).1, (goD (s.drop 1) 0).2) else goD s 0
theorem goD_dig (n : Nat) : ∀ (r : List Int), n ≤ 999999 → goD (digN n ++ r) 0 = goD r n := by
  induction n using Nat.strongRecOn with
  | _ n ih =>
    intro r h
    by_cases h1 : n < 10
    · rw [digN_small h1]
      simp only [List.singleton_append, goD]
      rw [if_pos (by omega)]
      congr 1; omega
    · rw [digN_big h1, List.append_assoc, ih (n / 10) (by omega) _ (by omega)]
      simp only [List.singleton_append, goD]
      rw [if_pos (by omega)]
      congr 1; omega
theorem goD_stop (n : Int) (r : List Int) (h : r = [] ∨ ¬ (48 ≤ r.getD 0 0 ∧ r.getD 0 0 ≤ 57)) : goD r n = (n, r) := by
  cases r with
  | nil => rfl
  | cons c s =>
    simp only [goD]
    rcases h with h | h
    · cases h
    · simp only [List.getD_cons_zero] at h
      rw [if_neg (by omega)]
theorem digN_head (n : Nat) : ∃ c t, digN n = c :: t ∧ 48 ≤ c ∧ c ≤ 57 := by
  have hb := digN_bound n
  cases h : digN n with
  | nil =>
    by_cases h1 : n < 10
    · rw [digN_small h1] at h; cases h
    · rw [digN_big h1] at h; simp at h
  | cons c t => exact ⟨c, t, rfl, hb c (by rw [h]; simp)⟩
theorem takeL_dig (n : Int) (r : List Int) (h1 : -999999 ≤ n) (h2 : n ≤ 999999) (h : r = [] ∨ ¬ (48 ≤ r.getD 0 0 ∧ r.getD 0 0 ≤ 57)) : takeL (digZ n ++ r) = (n, r) := by
  unfold takeL
  by_cases hn : n < 0
  · rw [digZ_neg hn]
    simp only [List.cons_append, List.getD_cons_zero, if_true, List.drop_succ_cons, List.drop_zero]
    rw [goD_dig _ _ (by omega), goD_stop _ _ h]
    have : -(((-n).toNat : Nat) : Int) = n := by omega
    show (-(((-n).toNat : Nat) : Int), r) = (n, r)
    rw [this]
  · rw [digZ_pos hn]
    obtain ⟨c, t, e, c1, c2⟩ := digN_head n.toNat
    have e0 : (digN n.toNat ++ r).getD 0 0 = c := by rw [e]; rfl
    rw [e0, if_neg (by omega), goD_dig _ _ (by omega), goD_stop _ _ h]
    have : ((n.toNat : Nat) : Int) = n := by omega
    rw [this]
/-- The two parts that a text may have. -/
def cutG (s : List Int) : Int × Int :=
  if (takeL s).2 = [] then ((takeL s).1, 0)
  else if (takeL s).2.getD 0 0 = 105 then (0, (takeL s).1)
  else if (takeL s).2.getD 0 0 = 43 then ((takeL s).1, (takeL ((takeL s).2.drop 1)).1)
  else ((takeL s).1, (takeL (takeL s).2).1)
def inZ (a : Int) : Bool := decide (-999999 ≤ a ∧ a ≤ 999999)
/-- Is a text a number's? -/
def okG (s : List Int) : Bool := inZ (cutG s).1 && inZ (cutG s).2 && decide (txt (cutG s).1 (cutG s).2 = s)
/-- The number's parts (0 and 0: none). -/
def parG (s : List Int) : Int × Int := if okG s then cutG s else (0, 0)
def parF (s : List Int) : Int := if okG s then 0 else 140
theorem cut_txt (a b : Int) (h1 : -999999 ≤ a) (h2 : a ≤ 999999) (h3 : -999999 ≤ b) (h4 : b ≤ 999999) : cutG (txt a b) = (a, b) := by
  unfold txt
  by_cases hb : b = 0
  · rw [if_pos hb]
    have e := takeL_dig a [] h1 h2 (.inl rfl)
    rw [List.append_nil] at e
    unfold cutG
    rw [e]
    simp [hb]
  · rw [if_neg hb]
    by_cases ha : a = 0
    · rw [if_pos ha]
      have e := takeL_dig b [105] h3 h4 (.inr (by simp))
      unfold cutG
      rw [e]
      simp [ha]
    · rw [if_neg ha]
      by_cases hp : 0 < b
      · rw [if_pos hp]
        have e := takeL_dig a (43 :: (digZ b ++ [105])) h1 h2 (.inr (by simp))
        have e2 := takeL_dig b [105] h3 h4 (.inr (by simp))
        unfold cutG
        rw [e]
        simp [e2]
      · rw [if_neg hp]
        have hbn : b < 0 := by omega
        have e2 := takeL_dig b [105] h3 h4 (.inr (by simp))
        have hd : (digZ b ++ [105]).getD 0 0 = 45 := by rw [digZ_neg hbn]; rfl
        have hne : digZ b ++ [105] ≠ [] := by simp
        have e := takeL_dig a (digZ b ++ [105]) h1 h2 (.inr (by rw [hd]; omega))
        unfold cutG
        rw [e]
        simp only
        rw [if_neg hne, hd, if_neg (by omega), if_neg (by omega), e2]
theorem ok_txt (a b : Int) (h1 : -999999 ≤ a) (h2 : a ≤ 999999) (h3 : -999999 ≤ b) (h4 : b ≤ 999999) : okG (txt a b) = true := by
  unfold okG inZ
  rw [cut_txt a b h1 h2 h3 h4]
  simp [h1, h2, h3, h4]
theorem ok_in {s : List Int} (h : okG s = true) : -999999 ≤ (cutG s).1 ∧ (cutG s).1 ≤ 999999 ∧ -999999 ≤ (cutG s).2 ∧ (cutG s).2 ≤ 999999 ∧ txt (cutG s).1 (cutG s).2 = s := by
  unfold okG inZ at h
  simp only [Bool.and_eq_true, decide_eq_true_eq] at h
  exact ⟨h.1.1.1, h.1.1.2, h.1.2.1, h.1.2.2, h.2⟩

/-- The parts of a number of two floats; none: they are none. -/
def pz (x y : Nat) : Option (Int × Int) :=
  match wh x, wh y with
  | some a, some b => some (a, b)
  | _, _ => none
theorem pz_some {x y : Nat} {a b : Int} (h1 : wh x = some a) (h2 : wh y = some b) : pz x y = some (a, b) := by unfold pz; rw [h1, h2]
theorem pz_val {x y : Nat} {p : Int × Int} (h : pz x y = some p) : wh x = some p.1 ∧ wh y = some p.2 := by
  unfold pz at h
  split at h
  · rename_i a b h1 h2
    cases h; exact ⟨h1, h2⟩
  · cases h
theorem pz_none_l {x y : Nat} (h : wh x = none) : pz x y = none := by unfold pz; rw [h]
theorem pz_none_r {x y : Nat} (h : wh y = none) : pz x y = none := by
  unfold pz
  rw [h]
  cases wh x <;> rfl
theorem pz_in {x y : Nat} {p : Int × Int} (h : pz x y = some p) : -999999 ≤ p.1 ∧ p.1 ≤ 999999 ∧ -999999 ≤ p.2 ∧ p.2 ≤ 999999 := by
  obtain ⟨h1, h2⟩ := pz_val h
  exact ⟨(wh_val h1).2.1, (wh_val h1).2.2, (wh_val h2).2.1, (wh_val h2).2.2⟩
/-- The norm. -/
def nrm (p : Option (Int × Int)) : Int := match p with | some q => q.1 * q.1 + q.2 * q.2 | none => -1
theorem sq_bound (a : Int) (h1 : -999999 ≤ a) (h2 : a ≤ 999999) : 0 ≤ a * a ∧ a * a ≤ 999998000001 := by
  constructor
  · rcases Int.le_total 0 a with h | h
    · exact Int.mul_nonneg h h
    · exact Int.mul_nonneg_of_nonpos_of_nonpos h h
  · have h3 : 0 ≤ (999999 - a) * (999999 + a) := Int.mul_nonneg (by omega) (by omega)
    have h4 : (999999 - a) * (999999 + a) = 999998000001 - a * a := by
      rw [Int.sub_mul, Int.mul_add, Int.mul_add, Int.mul_comm a 999999]; omega
    omega
theorem mul_bound (a b : Int) (h1 : -999999 ≤ a) (h2 : a ≤ 999999) (h3 : -999999 ≤ b) (h4 : b ≤ 999999) : -999998000001 ≤ a * b ∧ a * b ≤ 999998000001 := by
  have sa := sq_bound a h1 h2
  have sb := sq_bound b h3 h4
  have e1 : 0 ≤ (a + b) * (a + b) := by
    rcases Int.le_total 0 (a + b) with h | h
    · exact Int.mul_nonneg h h
    · exact Int.mul_nonneg_of_nonpos_of_nonpos h h
  have e2 : 0 ≤ (a - b) * (a - b) := by
    rcases Int.le_total 0 (a - b) with h | h
    · exact Int.mul_nonneg h h
    · exact Int.mul_nonneg_of_nonpos_of_nonpos h h
  have f1 : (a + b) * (a + b) = a * a + 2 * (a * b) + b * b := by
    rw [Int.add_mul, Int.mul_add, Int.mul_add, Int.mul_comm b a]; omega
  have f2 : (a - b) * (a - b) = a * a - 2 * (a * b) + b * b := by
    rw [Int.sub_mul, Int.mul_sub, Int.mul_sub, Int.mul_comm b a]; omega
  omega
theorem nrm_bound {x y : Nat} : -1 ≤ nrm (pz x y) ∧ nrm (pz x y) ≤ 1999996000002 := by
  cases h : pz x y with
  | none => simp [nrm]
  | some p =>
    have hi := pz_in h
    have s1 := sq_bound p.1 hi.1 hi.2.1
    have s2 := sq_bound p.2 hi.2.2.1 hi.2.2.2
    simp only [nrm]
    omega
/-- Turns. -/
def rot : Nat → Int × Int → Int × Int
  | 0, p => p
  | k + 1, p => rot k (-p.2, p.1)
theorem rot_add : ∀ (j k : Nat) (p : Int × Int), rot (j + k) p = rot k (rot j p)
  | 0, k, p => by simp [rot]
  | j + 1, k, p => by
    rw [show j + 1 + k = (j + k) + 1 by omega]
    simp only [rot]
    exact rot_add j k _
theorem rot_four (p : Int × Int) : rot 4 p = p := by simp [rot]
theorem rot_in : ∀ (k : Nat) (p : Int × Int), (-999999 ≤ p.1 ∧ p.1 ≤ 999999 ∧ -999999 ≤ p.2 ∧ p.2 ≤ 999999) → -999999 ≤ (rot k p).1 ∧ (rot k p).1 ≤ 999999 ∧ -999999 ≤ (rot k p).2 ∧ (rot k p).2 ≤ 999999
  | 0, p, h => h
  | k + 1, p, h => rot_in k (-p.2, p.1) ⟨by simp; omega, by simp; omega, by simp; omega, by simp; omega⟩
theorem rot_nrm : ∀ (k : Nat) (p : Int × Int), nrm (some (rot k p)) = nrm (some p)
  | 0, _ => rfl
  | k + 1, p => by
    have := rot_nrm k (-p.2, p.1)
    simp only [nrm, rot] at this ⊢
    rw [this, Int.neg_mul_neg]; omega
/-- n turns, also backward. -/
def trn (n : Int) (p : Option (Int × Int)) : Int × Int := match p with | some q => rot (n % 4).toNat q | none => (0, 0)
def errZ (p : Option (Int × Int)) : Int := match p with | some _ => 0 | none => 140
/-- The product. -/
def prod (p q : Int × Int) : Int × Int := (p.1 * q.1 - p.2 * q.2, p.1 * q.2 + p.2 * q.1)
def tim (p q : Option (Int × Int)) : Int × Int := match p, q with | some a, some b => if inZ (prod a b).1 && inZ (prod a b).2 then prod a b else (0, 0) | _, _ => (0, 0)
def timE (p q : Option (Int × Int)) : Int := match p, q with | some a, some b => if inZ (prod a b).1 && inZ (prod a b).2 then 0 else 3 | _, _ => 140
/-- The order. -/
def reZ (p : Option (Int × Int)) : Int := match p with | some q => q.1 | none => 0
def imZ (p : Option (Int × Int)) : Int := match p with | some q => q.2 | none => 0
def cm3 (m n a c b d : Int) : Int := if m < n then -1 else if n < m then 1 else if a < c then -1 else if c < a then 1 else if b < d then -1 else if d < b then 1 else 0
def cmpG (p q : Option (Int × Int)) : Int := cm3 (nrm p) (nrm q) (reZ p) (reZ q) (imZ p) (imZ q)
theorem cm3_vals (m n a c b d : Int) : cm3 m n a c b d = -1 ∨ cm3 m n a c b d = 0 ∨ cm3 m n a c b d = 1 := by
  unfold cm3
  repeat' split
  all_goals simp
theorem cm3_neg (m n a c b d : Int) : cm3 n m c a d b = - cm3 m n a c b d := by
  unfold cm3
  repeat' split
  all_goals omega
theorem cm3_zero (m n a c b d : Int) : cm3 m n a c b d = 0 ↔ m = n ∧ a = c ∧ b = d := by
  unfold cm3
  repeat' split
  all_goals omega
theorem cm3_le (m n a c b d : Int) : cm3 m n a c b d ≤ 0 ↔ m < n ∨ (m = n ∧ (a < c ∨ (a = c ∧ b ≤ d))) := by
  unfold cm3
  repeat' split
  all_goals omega
theorem cm3_trans (m n o a c e b d f : Int) (h1 : cm3 m n a c b d ≤ 0) (h2 : cm3 n o c e d f ≤ 0) : cm3 m o a e b f ≤ 0 := by
  rw [cm3_le] at *
  omega
theorem prod_comm (p q : Int × Int) : prod p q = prod q p := by
  unfold prod
  rw [Int.mul_comm p.1 q.1, Int.mul_comm p.2 q.2, Int.mul_comm p.1 q.2, Int.mul_comm p.2 q.1, Int.add_comm (q.2 * p.1)]
theorem prod_nrm (p q : Int × Int) : nrm (some (prod p q)) = nrm (some p) * nrm (some q) := by
  simp only [nrm, prod]
  generalize p.1 = a
  generalize p.2 = b
  generalize q.1 = c
  generalize q.2 = d
  grind
end Go.Proofs.YtefobkgifigclaaGreatDoor.S14
