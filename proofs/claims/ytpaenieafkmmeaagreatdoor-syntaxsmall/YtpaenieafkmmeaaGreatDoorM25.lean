/- The landed gauss: whole, Fits, unsigned, Norm, Turn, Times, Cmp. -/
import Derived.Test.YtpaenieafkmmeaaGreatDoorM23
import Derived.Test.YtpaenieafkmmeaaGreatDoorM24
import Derived.Handy
namespace Go.Proofs.YtpaenieafkmmeaaGreatDoor.S14
set_option maxRecDepth 100000
open Go.RowKit

/-- Two floats, as a complex number. -/
abbrev cc (x y : Nat) : Value := .complex .f64 x y
/-- Two floats that are whole numbers. -/
def IsZ (x y : Nat) (p : Int × Int) : Prop := S x = some (p.1 * K) ∧ S y = some (p.2 * K)
theorem isZ_of (a b : Int) (h1 : -999999 ≤ a) (h2 : a ≤ 999999) (h3 : -999999 ≤ b) (h4 : b ≤ 999999) : IsZ (floatOfInt .f64 a) (floatOfInt .f64 b) (a, b) := ⟨S_ofInt a (by omega), S_ofInt b (by omega)⟩
theorem trn_in (n : Int) (x y : Nat) : -999999 ≤ (trn n (pz x y)).1 ∧ (trn n (pz x y)).1 ≤ 999999 ∧ -999999 ≤ (trn n (pz x y)).2 ∧ (trn n (pz x y)).2 ≤ 999999 := by
  cases h : pz x y with
  | none => simp [trn]
  | some p => exact rot_in _ p (pz_in h)
theorem tim_bnd (x y u v : Nat) : -999999 ≤ (tim (pz x y) (pz u v)).1 ∧ (tim (pz x y) (pz u v)).1 ≤ 999999 ∧ -999999 ≤ (tim (pz x y) (pz u v)).2 ∧ (tim (pz x y) (pz u v)).2 ≤ 999999 := by
  cases h : pz x y with
  | none => simp [tim]
  | some p =>
    cases h2 : pz u v with
    | none => simp [tim]
    | some q =>
      simp only [tim]
      split
      · rename_i hz
        simp only [inZ, Bool.and_eq_true, decide_eq_true_eq] at hz
        omega
      · simp
theorem parG_in (s : List Int) : -999999 ≤ (parG s).1 ∧ (parG s).1 ≤ 999999 ∧ -999999 ≤ (parG s).2 ∧ (parG s).2 ≤ 999999 := by
  unfold parG
  split
  · rename_i h
    have := ok_in h
    omega
  · simp
theorem order_nan_l {x y : Nat} {s : Bool} {f : Nat} (h : Ieee.double.read x = .nan s f) : Ieee.double.order x y = none := by
  unfold Ieee.Format.order
  rw [h]
  cases Ieee.double.read y <;> rfl
/-- Of any float: it is no number, or too small; too great; or one with a whole part. -/
theorem whole_cases (x : Nat) : (wh x = none ∧ (FloatKind.f64.format.order x 13920209174949527552 = none ∨ FloatKind.f64.format.order x 13920209174949527552 = some .lt))
    ∨ (wh x = none ∧ (FloatKind.f64.format.order x 13920209174949527552 = some .gt ∨ FloatKind.f64.format.order x 13920209174949527552 = some .eq) ∧ FloatKind.f64.format.order x 4696837138094751744 = some .gt)
    ∨ (∃ t, floatToIntVal .f64 x .i64 = some t ∧ (FloatKind.f64.format.order x 13920209174949527552 = some .gt ∨ FloatKind.f64.format.order x 13920209174949527552 = some .eq) ∧ (FloatKind.f64.format.order x 4696837138094751744 = some .lt ∨ FloatKind.f64.format.order x 4696837138094751744 = some .eq)
      ∧ ((wh x = some t ∧ FloatKind.f64.format.order x (floatOfInt .f64 t) = some .eq) ∨ (wh x = none ∧ (FloatKind.f64.format.order x (floatOfInt .f64 t) = some .lt ∨ FloatKind.f64.format.order x (floatOfInt .f64 t) = some .gt)))) := by
  cases hr : Ieee.double.read x with
  | nan s f => exact .inl ⟨wh_none_of (x := x) (by unfold S; rw [hr]; rfl), .inl (order_nan_l hr)⟩
  | infinity s =>
    have h2 : FloatKind.f64.format.order x 13920209174949527552 = some (if s then .lt else .gt) := order_inf_num hr S_lo
    have h3 : FloatKind.f64.format.order x 4696837138094751744 = some (if s then .lt else .gt) := order_inf_num hr S_hi
    have hw := wh_none_of (x := x) (by unfold S; rw [hr]; rfl)
    cases s
    · exact .inr (.inl ⟨hw, .inl h2, h3⟩)
    · exact .inl ⟨hw, .inr h2⟩
  | number s m e =>
    obtain ⟨v, hv⟩ : ∃ v, S x = some v := ⟨_, by unfold S; rw [hr]; rfl⟩
    have h2 : FloatKind.f64.format.order x 13920209174949527552 = some (compare v (-999999 * K)) := order_S hv S_lo
    have h3 : FloatKind.f64.format.order x 4696837138094751744 = some (compare v (999999 * K)) := order_S hv S_hi
    rcases (Int.lt_or_le v (-999999 * K)) with l1 | l1
    · rw [cmp_lt l1] at h2
      exact .inl ⟨wh_low hv l1, .inr h2⟩
    · have h2' : FloatKind.f64.format.order x 13920209174949527552 = some .gt ∨ FloatKind.f64.format.order x 13920209174949527552 = some .eq := by
        rw [h2]
        rcases Int.lt_or_eq_of_le l1 with h | h
        · rw [cmp_gt h]; exact .inl rfl
        · rw [h, cmp_eq]; exact .inr rfl
      rcases (Int.lt_or_le (999999 * K) v) with l2 | l2
      · rw [cmp_gt l2] at h3
        exact .inr (.inl ⟨wh_high hv l2, h2', h3⟩)
      · have h3' : FloatKind.f64.format.order x 4696837138094751744 = some .lt ∨ FloatKind.f64.format.order x 4696837138094751744 = some .eq := by
          rw [h3]
          rcases Int.lt_or_eq_of_le l2 with h | h
          · rw [cmp_lt h]; exact .inl rfl
          · rw [h, cmp_eq]; exact .inr rfl
        obtain ⟨t, t1, t2, t3⟩ := trunc_num s m e (read_place hr)
        have hS : v = Ieee.signed s m (e + 1074).toNat := by
          have : S x = some (Ieee.signed s m (e + 1074).toNat) := by unfold S; rw [hr]; rfl
          rw [hv] at this
          exact Option.some.inj this
        rw [← hS] at t2 t3
        obtain ⟨b1, b2⟩ := t3 999999 (by rw [← Int.neg_mul]; omega) (by omega)
        have hcv : floatToIntVal .f64 x .i64 = some t := by
          unfold floatToIntVal
          have : (FloatKind.f64.decode x).toInt .zero = some t := by
            show (Ieee.double.read x).toInt .zero = some t
            rw [hr]; exact t1
          rw [this]
          simp only
          rw [if_pos (by constructor <;> simp [IntKind.min, IntKind.max, IntKind.signed, IntKind.bits] <;> omega)]
        have h4 : FloatKind.f64.format.order x (floatOfInt .f64 t) = some (compare v (t * K)) := order_S hv (S_ofInt t (by omega))
        refine .inr (.inr ⟨t, hcv, h2', h3', ?_⟩)
        by_cases hq : v = t * K
        · left
          rw [hq, cmp_eq] at h4
          exact ⟨wh_some (by rw [hv, hq]) b1 b2, h4⟩
        · right
          refine ⟨?_, ?_⟩
          · cases hw : wh x with
            | none => rfl
            | some k =>
              have hk := (wh_val hw).1
              rw [hv] at hk
              have hk2 := Option.some.inj hk
              have := t2 k hk2
              rw [this] at hq
              exact absurd hk2 hq
          · rw [h4]
            rcases Int.lt_trichotomy v (t * K) with h | h | h
            · rw [cmp_lt h]; exact .inl rfl
            · exact absurd h hq
            · rw [cmp_gt h]; exact .inr rfl
/-- The int of a float that is a whole number. -/
theorem toInt_of {x : Nat} {p : Int} (h : S x = some (p * K)) (h1 : -999999 ≤ p) (h2 : p ≤ 999999) : floatToIntVal .f64 x .i64 = some p := by
  have hw := wh_some h h1 h2
  rcases whole_cases x with ⟨hn, _⟩ | ⟨hn, _⟩ | ⟨t, ht, _, _, ⟨hn, _⟩ | ⟨hn, _⟩⟩
  · rw [hw] at hn; cases hn
  · rw [hw] at hn; cases hn
  · rw [hw] at hn
    cases hn
    exact ht
  · rw [hw] at hn; cases hn
theorem conv_of {x : Nat} {t : Int} (h : floatToIntVal .f64 x .i64 = some t) (W : World) : (convert 65 3 (.float .f64 x)).run Tryz.prog W = .ok (.int .i64 t) W :=
  run_convert_float_int W 65 3 .f64 .i64 x t (by rw [Tryz.underlying65]; rfl) Tryz.underlying3 h
theorem pz_of {x y : Nat} {p q : Int} (hx : S x = some (p * K)) (hy : S y = some (q * K)) (h1 : -999999 ≤ p) (h2 : p ≤ 999999) (h3 : -999999 ≤ q) (h4 : q ≤ 999999) : pz x y = some (p, q) := pz_some (wh_some hx h1 h2) (wh_some hy h3 h4)
theorem wh_out {x : Nat} {p : Int} (hx : S x = some (p * K)) (h : inZ p = false) : wh x = none := by
  cases hw : wh x with
  | none => rfl
  | some k =>
    obtain ⟨h1, h2, h3⟩ := wh_val hw
    rw [hx] at h1
    have := Int.eq_of_mul_eq_mul_right (Int.ne_of_gt K_pos) (Option.some.inj h1)
    subst this
    rw [inZ_yes h2 h3] at h
    cases h
theorem i64_and3 (n : Int) : bits .and .i64 n 3 = n % 4 := by
  show IntKind.i64.wrap ((BitVec.ofInt 64 n &&& BitVec.ofInt 64 3).toNat : Int) = _
  have e3 : (BitVec.ofInt 64 3).toNat = 3 := by decide
  rw [BitVec.toNat_and, e3, show (3 : Nat) = 2 ^ 2 - 1 by decide, Nat.and_two_pow_sub_one_eq_mod, BitVec.toNat_ofInt]
  rw [wrap_in (by omega) (by omega)]
  omega
end Go.Proofs.YtpaenieafkmmeaaGreatDoor.S14
/- The landed gauss: Cmp, over the library's Compare. -/
namespace Go.Proofs.YtpaenieafkmmeaaGreatDoor.S14
set_option maxRecDepth 100000
open Go.RowKit

/-- -1, 0 or 1. -/
def cI (a b : Int) : Int := if a < b then -1 else if b < a then 1 else 0
theorem cI_lt {a b : Int} (h : a < b) : cI a b = -1 := if_pos h
theorem cI_gt {a b : Int} (h : b < a) : cI a b = 1 := by unfold cI; rw [if_neg (by omega), if_pos h]
theorem cI_eq (a : Int) : cI a a = 0 := by unfold cI; rw [if_neg (by omega), if_neg (by omega)]
theorem order_self {x : Nat} {a : Int} (hx : S x = some (a * K)) : FloatKind.f64.format.order x x = some .eq := by
  have := order_S hx hx
  rw [cmp_eq] at this
  exact this
end Go.Proofs.YtpaenieafkmmeaaGreatDoor.S14
