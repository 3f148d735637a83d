/- The landed gauss: whole, Fits, unsigned, Norm, Turn, Times, Cmp. -/
import Derived.Test.YtefobkgifigclaaGreatDoorM22
import Derived.Test.YtefobkgifigclaaGreatDoorM23
import Derived.Handy
namespace Go.Proofs.YtefobkgifigclaaGreatDoor.S14
set_option maxRecDepth 100000
open Go.RowKit

/-- Two floats, as a complex number. -/
abbrev cc (x y : Nat) : Value := .complex .f64 x y
/-- Two floats that are whole numbers. -/
def IsZ (x y : Nat) (p : Int × Int) : Prop := S x = some (p.1 * K) ∧ S y = some (p.2 * K)
theorem isZ_of (a b : Int) (h1 : -999999 ≤ a) (h2 : a ≤ 999999) (h3 : -999999 ≤ b) (h4 : b ≤ 999999) : IsZ (floatOfInt .f64 a) (floatOfInt .f64 b) (a, b) := ⟨S_ofInt a (by omega), S_ofInt b (by omega)⟩
theorem trn_in (n : Int) (x y : Nat) : -999999 ≤ (trn n (pz x y)).1 ∧ (trn n (pz x y)).1 ≤ 999999 ∧ -999999 ≤ (trn n (pz x y)).2 ∧ (trn n (pz x y)).2 ≤ 999999 := by
  cases h : pz x y with
  | none => simp [trn]
  | some p => exact rot_in _ p (pz_in h)
theorem tim_bnd (x y u v : Nat) : -999999 ≤ (tim (pz x y) (pz u v)).1 ∧ (tim (pz x y) (pz u v)).1 ≤ 999999 ∧ -999999 ≤ (tim (pz x y) (pz u v)).2 ∧ (tim (pz x y) (pz u v)).2 ≤ 999999 := by
  cases h : pz x y with
  | none => simp [tim]
  | some p =>
    cases h2 : pz u v with
    | none => simp [tim]
    | some q =>
      simp only [tim]
      split
      · rename_i hz
        simp only [inZ, Bool.and_eq_true, decide_eq_true_eq] at hz
        omega
      · simp
theorem parG_in (s : List Int) : -999999 ≤ (parG s).1 ∧ (parG s).1 ≤ 999999 ∧ -999999 ≤ (parG s).2 ∧ (parG s).2 ≤ 999999 := by
  unfold parG
  split
  · rename_i h
    have := ok_in h
    omega
  · simp
theorem order_nan_l {x y : Nat} {s : Bool} {f : Nat} (h : Ieee.double.read x = .nan s f) : Ieee.double.order x y = none := by
  unfold Ieee.Format.order
  rw [h]
  cases Ieee.double.read y <;> rfl
/-- Of any float: it is no number, or too small; too great; or one with a whole part. -/
theorem whole_cases (x : Nat) : (wh x = none ∧ (FloatKind.f64.format.order x 13920209174949527552 = none ∨ FloatKind.f64.format.order x 13920209174949527552 = some .lt))
    ∨ (wh x = none ∧ (FloatKind.f64.format.order x 13920209174949527552 = some .gt ∨ FloatKind.f64.format.order x 13920209174949527552 = some .eq) ∧ FloatKind.f64.format.order x 4696837138094751744 = some .gt)
    ∨ (∃ t, floatToIntVal .f64 x .i64 = some t ∧ (FloatKind.f64.format.order x 13920209174949527552 = some .gt ∨ FloatKind.f64.format.order x 13920209174949527552 = some .eq) ∧ (FloatKind.f64.format.order x 4696837138094751744 = some .lt ∨ FloatKind.f64.format.order x 4696837138094751744 = some .eq)
      ∧ ((wh x = some t ∧ FloatKind.f64.format.order x (floatOfInt .f64 t) = some .eq) ∨ (wh x = none ∧ (FloatKind.f64.format.order x (floatOfInt .f64 t) = some .lt ∨ FloatKind.f64.format.order x (floatOfInt .f64 t) = some .gt)))) := by
  cases hr : Ieee.double.read x with
  | nan s f => exact .inl ⟨wh_none_of (x := x) (by unfold S; rw [hr]; rfl), .inl (order_nan_l hr)⟩
  | infinity s =>
    have h2 : FloatKind.f64.format.order x 13920209174949527552 = some (if s then .lt else .gt) := order_inf_num hr S_lo
    have h3 : FloatKind.f64.format.order x 4696837138094751744 = some (if s then .lt else .gt) := order_inf_num hr S_hi
    have hw := wh_none_of (x := x) (by unfold S; rw [hr]; rfl)
    cases s
    · exact .inr (.inl ⟨hw, .inl h2, h3⟩)
    · exact .inl ⟨hw, .inr h2⟩
  | number s m e =>
    obtain ⟨v, hv⟩ : ∃ v, S x = some v := ⟨_, by unfold S; rw [hr]; rfl⟩
    have h2 : FloatKind.f64.format.order x 13920209174949527552 = some (compare v (-999999 * K)) := order_S hv S_lo
    have h3 : FloatKind.f64.format.order x 4696837138094751744 = some (compare v (999999 * K)) := order_S hv S_hi
    rcases (Int.lt_or_le v (-999999 * K)) with l1 | l1
    · rw [cmp_lt l1] at h2
      exact .inl ⟨wh_low hv l1, .inr h2⟩
    · have h2' : FloatKind.f64.format.order x 13920209174949527552 = some .gt ∨ FloatKind.f64.format.order x 13920209174949527552 = some .eq := by
        rw [h2]
        rcases Int.lt_or_eq_of_le l1 with h | h
        · rw [cmp_gt h]; exact .inl rfl
        · rw [h, cmp_eq]; exact .inr rfl
      rcases (Int.lt_or_le (999999 * K) v) with l2 | l2
      · rw [cmp_gt l2] at h3
        exact .inr (.inl ⟨wh_high hv l2, h2', h3⟩)
      · have h3' : FloatKind.f64.format.order x 4696837138094751744 = some .lt ∨ FloatKind.f64.format.order x 4696837138094751744 = some .eq := by
          rw [h3]
          rcases Int.lt_or_eq_of_le l2 with h | h
          · rw [cmp_lt h]; exact .inl rfl
          · rw [h, cmp_eq]; exact .inr rfl
        obtain ⟨t, t1, t2, t3⟩ := trunc_num s m e (read_place hr)
        have hS : v = Ieee.signed s m (e + 1074).toNat := by
          have : S x = some (Ieee.signed s m (e + 1074).toNat) := by unfold S; rw [hr]; rfl
          rw [hv] at this
          exact Option.some.inj this
        rw [← hS] at t2 t3
        obtain ⟨b1, b2⟩ := t3 999999 (by rw [← Int.neg_mul]; omega) (by omega)
        have hcv : floatToIntVal .f64 x .i64 = some t := by
          unfold floatToIntVal
          have : (FloatKind.f64.decode x).toInt .zero = some t := by
            show (Ieee.double.read x).toInt .zero = some t
            rw [hr]; exact t1
          rw [this]
          simp only
          rw [if_pos (by constructor <;> simp [IntKind.min, IntKind.max, IntKind.signed, IntKind.bits] <;> omega)]
        have h4 : FloatKind.f64.format.order x (floatOfInt .f64 t) = some (compare v (t * K)) := order_S hv (S_ofInt t (by omega))
        refine .inr (.inr ⟨t, hcv, h2', h3', ?_⟩)
        by_cases hq : v = t * K
        · left
          rw [hq, cmp_eq] at h4
          exact ⟨wh_some (by rw [hv, hq]) b1 b2, h4⟩
        · right
          refine ⟨?_, ?_⟩
          · cases hw : wh x with
            | none => rfl
            | some k =>
              have hk := (wh_val hw).1
              rw [hv] at hk
              have hk2 := Option.some.inj hk
              have := t2 k hk2
              rw [this] at hq
              exact absurd hk2 hq
          · rw [h4]
            rcases Int.lt_trichotomy v (t * K) with h | h | h
            · rw [cmp_lt h]; exact .inl rfl
            · exact absurd h hq
            · rw [cmp_gt h]; exact .inr rfl
/-- The int of a float that is a whole number. -/
theorem toInt_of {x : Nat} {p : Int} (h : S x = some (p * K)) (h1 : -999999 ≤ p) (h2 : p ≤ 999999) : floatToIntVal .f64 x .i64 = some p := by
  have hw := wh_some h h1 h2
  rcases whole_cases x with ⟨hn, _⟩ | ⟨hn, _⟩ | ⟨t, ht, _, _, ⟨hn, _⟩ | ⟨hn, _⟩⟩
  · rw [hw] at hn; cases hn
  · rw [hw] at hn; cases hn
  · rw [hw] at hn
    cases hn
    exact ht
  · rw [hw] at hn; cases hn
theorem conv_of {x : Nat} {t : Int} (h : floatToIntVal .f64 x .i64 = some t) (W : World) : (convert 70 3 (.float .f64 x)).run Tryz.prog W = .ok (.int .i64 t) W :=
  run_convert_float_int W 70 3 .f64 .i64 x t (by rw [Tryz.underlying70]; rfl) Tryz.underlying3 h
set_option maxHeartbeats 800000 in
theorem gwhole_any (x : Nat) (w : World) : Calls Tryz.prog 53 #[.float .f64 x] w fun e w' => e = .returned (.bool (wh x).isSome) ∧ w' = w := by
  rcases whole_cases x with ⟨hn, h1⟩ | ⟨hn, h1, h2⟩ | ⟨t, ht, h1, h2, h3⟩
  · rw [hn]
    clear hn
    rcases h1 with h1 | h1
    all_goals
      go_enter Tryz.func53, Tryz.ntmps53
      go_wp2
      go_ret
      exact ⟨rfl, rfl⟩
  · rw [hn]
    clear hn
    rcases h1 with h1 | h1
    all_goals
      go_enter Tryz.func53, Tryz.ntmps53
      go_wp2
      go_ret
      exact ⟨rfl, rfl⟩
  · have hcv := conv_of ht
    clear ht
    rcases h3 with ⟨hn, h3⟩ | ⟨hn, h3 | h3⟩
    all_goals
      rw [hn]
      clear hn
      rcases h1 with h1 | h1 <;> rcases h2 with h2 | h2
      all_goals
        go_enter Tryz.func53, Tryz.ntmps53
        go_wp2
        go_ret
        exact ⟨rfl, rfl⟩
set_option maxHeartbeats 400000 in
theorem gfits_w (x y : Nat) (w : World) : Calls Tryz.prog 32 #[cc x y] w fun e w' => e = .returned (.bool (pz x y).isSome) ∧ w' = w := by
  have e : (pz x y).isSome = ((wh x).isSome && (wh y).isSome) := by unfold pz; cases wh x <;> cases wh y <;> rfl
  rw [e]
  have H1 := hide (fun W => gwhole_any x W)
  have H2 := hide (fun W => gwhole_any y W)
  clear e
  generalize (wh x).isSome = b1 at *
  generalize (wh y).isSome = b2 at *
  cases b1
  · go_enter Tryz.func32, Tryz.ntmps32
    go_wp2_with (go_at_call 53; refine (unhide H1 _).mono ?_; rintro e w1 ⟨rfl, rfl⟩)
    go_ret
    exact ⟨rfl, rfl⟩
  · go_enter Tryz.func32, Tryz.ntmps32
    go_wp2_with (first | (go_at_call 53; have m1 := k1; refine (unhide H2 _).mono ?_; rintro e w1 ⟨rfl, rfl⟩) | (go_at_call 53; refine (unhide H1 _).mono ?_; rintro e w1 ⟨rfl, rfl⟩; have k1 : True := trivial))
    go_ret
    exact ⟨ret_bool (by simp), rfl⟩
theorem gfits_yes {x y : Nat} {p : Int × Int} (h : pz x y = some p) (w : World) : Calls Tryz.prog 32 #[cc x y] w fun e w' => e = .returned (.bool true) ∧ w' = w := by
  have := gfits_w x y w
  rw [h] at this
  exact this
theorem gfits_no {x y : Nat} (h : pz x y = none) (w : World) : Calls Tryz.prog 32 #[cc x y] w fun e w' => e = .returned (.bool false) ∧ w' = w := by
  have := gfits_w x y w
  rw [h] at this
  exact this
theorem pz_of {x y : Nat} {p q : Int} (hx : S x = some (p * K)) (hy : S y = some (q * K)) (h1 : -999999 ≤ p) (h2 : p ≤ 999999) (h3 : -999999 ≤ q) (h4 : q ≤ 999999) : pz x y = some (p, q) := pz_some (wh_some hx h1 h2) (wh_some hy h3 h4)
theorem wh_out {x : Nat} {p : Int} (hx : S x = some (p * K)) (h : inZ p = false) : wh x = none := by
  cases hw : wh x with
  | none => rfl
  | some k =>
    obtain ⟨h1, h2, h3⟩ := wh_val hw
    rw [hx] at h1
    have := Int.eq_of_mul_eq_mul_right (Int.ne_of_gt K_pos) (Option.some.inj h1)
    subst this
    rw [inZ_yes h2 h3] at h
    cases h
set_option maxHeartbeats 400000 in
theorem gnorm_w (x y : Nat) (w : World) : Calls Tryz.prog 20 #[cc x y] w fun e w' => e = .returned (.int .i64 (nrm (pz x y))) ∧ w' = w := by
  cases hp : pz x y with
  | none =>
    have HP := hide (fun W => gfits_no hp W)
    clear hp
    go_enter Tryz.func20, Tryz.ntmps20
    go_wp2_with (go_at_call 32; refine (unhide HP _).mono ?_; rintro e w1 ⟨rfl, rfl⟩)
    go_ret
    exact ⟨rfl, rfl⟩
  | some q =>
    obtain ⟨a, b⟩ := q
    have hi := pz_in hp
    have hv := pz_val hp
    have c1 := conv_of (toInt_of (wh_val hv.1).1 hi.1 hi.2.1)
    have c2 := conv_of (toInt_of (wh_val hv.2).1 hi.2.2.1 hi.2.2.2)
    have HP := hide (fun W => gfits_yes hp W)
    have s1 := sq_bound a hi.1 hi.2.1
    have s2 := sq_bound b hi.2.2.1 hi.2.2.2
    have w1 : IntKind.i64.wrap (a * a) = a * a := wrap_in (by omega) (by omega)
    have w2 : IntKind.i64.wrap (b * b) = b * b := wrap_in (by omega) (by omega)
    have w3 : IntKind.i64.wrap (a * a + b * b) = a * a + b * b := wrap_in (by omega) (by omega)
    clear hp hi hv s1 s2
    go_enter Tryz.func20, Tryz.ntmps20
    go_wp2_with (go_at_call 32; refine (unhide HP _).mono ?_; rintro e w1 ⟨rfl, rfl⟩)
    go_ret
    exact ⟨rfl, rfl⟩
theorem i64_and3 (n : Int) : bits .and .i64 n 3 = n % 4 := by
  show IntKind.i64.wrap ((BitVec.ofInt 64 n &&& BitVec.ofInt 64 3).toNat : Int) = _
  have e3 : (BitVec.ofInt 64 3).toNat = 3 := by decide
  rw [BitVec.toNat_and, e3, show (3 : Nat) = 2 ^ 2 - 1 by decide, Nat.and_two_pow_sub_one_eq_mod, BitVec.toNat_ofInt]
  rw [wrap_in (by omega) (by omega)]
  omega
end Go.Proofs.YtefobkgifigclaaGreatDoor.S14
/- The landed gauss: Cmp, over the library's Compare. -/
namespace Go.Proofs.YtefobkgifigclaaGreatDoor.S14
set_option maxRecDepth 100000
open Go.RowKit

/-- -1, 0 or 1. -/
def cI (a b : Int) : Int := if a < b then -1 else if b < a then 1 else 0
theorem cI_lt {a b : Int} (h : a < b) : cI a b = -1 := if_pos h
theorem cI_gt {a b : Int} (h : b < a) : cI a b = 1 := by unfold cI; rw [if_neg (by omega), if_pos h]
theorem cI_eq (a : Int) : cI a a = 0 := by unfold cI; rw [if_neg (by omega), if_neg (by omega)]
set_option maxHeartbeats 400000 in
theorem nan_int (a : Int) (w : World) : Calls Tryz.prog 51 #[.int .i64 a] w fun e w' => e = .returned (.bool false) ∧ w' = w := by
  go_enter Tryz.func51, Tryz.ntmps51
  go_wp2
  go_ret
  exact ⟨rfl, rfl⟩
set_option maxHeartbeats 400000 in
theorem nan_flt (x : Nat) (w : World) (h : FloatKind.f64.format.order x x = some .eq) : Calls Tryz.prog 52 #[.float .f64 x] w fun e w' => e = .returned (.bool false) ∧ w' = w := by
  go_enter Tryz.func52, Tryz.ntmps52
  go_wp2
  go_ret
  exact ⟨rfl, rfl⟩
set_option maxHeartbeats 800000 in
theorem cmpi_any (a b : Int) (w : World) : Calls Tryz.prog 30 #[.int .i64 a, .int .i64 b] w fun e w' => e = .returned (.int .i64 (cI a b)) ∧ w' = w := by
  have H1 := hide (fun W => nan_int a W)
  have H2 := hide (fun W => nan_int b W)
  rcases Int.lt_trichotomy a b with h | h | h
  · rw [cI_lt h]
    go_enter Tryz.func30, Tryz.ntmps30
    go_wp2_with (first | (go_at_call 51; have m1 := k1; refine (unhide H2 _).mono ?_; rintro e w1 ⟨rfl, rfl⟩) | (go_at_call 51; refine (unhide H1 _).mono ?_; rintro e w1 ⟨rfl, rfl⟩; have k1 : True := trivial))
    go_ret
    exact ⟨rfl, rfl⟩
  · subst h
    rw [cI_eq a]
    have h1 : ¬ a < a := by omega
    clear H2
    go_enter Tryz.func30, Tryz.ntmps30
    go_wp2_with (go_at_call 51; refine (unhide H1 _).mono ?_; rintro e w1 ⟨rfl, rfl⟩)
    go_ret
    exact ⟨rfl, rfl⟩
  · rw [cI_gt h]
    have h1 : ¬ a < b := by omega
    go_enter Tryz.func30, Tryz.ntmps30
    go_wp2_with (first | (go_at_call 51; have m1 := k1; refine (unhide H2 _).mono ?_; rintro e w1 ⟨rfl, rfl⟩) | (go_at_call 51; refine (unhide H1 _).mono ?_; rintro e w1 ⟨rfl, rfl⟩; have k1 : True := trivial))
    go_ret
    exact ⟨rfl, rfl⟩
theorem order_self {x : Nat} {a : Int} (hx : S x = some (a * K)) : FloatKind.f64.format.order x x = some .eq := by
  have := order_S hx hx
  rw [cmp_eq] at this
  exact this
set_option maxHeartbeats 800000 in
theorem cmpf_any (x y : Nat) (a b : Int) (w : World) (hx : S x = some (a * K)) (hy : S y = some (b * K)) : Calls Tryz.prog 31 #[.float .f64 x, .float .f64 y] w fun e w' => e = .returned (.int .i64 (cI a b)) ∧ w' = w := by
  have H1 := hide (fun W => nan_flt x W (order_self hx))
  have H2 := hide (fun W => nan_flt y W (order_self hy))
  have ho : FloatKind.f64.format.order x y = some (compare (a * K) (b * K)) := order_S hx hy
  rw [cmp_scale _ _ _ K_pos] at ho
  clear hx hy
  rcases Int.lt_trichotomy a b with h | h | h
  · rw [cI_lt h]
    rw [cmp_lt h] at ho
    go_enter Tryz.func31, Tryz.ntmps31
    go_wp2_with (first | (go_at_call 52; have m1 := k1; refine (unhide H2 _).mono ?_; rintro e w1 ⟨rfl, rfl⟩) | (go_at_call 52; refine (unhide H1 _).mono ?_; rintro e w1 ⟨rfl, rfl⟩; have k1 : True := trivial))
    go_ret
    exact ⟨rfl, rfl⟩
  · subst h
    rw [cI_eq a]
    rw [cmp_eq] at ho
    go_enter Tryz.func31, Tryz.ntmps31
    go_wp2_with (first | (go_at_call 52; have m1 := k1; refine (unhide H2 _).mono ?_; rintro e w1 ⟨rfl, rfl⟩) | (go_at_call 52; refine (unhide H1 _).mono ?_; rintro e w1 ⟨rfl, rfl⟩; have k1 : True := trivial))
    go_ret
    exact ⟨rfl, rfl⟩
  · rw [cI_gt h]
    rw [cmp_gt h] at ho
    go_enter Tryz.func31, Tryz.ntmps31
    go_wp2_with (first | (go_at_call 52; have m1 := k1; refine (unhide H2 _).mono ?_; rintro e w1 ⟨rfl, rfl⟩) | (go_at_call 52; refine (unhide H1 _).mono ?_; rintro e w1 ⟨rfl, rfl⟩; have k1 : True := trivial))
    go_ret
    exact ⟨rfl, rfl⟩
set_option maxHeartbeats 1600000 in
theorem gcmp_w (x y u v : Nat) (w : World) : Calls Tryz.prog 19 #[cc x y, cc u v] w fun e w' => e = .returned (.int .i64 (cmpG (pz x y) (pz u v))) ∧ w' = w := by
  have HM := hide (fun W => gnorm_w x y W)
  have HN := hide (fun W => gnorm_w u v W)
  have HE : Hid (cmpG (pz x y) (pz u v) = cm3 (nrm (pz x y)) (nrm (pz u v)) (reZ (pz x y)) (reZ (pz u v)) (imZ (pz x y)) (imZ (pz u v))) := rfl
  rw [unhide HE]
  clear HE
  rcases Int.lt_trichotomy (nrm (pz x y)) (nrm (pz u v)) with c | c | c
  · have HC := hide (fun W => cmpi_any (nrm (pz x y)) (nrm (pz u v)) W)
    rw [cI_lt c] at HC
    have HR : Hid (cm3 (nrm (pz x y)) (nrm (pz u v)) (reZ (pz x y)) (reZ (pz u v)) (imZ (pz x y)) (imZ (pz u v)) = -1) := by show _ = _; unfold cm3; rw [if_pos c]
    rw [unhide HR]
    clear HR c
    go_enter Tryz.func19, Tryz.ntmps19
    go_wp2_with (first | (go_at_call 30; refine (unhide HC _).mono ?_; rintro e w1 ⟨rfl, rfl⟩) | (go_at_call 20; have m1 := k1; refine (unhide HN _).mono ?_; rintro e w1 ⟨rfl, rfl⟩) | (go_at_call 20; refine (unhide HM _).mono ?_; rintro e w1 ⟨rfl, rfl⟩; have k1 : True := trivial))
    go_ret
    exact ⟨rfl, rfl⟩
  · cases hp : pz x y with
    | none =>
      cases hq : pz u v with
      | some q =>
        exfalso
        have hj := pz_in hq
        have s1 := sq_bound q.1 hj.1 hj.2.1
        have s2 := sq_bound q.2 hj.2.2.1 hj.2.2.2
        rw [hp, hq] at c
        simp only [nrm] at c
        omega
      | none =>
        rw [hp] at HM
        rw [hq] at HN
        have HC := hide (fun W => cmpi_any (nrm none) (nrm none) W)
        rw [cI_eq] at HC
        have HR : Hid (cm3 (nrm none) (nrm none) (reZ none) (reZ none) (imZ none) (imZ none) = 0) := by show _ = _; unfold cm3; rw [if_neg (by omega), if_neg (by omega), if_neg (by omega), if_neg (by omega), if_neg (by omega), if_neg (by omega)]
        rw [unhide HR]
        have e : nrm none = -1 := rfl
        rw [e] at HM HN HC
        clear HR c hp hq e
        go_enter Tryz.func19, Tryz.ntmps19
        go_wp2_with (first | (go_at_call 30; refine (unhide HC _).mono ?_; rintro e w1 ⟨rfl, rfl⟩) | (go_at_call 20; have m1 := k1; refine (unhide HN _).mono ?_; rintro e w1 ⟨rfl, rfl⟩) | (go_at_call 20; refine (unhide HM _).mono ?_; rintro e w1 ⟨rfl, rfl⟩; have k1 : True := trivial))
        go_ret
        exact ⟨rfl, rfl⟩
    | some p =>
      obtain ⟨a, b⟩ := p
      have hi := pz_in hp
      have s1 := sq_bound a hi.1 hi.2.1
      have s2 := sq_bound b hi.2.2.1 hi.2.2.2
      cases hq : pz u v with
      | none =>
        exfalso
        rw [hp, hq] at c
        simp only [nrm] at c
        omega
      | some q =>
        obtain ⟨c', d⟩ := q
        have hv := pz_val hp
        have hw := pz_val hq
        simp only at hv hw
        have HF := hide (fun W => cmpf_any x u a c' W (wh_val hv.1).1 (wh_val hw.1).1)
        have HG := hide (fun W => cmpf_any y v b d W (wh_val hv.2).1 (wh_val hw.2).1)
        rw [hp, hq] at c
        rw [hp] at HM
        rw [hq, ← c] at HN
        rw [← c]
        have n0 : ¬ nrm (some (a, b)) < 0 := by simp only [nrm]; omega
        generalize nrm (some (a, b)) = m at *
        show Calls _ _ _ _ fun e w' => e = .returned (.int .i64 (cm3 m m a c' b d)) ∧ w' = w
        have HC := hide (fun W => cmpi_any m m W)
        rw [cI_eq] at HC
        clear hp hq hi s1 s2 hv hw c
        rcases Int.lt_trichotomy a c' with h | h | h
        · rw [cI_lt h] at HF
          have HR : Hid (cm3 m m a c' b d = -1) := by show _ = _; unfold cm3; rw [if_neg (by omega), if_neg (by omega), if_pos h]
          rw [unhide HR]
          clear HR h HG
          go_enter Tryz.func19, Tryz.ntmps19
          go_wp2_with (first | (go_at_call 31; refine (unhide HF _).mono ?_; rintro e w1 ⟨rfl, rfl⟩) | (go_at_call 30; refine (unhide HC _).mono ?_; rintro e w1 ⟨rfl, rfl⟩) | (go_at_call 20; have m1 := k1; refine (unhide HN _).mono ?_; rintro e w1 ⟨rfl, rfl⟩) | (go_at_call 20; refine (unhide HM _).mono ?_; rintro e w1 ⟨rfl, rfl⟩; have k1 : True := trivial))
          go_ret
          exact ⟨rfl, rfl⟩
        · subst h
          rw [cI_eq] at HF
          have HR : Hid (cm3 m m a a b d = cI b d) := by show _ = _; unfold cm3 cI; rw [if_neg (by omega), if_neg (by omega), if_neg (by omega), if_neg (by omega)]
          rw [unhide HR]
          clear HR
          generalize cI b d = r at *
          go_enter Tryz.func19, Tryz.ntmps19
          go_wp2_with (first | (go_at_call 31; have m1 := k2; refine (unhide HG _).mono ?_; rintro e w1 ⟨rfl, rfl⟩) | (go_at_call 31; refine (unhide HF _).mono ?_; rintro e w1 ⟨rfl, rfl⟩; have k2 : True := trivial) | (go_at_call 30; refine (unhide HC _).mono ?_; rintro e w1 ⟨rfl, rfl⟩) | (go_at_call 20; have m1 := k1; refine (unhide HN _).mono ?_; rintro e w1 ⟨rfl, rfl⟩) | (go_at_call 20; refine (unhide HM _).mono ?_; rintro e w1 ⟨rfl, rfl⟩; have k1 : True := trivial))
          go_ret
          exact ⟨rfl, rfl⟩
        · rw [cI_gt h] at HF
          have HR : Hid (cm3 m m a c' b d = 1) := by show _ = _; unfold cm3; rw [if_neg (by omega), if_neg (by omega), if_neg (by omega), if_pos h]
          rw [unhide HR]
          clear HR h HG
          go_enter Tryz.func19, Tryz.ntmps19
          go_wp2_with (first | (go_at_call 31; refine (unhide HF _).mono ?_; rintro e w1 ⟨rfl, rfl⟩) | (go_at_call 30; refine (unhide HC _).mono ?_; rintro e w1 ⟨rfl, rfl⟩) | (go_at_call 20; have m1 := k1; refine (unhide HN _).mono ?_; rintro e w1 ⟨rfl, rfl⟩) | (go_at_call 20; refine (unhide HM _).mono ?_; rintro e w1 ⟨rfl, rfl⟩; have k1 : True := trivial))
          go_ret
          exact ⟨rfl, rfl⟩
  · have HC := hide (fun W => cmpi_any (nrm (pz x y)) (nrm (pz u v)) W)
    rw [cI_gt c] at HC
    have HR : Hid (cm3 (nrm (pz x y)) (nrm (pz u v)) (reZ (pz x y)) (reZ (pz u v)) (imZ (pz x y)) (imZ (pz u v)) = 1) := by show _ = _; unfold cm3; rw [if_neg (by omega), if_pos c]
    rw [unhide HR]
    clear HR c
    go_enter Tryz.func19, Tryz.ntmps19
    go_wp2_with (first | (go_at_call 30; refine (unhide HC _).mono ?_; rintro e w1 ⟨rfl, rfl⟩) | (go_at_call 20; have m1 := k1; refine (unhide HN _).mono ?_; rintro e w1 ⟨rfl, rfl⟩) | (go_at_call 20; refine (unhide HM _).mono ?_; rintro e w1 ⟨rfl, rfl⟩; have k1 : True := trivial))
    go_ret
    exact ⟨rfl, rfl⟩
end Go.Proofs.YtefobkgifigclaaGreatDoor.S14
