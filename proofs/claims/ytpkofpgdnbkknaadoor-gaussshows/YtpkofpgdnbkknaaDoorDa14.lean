/- The landed gauss: whole, Fits, unsigned, Norm, Turn, Times, Cmp. -/
import Derived.Test.YtpkofpgdnbkknaaDoorRPar14
import Derived.Test.YtpkofpgdnbkknaaDoorFltx
import Derived.Handy
namespace Go.Proofs.YtpkofpgdnbkknaaDoor
open Go.RowKit

/-- Two floats, as a complex number. -/
abbrev cc (x y : Nat) : Value := .complex .f64 x y
/-- Two floats that are whole numbers. -/
def IsZ (x y : Nat) (p : Int × Int) : Prop := S x = some (p.1 * K) ∧ S y = some (p.2 * K)
theorem isZ_of (a b : Int) (h1 : -999999 ≤ a) (h2 : a ≤ 999999) (h3 : -999999 ≤ b) (h4 : b ≤ 999999) : IsZ (floatOfInt .f64 a) (floatOfInt .f64 b) (a, b) := ⟨S_ofInt a (by omega), S_ofInt b (by omega)⟩
theorem trn_in (n : Int) (x y : Nat) : -999999 ≤ (trn n (pz x y)).1 ∧ (trn n (pz x y)).1 ≤ 999999 ∧ -999999 ≤ (trn n (pz x y)).2 ∧ (trn n (pz x y)).2 ≤ 999999 := by
  cases h : pz x y with
  | none => simp [trn]
  | some p => exact rot_in _ p (pz_in h)
theorem tim_bnd (x y u v : Nat) : -999999 ≤ (tim (pz x y) (pz u v)).1 ∧ (tim (pz x y) (pz u v)).1 ≤ 999999 ∧ -999999 ≤ (tim (pz x y) (pz u v)).2 ∧ (tim (pz x y) (pz u v)).2 ≤ 999999 := by
  cases h : pz x y with
  | none => simp [tim]
  | some p =>
    cases h2 : pz u v with
    | none => simp [tim]
    | some q =>
      simp only [tim]
      split
      · rename_i hz
        simp only [inZ, Bool.and_eq_true, decide_eq_true_eq] at hz
        omega
      · simp
theorem parG_in (s : List Int) : -999999 ≤ (parG s).1 ∧ (parG s).1 ≤ 999999 ∧ -999999 ≤ (parG s).2 ∧ (parG s).2 ≤ 999999 := by
  unfold parG
  split
  · rename_i h
    have := ok_in h
    omega
  · simp
theorem order_nan_l {x y : Nat} {s : Bool} {f : Nat} (h : Ieee.double.read x = .nan s f) : Ieee.double.order x y = none := by
  unfold Ieee.Format.order
  rw [h]
  cases Ieee.double.read y <;> rfl
/-- Of any float: it is no number, or too small; too great; or one with a whole part. -/
theorem whole_cases (x : Nat) : (wh x = none ∧ (FloatKind.f64.format.order x 13920209174949527552 = none ∨ FloatKind.f64.format.order x 13920209174949527552 = some .lt))
    ∨ (wh x = none ∧ (FloatKind.f64.format.order x 13920209174949527552 = some .gt ∨ FloatKind.f64.format.order x 13920209174949527552 = some .eq) ∧ FloatKind.f64.format.order x 4696837138094751744 = some .gt)
    ∨ (∃ t, floatToIntVal .f64 x .i64 = some t ∧ (FloatKind.f64.format.order x 13920209174949527552 = some .gt ∨ FloatKind.f64.format.order x 13920209174949527552 = some .eq) ∧ (FloatKind.f64.format.order x 4696837138094751744 = some .lt ∨ FloatKind.f64.format.order x 4696837138094751744 = some .eq)
      ∧ ((wh x = some t ∧ FloatKind.f64.format.order x (floatOfInt .f64 t) = some .eq) ∨ (wh x = none ∧ (FloatKind.f64.format.order x (floatOfInt .f64 t) = some .lt ∨ FloatKind.f64.format.order x (floatOfInt .f64 t) = some .gt)))) := by
  cases hr : Ieee.double.read x with
  | nan s f => exact .inl ⟨wh_none_of (x := x) (by unfold S; rw [hr]; rfl), .inl (order_nan_l hr)⟩
  | infinity s =>
    have h2 : FloatKind.f64.format.order x 13920209174949527552 = some (if s then .lt else .gt) := order_inf_num hr S_lo
    have h3 : FloatKind.f64.format.order x 4696837138094751744 = some (if s then .lt else .gt) := order_inf_num hr S_hi
    have hw := wh_none_of (x := x) (by unfold S; rw [hr]; rfl)
    cases s
    · exact .inr (.inl ⟨hw, .inl h2, h3⟩)
    · exact .inl ⟨hw, .inr h2⟩
  | number s m e =>
    obtain ⟨v, hv⟩ : ∃ v, S x = some v := ⟨_, by unfold S; rw [hr]; rfl⟩
    have h2 : FloatKind.f64.format.order x 13920209174949527552 = some (compare v (-999999 * K)) := order_S hv S_lo
    have h3 : FloatKind.f64.format.order x 4696837138094751744 = some (compare v (999999 * K)) := order_S hv S_hi
    rcases (Int.lt_or_le v (-999999 * K)) with l1 | l1
    · rw [cmp_lt l1] at h2
      exact .inl ⟨wh_low hv l1, .inr h2⟩
    · have h2' : FloatKind.f64.format.order x 13920209174949527552 = some .gt ∨ FloatKind.f64.format.order x 13920209174949527552 = some .eq := by
        rw [h2]
        rcases Int.lt_or_eq_of_le l1 with h | h
        · rw [cmp_gt h]; exact .inl rfl
        · rw [h, cmp_eq]; exact .inr rfl
      rcases (Int.lt_or_le (999999 * K) v) with l2 | l2
      · rw [cmp_gt l2] at h3
        exact .inr (.inl ⟨wh_high hv l2, h2', h3⟩)
      · have h3' : FloatKind.f64.format.order x 4696837138094751744 = some .lt ∨ FloatKind.f64.format.order x 4696837138094751744 = some .eq := by
          rw [h3]
          rcases Int.lt_or_eq_of_le l2 with h | h
          · rw [cmp_lt h]; exact .inl rfl
          · rw [h, cmp_eq]; exact .inr rfl
        obtain ⟨t, t1, t2, t3⟩ := trunc_num s m e (read_place hr)
        have hS : v = Ieee.signed s m (e + 1074).toNat := by
          have : S x = some (Ieee.signed s m (e + 1074).toNat) := by unfold S; rw [hr]; rfl
          rw [hv] at this
          exact Option.some.inj this
        rw [← hS] at t2 t3
        obtain ⟨b1, b2⟩ := t3 999999 (by rw [← Int.neg_mul]; omega) (by omega)
        have hcv : floatToIntVal .f64 x .i64 = some t := by
          unfold floatToIntVal
          have : (FloatKind.f64.decode x).toInt .zero = some t := by
            show (Ieee.double.read x).toInt .zero = some t
            rw [hr]; exact t1
          rw [this]
          simp only
          rw [if_pos (by constructor <;> simp [IntKind.min, IntKind.max, IntKind.signed, IntKind.bits] <;> omega)]
        have h4 : FloatKind.f64.format.order x (floatOfInt .f64 t) = some (compare v (t * K)) := order_S hv (S_ofInt t (by omega))
        refine .inr (.inr ⟨t, hcv, h2', h3', ?_⟩)
        by_cases hq : v = t * K
        · left
          rw [hq, cmp_eq] at h4
          exact ⟨wh_some (by rw [hv, hq]) b1 b2, h4⟩
        · right
          refine ⟨?_, ?_⟩
          · cases hw : wh x with
            | none => rfl
            | some k =>
              have hk := (wh_val hw).1
              rw [hv] at hk
              have hk2 := Option.some.inj hk
              have := t2 k hk2
              rw [this] at hq
              exact absurd hk2 hq
          · rw [h4]
            rcases Int.lt_trichotomy v (t * K) with h | h | h
            · rw [cmp_lt h]; exact .inl rfl
            · exact absurd h hq
            · rw [cmp_gt h]; exact .inr rfl
/-- The int of a float that is a whole number. -/
theorem toInt_of {x : Nat} {p : Int} (h : S x = some (p * K)) (h1 : -999999 ≤ p) (h2 : p ≤ 999999) : floatToIntVal .f64 x .i64 = some p := by
  have hw := wh_some h h1 h2
  rcases whole_cases x with ⟨hn, _⟩ | ⟨hn, _⟩ | ⟨t, ht, _, _, ⟨hn, _⟩ | ⟨hn, _⟩⟩
  · rw [hw] at hn; cases hn
  · rw [hw] at hn; cases hn
  · rw [hw] at hn
    cases hn
    exact ht
  · rw [hw] at hn; cases hn
theorem conv_of {x : Nat} {t : Int} (h : floatToIntVal .f64 x .i64 = some t) (W : World) : (convert 22 3 (.float .f64 x)).run Tryd.prog W = .ok (.int .i64 t) W :=
  run_convert_float_int W 22 3 .f64 .i64 x t (by rw [Tryd.underlying22]; rfl) Tryd.underlying3 h
set_option maxHeartbeats 800000 in
theorem gwhole_any (x : Nat) (w : World) : Calls Tryd.prog 32 #[.float .f64 x] w fun e w' => e = .returned (.bool (wh x).isSome) ∧ w' = w := by
  rcases whole_cases x with ⟨hn, h1⟩ | ⟨hn, h1, h2⟩ | ⟨t, ht, h1, h2, h3⟩
  · rw [hn]
    clear hn
    rcases h1 with h1 | h1
    all_goals
      go_enter Tryd.func32, Tryd.ntmps32
      go_wp2
      go_ret
      exact ⟨rfl, rfl⟩
  · rw [hn]
    clear hn
    rcases h1 with h1 | h1
    all_goals
      go_enter Tryd.func32, Tryd.ntmps32
      go_wp2
      go_ret
      exact ⟨rfl, rfl⟩
  · have hcv := conv_of ht
    clear ht
    rcases h3 with ⟨hn, h3⟩ | ⟨hn, h3 | h3⟩
    all_goals
      rw [hn]
      clear hn
      rcases h1 with h1 | h1 <;> rcases h2 with h2 | h2
      all_goals
        go_enter Tryd.func32, Tryd.ntmps32
        go_wp2
        go_ret
        exact ⟨rfl, rfl⟩
set_option maxHeartbeats 400000 in
theorem gfits_w (x y : Nat) (w : World) : Calls Tryd.prog 17 #[cc x y] w fun e w' => e = .returned (.bool (pz x y).isSome) ∧ w' = w := by
  have e : (pz x y).isSome = ((wh x).isSome && (wh y).isSome) := by unfold pz; cases wh x <;> cases wh y <;> rfl
  rw [e]
  have H1 := hide (fun W => gwhole_any x W)
  have H2 := hide (fun W => gwhole_any y W)
  clear e
  generalize (wh x).isSome = b1 at *
  generalize (wh y).isSome = b2 at *
  cases b1
  · go_enter Tryd.func17, Tryd.ntmps17
    go_wp2_with (go_at_call 32; refine (unhide H1 _).mono ?_; rintro e w1 ⟨rfl, rfl⟩)
    go_ret
    exact ⟨rfl, rfl⟩
  · go_enter Tryd.func17, Tryd.ntmps17
    go_wp2_with (first | (go_at_call 32; have m1 := k1; refine (unhide H2 _).mono ?_; rintro e w1 ⟨rfl, rfl⟩) | (go_at_call 32; refine (unhide H1 _).mono ?_; rintro e w1 ⟨rfl, rfl⟩; have k1 : True := trivial))
    go_ret
    exact ⟨ret_bool (by simp), rfl⟩
theorem gfits_yes {x y : Nat} {p : Int × Int} (h : pz x y = some p) (w : World) : Calls Tryd.prog 17 #[cc x y] w fun e w' => e = .returned (.bool true) ∧ w' = w := by
  have := gfits_w x y w
  rw [h] at this
  exact this
theorem gfits_no {x y : Nat} (h : pz x y = none) (w : World) : Calls Tryd.prog 17 #[cc x y] w fun e w' => e = .returned (.bool false) ∧ w' = w := by
  have := gfits_w x y w
  rw [h] at this
  exact this
theorem pz_of {x y : Nat} {p q : Int} (hx : S x = some (p * K)) (hy : S y = some (q * K)) (h1 : -999999 ≤ p) (h2 : p ≤ 999999) (h3 : -999999 ≤ q) (h4 : q ≤ 999999) : pz x y = some (p, q) := pz_some (wh_some hx h1 h2) (wh_some hy h3 h4)
theorem wh_out {x : Nat} {p : Int} (hx : S x = some (p * K)) (h : inZ p = false) : wh x = none := by
  cases hw : wh x with
  | none => rfl
  | some k =>
    obtain ⟨h1, h2, h3⟩ := wh_val hw
    rw [hx] at h1
    have := Int.eq_of_mul_eq_mul_right (Int.ne_of_gt K_pos) (Option.some.inj h1)
    subst this
    rw [inZ_yes h2 h3] at h
    cases h
set_option maxHeartbeats 400000 in
theorem guns_any (x y : Nat) (p q : Int) (w : World) (hx : S x = some (p * K)) (hy : S y = some (q * K)) (h1 : -999999 ≤ p) (h2 : p ≤ 999999) (h3 : -999999 ≤ q) (h4 : q ≤ 999999) :
    Calls Tryd.prog 30 #[cc x y] w fun e w' => e = .returned (cc (floatOfInt .f64 p) (floatOfInt .f64 q)) ∧ w' = w := by
  have c1 := conv_of (toInt_of hx h1 h2)
  have c2 := conv_of (toInt_of hy h3 h4)
  clear hx hy h1 h2 h3 h4
  go_enter Tryd.func30, Tryd.ntmps30
  go_wp2
  go_ret
  exact ⟨rfl, rfl⟩
set_option maxHeartbeats 400000 in
theorem gnorm_w (x y : Nat) (w : World) : Calls Tryd.prog 18 #[cc x y] w fun e w' => e = .returned (.int .i64 (nrm (pz x y))) ∧ w' = w := by
  cases hp : pz x y with
  | none =>
    have HP := hide (fun W => gfits_no hp W)
    clear hp
    go_enter Tryd.func18, Tryd.ntmps18
    go_wp2_with (go_at_call 17; refine (unhide HP _).mono ?_; rintro e w1 ⟨rfl, rfl⟩)
    go_ret
    exact ⟨rfl, rfl⟩
  | some q =>
    obtain ⟨a, b⟩ := q
    have hi := pz_in hp
    have hv := pz_val hp
    have c1 := conv_of (toInt_of (wh_val hv.1).1 hi.1 hi.2.1)
    have c2 := conv_of (toInt_of (wh_val hv.2).1 hi.2.2.1 hi.2.2.2)
    have HP := hide (fun W => gfits_yes hp W)
    have s1 := sq_bound a hi.1 hi.2.1
    have s2 := sq_bound b hi.2.2.1 hi.2.2.2
    have w1 : IntKind.i64.wrap (a * a) = a * a := wrap_in (by omega) (by omega)
    have w2 : IntKind.i64.wrap (b * b) = b * b := wrap_in (by omega) (by omega)
    have w3 : IntKind.i64.wrap (a * a + b * b) = a * a + b * b := wrap_in (by omega) (by omega)
    clear hp hi hv s1 s2
    go_enter Tryd.func18, Tryd.ntmps18
    go_wp2_with (go_at_call 17; refine (unhide HP _).mono ?_; rintro e w1 ⟨rfl, rfl⟩)
    go_ret
    exact ⟨rfl, rfl⟩
theorem i64_and3 (n : Int) : bits .and .i64 n 3 = n % 4 := by
  show IntKind.i64.wrap ((BitVec.ofInt 64 n &&& BitVec.ofInt 64 3).toNat : Int) = _
  have e3 : (BitVec.ofInt 64 3).toNat = 3 := by decide
  rw [BitVec.toNat_and, e3, show (3 : Nat) = 2 ^ 2 - 1 by decide, Nat.and_two_pow_sub_one_eq_mod, BitVec.toNat_ofInt]
  rw [wrap_in (by omega) (by omega)]
  omega
set_option maxHeartbeats 1600000 in
theorem gturn_w (x y : Nat) (n : Int) (w : World) : Calls Tryd.prog 13 #[cc x y, .int .i64 n] w fun e w' => e = .returned (.tuple #[cc (floatOfInt .f64 (trn n (pz x y)).1) (floatOfInt .f64 (trn n (pz x y)).2), .int .i64 (errZ (pz x y))]) ∧ w' = w := by
  cases hp : pz x y with
  | none =>
    have HP := hide (fun W => gfits_no hp W)
    have z : floatOfInt .f64 0 = 0 := by kernel_rfl
    have e1 : (trn n none).1 = 0 := rfl
    have e2 : (trn n none).2 = 0 := rfl
    rw [e1, e2, z]
    clear hp e1 e2 z
    go_enter Tryd.func13, Tryd.ntmps13
    go_wp2_with (go_at_call 17; refine (unhide HP _).mono ?_; rintro e w1 ⟨rfl, rfl⟩)
    go_ret2
    exact ⟨rfl, rfl⟩
  | some q =>
    obtain ⟨a, b⟩ := q
    have HI := hide (pz_in hp)
    have HV := hide (pz_val hp)
    have HP := hide (fun W => gfits_yes hp W)
    clear hp
    obtain ⟨m, hm⟩ : ∃ m : Nat, n % 4 = (m : Int) := ⟨(n % 4).toNat, by omega⟩
    have hm4 : m < 4 := by omega
    have HM : Hid ((n % 4).toNat = m) := by show _ = _; omega
    have h3 : bits .and .i64 n 3 = (m : Int) := (i64_and3 n).trans hm
    clear hm
    go_enter Tryd.func13, Tryd.ntmps13
    go_wp2_with (go_at_call 17; refine (unhide HP _).mono ?_; rintro e w1 ⟨rfl, rfl⟩)
    go_loopw [0, 11] (fun vz vk wr => ∃ (j x' y' : Nat) (p q : Int), j ≤ m ∧ vz = cc x' y' ∧ vk = .int .i64 (j : Int) ∧ Hid (S x' = some (p * K)) ∧ Hid (S y' = some (q * K)) ∧ -999999 ≤ p ∧ p ≤ 999999 ∧ -999999 ≤ q ∧ q ≤ 999999 ∧ Hid (rot m (a, b) = rot (m - j) (p, q)) ∧ wr = w1) (fun _ k _ => m - (intOf k).toNat)
    case atStart => exact ⟨0, x, y, a, b, Nat.zero_le _, rfl, rfl, (wh_val (unhide HV).1).1, (wh_val (unhide HV).2).1, (unhide HI).1, (unhide HI).2.1, (unhide HI).2.2.1, (unhide HI).2.2.2, rfl, rfl⟩
    case round =>
      obtain ⟨j, x', y', p, q, hj, rfl, rfl, HX, HY, p1, p2, q1, q2, HR, rfl⟩ := hrel
      by_cases hjm : j = m
      · subst hjm
        have zj : ¬ (j : Int) < (j : Int) := by omega
        have HU := hide (fun W => guns_any x' y' p q W HX HY p1 p2 q1 q2)
        go_wp2_with (go_at_call 30; refine (unhide HU _).mono ?_; rintro e w2 ⟨rfl, rfl⟩)
        go_ret2
        refine ⟨?_, rfl⟩
        have e : trn n (some (a, b)) = (p, q) := by
          show rot (n % 4).toNat (a, b) = (p, q)
          rw [unhide HM, unhide HR, Nat.sub_self]; rfl
        rw [e]
        rfl
      · have zj : (j : Int) < (m : Int) := by omega
        have w2 : IntKind.i64.wrap ((j : Int) + 1) = (j : Int) + 1 := wrap_in (by omega) (by omega)
        obtain ⟨re, im, hc, hs1, hs2⟩ := cmul_S (unhide HX) (unhide HY) S_nought S_one (by rw [Int.mul_zero]; decide) (by rw [Int.mul_one]; omega) (by rw [Int.mul_one]; omega) (by rw [Int.mul_zero]; decide)
        rw [Int.mul_zero, Int.mul_one, Int.zero_sub] at hs1
        rw [Int.mul_zero, Int.mul_one, Int.add_zero] at hs2
        have hmul : ∀ W : World, (binOp .mul 28 (.complex .f64 x' y') (.complex .f64 0 4607182418800017408)).run Tryd.prog W = .ok (.complex .f64 re im) W := fun W => run_complex_mul W _ _ _ _ _ _ _ hc
        have HS1 := hide hs1
        have HS2 := hide hs2
        clear hc hs1 hs2
        go_wp2
        go_roundw
        case rel =>
          refine ⟨j + 1, re, im, -q, p, by omega, rfl, rfl, HS1, HS2, by omega, by omega, p1, p2, ?_, trivial⟩
          show _ = _
          rw [unhide HR, show m - j = (m - (j + 1)) + 1 by omega]
          rfl
        case measure => simp [intOf]; omega
set_option maxHeartbeats 1600000 in
theorem gtimes_w (x y u v : Nat) (w : World) : Calls Tryd.prog 23 #[cc x y, cc u v] w fun e w' => e = .returned (.tuple #[cc (floatOfInt .f64 (tim (pz x y) (pz u v)).1) (floatOfInt .f64 (tim (pz x y) (pz u v)).2), .int .i64 (timE (pz x y) (pz u v))]) ∧ w' = w := by
  have z : floatOfInt .f64 0 = 0 := by kernel_rfl
  cases hp : pz x y with
  | none =>
    have HP := hide (fun W => gfits_no hp W)
    have e1 : tim none (pz u v) = (0, 0) := rfl
    have e2 : timE none (pz u v) = 140 := rfl
    rw [e1, e2]
    show Calls _ _ _ _ fun e w' => e = .returned (.tuple #[cc (floatOfInt .f64 0) (floatOfInt .f64 0), .int .i64 140]) ∧ w' = w
    rw [z]
    clear hp e1 e2 z
    go_enter Tryd.func23, Tryd.ntmps23
    go_wp2_with (go_at_call 17; refine (unhide HP _).mono ?_; rintro e w1 ⟨rfl, rfl⟩)
    go_ret2
    exact ⟨rfl, rfl⟩
  | some p =>
    obtain ⟨a, b⟩ := p
    have HP := hide (fun W => gfits_yes hp W)
    cases hq : pz u v with
    | none =>
      have HQ := hide (fun W => gfits_no hq W)
      rw [(tim_none_r _).1, (tim_none_r _).2]
      show Calls _ _ _ _ fun e w' => e = .returned (.tuple #[cc (floatOfInt .f64 0) (floatOfInt .f64 0), .int .i64 140]) ∧ w' = w
      rw [z]
      clear hp hq z
      go_enter Tryd.func23, Tryd.ntmps23
      go_wp2_with (first | (go_at_call 17; have m1 := k1; refine (unhide HQ _).mono ?_; rintro e w1 ⟨rfl, rfl⟩) | (go_at_call 17; refine (unhide HP _).mono ?_; rintro e w1 ⟨rfl, rfl⟩; have k1 : True := trivial))
      go_ret2
      exact ⟨rfl, rfl⟩
    | some q =>
      obtain ⟨c, d⟩ := q
      have HQ := hide (fun W => gfits_yes hq W)
      have hi := pz_in hp
      have hj := pz_in hq
      have hv := pz_val hp
      have hw := pz_val hq
      simp only at hi hj hv hw
      have m1 := mul_bound a c hi.1 hi.2.1 hj.1 hj.2.1
      have m2 := mul_bound b d hi.2.2.1 hi.2.2.2 hj.2.2.1 hj.2.2.2
      have m3 := mul_bound a d hi.1 hi.2.1 hj.2.2.1 hj.2.2.2
      have m4 := mul_bound b c hi.2.2.1 hi.2.2.2 hj.1 hj.2.1
      obtain ⟨re, im, hc, hs1, hs2⟩ := cmul_S (wh_val hv.1).1 (wh_val hv.2).1 (wh_val hw.1).1 (wh_val hw.2).1 (by omega) (by omega) (by omega) (by omega)
      have hmul : ∀ W : World, (binOp .mul 28 (.complex .f64 x y) (.complex .f64 u v)).run Tryd.prog W = .ok (.complex .f64 re im) W := fun W => run_complex_mul W _ _ _ _ _ _ _ hc
      clear hp hq hi hj hv hw m1 m2 m3 m4 hc
      cases ho : (inZ (a * c - b * d) && inZ (a * d + b * c)) with
      | false =>
        rw [(tim_out a b c d ho).1, (tim_out a b c d ho).2]
        show Calls _ _ _ _ fun e w' => e = .returned (.tuple #[cc (floatOfInt .f64 0) (floatOfInt .f64 0), .int .i64 3]) ∧ w' = w
        rw [z]
        have hn : pz re im = none := by
          rcases Bool.and_eq_false_iff.1 ho with h | h
          · exact pz_none_l (wh_out hs1 h)
          · exact pz_none_r (wh_out hs2 h)
        have HN := hide (fun W => gfits_no hn W)
        clear ho hn hs1 hs2 z
        go_enter Tryd.func23, Tryd.ntmps23
        go_wp2_with (first | (go_at_call 17; have m1 := k2; refine (unhide HN _).mono ?_; rintro e w1 ⟨rfl, rfl⟩) | (go_at_call 17; have m1 := k1; refine (unhide HQ _).mono ?_; rintro e w1 ⟨rfl, rfl⟩; have k2 : True := trivial) | (go_at_call 17; refine (unhide HP _).mono ?_; rintro e w1 ⟨rfl, rfl⟩; have k1 : True := trivial))
        go_ret2
        exact ⟨rfl, rfl⟩
      | true =>
        rw [(tim_in a b c d ho).1, (tim_in a b c d ho).2]
        have hh := (Bool.and_eq_true _ _).mp ho
        have h1 := of_decide_eq_true hh.1
        have h2 := of_decide_eq_true hh.2
        have HN := hide (fun W => gfits_yes (pz_of hs1 hs2 h1.1 h1.2 h2.1 h2.2) W)
        have HU := hide (fun W => guns_any re im _ _ W hs1 hs2 h1.1 h1.2 h2.1 h2.2)
        clear ho hh h1 h2 hs1 hs2 z
        go_enter Tryd.func23, Tryd.ntmps23
        go_wp2_with (first | (go_at_call 30; refine (unhide HU _).mono ?_; rintro e w1 ⟨rfl, rfl⟩) | (go_at_call 17; have m1 := k2; refine (unhide HN _).mono ?_; rintro e w1 ⟨rfl, rfl⟩) | (go_at_call 17; have m1 := k1; refine (unhide HQ _).mono ?_; rintro e w1 ⟨rfl, rfl⟩; have k2 : True := trivial) | (go_at_call 17; refine (unhide HP _).mono ?_; rintro e w1 ⟨rfl, rfl⟩; have k1 : True := trivial))
        go_ret2
        exact ⟨rfl, rfl⟩
end Go.Proofs.YtpkofpgdnbkknaaDoor
