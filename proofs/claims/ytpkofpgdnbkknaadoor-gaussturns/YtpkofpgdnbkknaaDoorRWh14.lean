/- The document's Whole of layer 14. -/
import Derived.Test.YtpkofpgdnbkknaaDoorProg
import Derived.Test.YtpkofpgdnbkknaaDoorFlt
import Derived.Test.YtpkofpgdnbkknaaDoorBase
import Derived.WalkLawsBesides
namespace Go.Proofs.YtpkofpgdnbkknaaDoor
open Go.RowKit

theorem ret_ib {a b : Int} {c d : Bool} (h : a = b) (h' : c = d) : Ending.returned (.tuple #[.int .i64 a, .bool c]) = .returned (.tuple #[.int .i64 b, .bool d]) := by rw [h, h']
theorem wh_none_of {x : Nat} (h : S x = none) : wh x = none := by unfold wh; rw [h]
theorem wh_low {x : Nat} {v : Int} (h : S x = some v) (h1 : v < -999999 * K) : wh x = none := by
  unfold wh
  rw [h]
  simp only
  rw [if_neg (by rintro ⟨_, h2, _⟩; rw [← Int.neg_mul] at h2; omega)]
theorem wh_high {x : Nat} {v : Int} (h : S x = some v) (h1 : 999999 * K < v) : wh x = none := by
  unfold wh
  rw [h]
  simp only
  rw [if_neg (by rintro ⟨_, _, h2⟩; omega)]
theorem cmp_lt {a b : Int} (h : a < b) : compare a b = .lt := by simp only [compare, compareOfLessAndEq]; rw [if_pos h]
theorem cmp_gt {a b : Int} (h : b < a) : compare a b = .gt := by simp only [compare, compareOfLessAndEq]; rw [if_neg (by omega), if_neg (by omega)]
theorem cmp_eq (a : Int) : compare a a = .eq := by simp [compare, compareOfLessAndEq]
set_option maxHeartbeats 800000 in
theorem rwhole_any (x : Nat) (w : World) : Calls Tryd.prog 31 #[.float .f64 x] w fun e w' => ∃ n : Int, e = .returned (.tuple #[.int .i64 n, .bool (wh x).isSome]) ∧ (∀ k, wh x = some k → n = k) ∧ w' = w := by
  cases hr : Ieee.double.read x with
  | nan s f =>
    have h1 : FloatKind.f64.format.order x x = none := order_nan hr
    have hw := hide (wh_none_of (x := x) (by unfold S; rw [hr]; rfl))
    clear hr
    go_enter Tryd.func31, Tryd.ntmps31
    go_wp2
    go_ret2
    exact ⟨0, ret_ib rfl (by rw [unhide hw]; rfl), fun k hk => (by rw [unhide hw] at hk; cases hk), rfl⟩
  | infinity s =>
    have h1 : FloatKind.f64.format.order x x = some .eq := order_inf hr
    have h2 : FloatKind.f64.format.order x 13920209174949527552 = some (if s then .lt else .gt) := order_inf_num hr S_lo
    have h3 : FloatKind.f64.format.order x 4696837138094751744 = some (if s then .lt else .gt) := order_inf_num hr S_hi
    have hw := hide (wh_none_of (x := x) (by unfold S; rw [hr]; rfl))
    clear hr
    cases s
    · simp only [Bool.false_eq_true, if_false] at h2 h3
      go_enter Tryd.func31, Tryd.ntmps31
      go_wp2
      go_ret2
      exact ⟨0, ret_ib rfl (by rw [unhide hw]; rfl), fun k hk => (by rw [unhide hw] at hk; cases hk), rfl⟩
    · simp only [if_true] at h2 h3
      go_enter Tryd.func31, Tryd.ntmps31
      go_wp2
      go_ret2
      exact ⟨0, ret_ib rfl (by rw [unhide hw]; rfl), fun k hk => (by rw [unhide hw] at hk; cases hk), rfl⟩
  | number s m e =>
    obtain ⟨v, hv⟩ : ∃ v, S x = some v := ⟨_, by unfold S; rw [hr]; rfl⟩
    have h1 : FloatKind.f64.format.order x x = some .eq := by have := order_S hv hv; rw [cmp_eq] at this; exact this
    have h2 : FloatKind.f64.format.order x 13920209174949527552 = some (compare v (-999999 * K)) := order_S hv S_lo
    have h3 : FloatKind.f64.format.order x 4696837138094751744 = some (compare v (999999 * K)) := order_S hv S_hi
    by_cases l1 : v < -999999 * K
    · rw [cmp_lt l1] at h2
      have hw := hide (wh_low hv l1)
      clear hr hv l1 h3
      go_enter Tryd.func31, Tryd.ntmps31
      go_wp2
      go_ret2
      exact ⟨0, ret_ib rfl (by rw [unhide hw]; rfl), fun k hk => (by rw [unhide hw] at hk; cases hk), rfl⟩
    · have h2' : (FloatKind.f64.format.order x 13920209174949527552 == some .lt) = false := by
        rw [h2]
        rcases Int.lt_trichotomy v (-999999 * K) with h | h | h
        · exact absurd h l1
        · rw [h, cmp_eq]; rfl
        · rw [cmp_gt h]; rfl
      by_cases l2 : 999999 * K < v
      · rw [cmp_gt l2] at h3
        have hw := hide (wh_high hv l2)
        clear hr hv l1 l2 h2
        go_enter Tryd.func31, Tryd.ntmps31
        go_wp2
        go_ret2
        exact ⟨0, ret_ib rfl (by rw [unhide hw]; rfl), fun k hk => (by rw [unhide hw] at hk; cases hk), rfl⟩
      · have h3' : (FloatKind.f64.format.order x 4696837138094751744 == some .gt) = false := by
          rw [h3]
          rcases Int.lt_trichotomy v (999999 * K) with h | h | h
          · rw [cmp_lt h]; rfl
          · rw [h, cmp_eq]; rfl
          · exact absurd h l2
        obtain ⟨t, t1, t2, t3⟩ := trunc_num s m e (read_place hr)
        have hS : v = Ieee.signed s m (e + 1074).toNat := by
          have : S x = some (Ieee.signed s m (e + 1074).toNat) := by unfold S; rw [hr]; rfl
          rw [hv] at this
          exact Option.some.inj this
        rw [← hS] at t2 t3
        obtain ⟨b1, b2⟩ := t3 999999 (by rw [← Int.neg_mul]; omega) (by omega)
        have hcv : ∀ W : World, (convert 22 3 (.float .f64 x)).run Tryd.prog W = .ok (.int .i64 t) W := fun W => by
          refine run_convert_float_int W 22 3 .f64 .i64 x t (by rw [Tryd.underlying22]; rfl) Tryd.underlying3 ?_
          unfold floatToIntVal
          have : (FloatKind.f64.decode x).toInt .zero = some t := by
            show (Ieee.double.read x).toInt .zero = some t
            rw [hr]; exact t1
          rw [this]
          simp only
          rw [if_pos (by constructor <;> simp [IntKind.min, IntKind.max, IntKind.signed, IntKind.bits] <;> omega)]
        have h4 : FloatKind.f64.format.order x (floatOfInt .f64 t) = some (compare v (t * K)) := order_S hv (S_ofInt t (by omega))
        by_cases hq : v = t * K
        · have hw := hide (wh_some (by rw [hv, hq]) b1 b2)
          rw [hq, cmp_eq] at h4
          clear hr hv l1 l2 h2 h3 t1 t2 t3 hS b1 b2 hq
          go_enter Tryd.func31, Tryd.ntmps31
          go_wp2
          go_ret2
          exact ⟨t, ret_ib rfl (by rw [unhide hw]; rfl), fun k hk => (by rw [unhide hw] at hk; cases hk; rfl), rfl⟩
        · have hwn : wh x = none := by
            cases hw : wh x with
            | none => rfl
            | some k =>
              have hk := (wh_val hw).1
              rw [hv] at hk
              have hk2 := Option.some.inj hk
              have := t2 k hk2
              rw [this] at hq
              exact absurd hk2 hq
          have hw := hide hwn
          have h4' : (FloatKind.f64.format.order x (floatOfInt .f64 t) == some .eq) = false := by
            rw [h4]
            rcases Int.lt_trichotomy v (t * K) with h | h | h
            · rw [cmp_lt h]; rfl
            · exact absurd h hq
            · rw [cmp_gt h]; rfl
          clear hr hv l1 l2 h2 h3 t1 t2 t3 hS b1 b2 hq h4 hwn
          go_enter Tryd.func31, Tryd.ntmps31
          go_wp2
          go_ret2
          exact ⟨t, ret_ib rfl (by rw [unhide hw]; rfl), fun k hk => (by rw [unhide hw] at hk; cases hk), rfl⟩
end Go.Proofs.YtpkofpgdnbkknaaDoor
