/- The landed gauss: Cmp, over the library's Compare. -/
import Derived.Test.YtpkofpgdnbkknaaDoorDa14
namespace Go.Proofs.YtpkofpgdnbkknaaDoor
open Go.RowKit

/-- -1, 0 or 1. -/
def cI (a b : Int) : Int := if a < b then -1 else if b < a then 1 else 0
theorem cI_lt {a b : Int} (h : a < b) : cI a b = -1 := if_pos h
theorem cI_gt {a b : Int} (h : b < a) : cI a b = 1 := by unfold cI; rw [if_neg (by omega), if_pos h]
theorem cI_eq (a : Int) : cI a a = 0 := by unfold cI; rw [if_neg (by omega), if_neg (by omega)]
set_option maxHeartbeats 400000 in
theorem nan_int (a : Int) (w : World) : Calls Tryd.prog 42 #[.int .i64 a] w fun e w' => e = .returned (.bool false) ∧ w' = w := by
  go_enter Tryd.func42, Tryd.ntmps42
  go_wp2
  go_ret
  exact ⟨rfl, rfl⟩
set_option maxHeartbeats 400000 in
theorem nan_flt (x : Nat) (w : World) (h : FloatKind.f64.format.order x x = some .eq) : Calls Tryd.prog 43 #[.float .f64 x] w fun e w' => e = .returned (.bool false) ∧ w' = w := by
  go_enter Tryd.func43, Tryd.ntmps43
  go_wp2
  go_ret
  exact ⟨rfl, rfl⟩
set_option maxHeartbeats 800000 in
theorem cmpi_any (a b : Int) (w : World) : Calls Tryd.prog 36 #[.int .i64 a, .int .i64 b] w fun e w' => e = .returned (.int .i64 (cI a b)) ∧ w' = w := by
  have H1 := hide (fun W => nan_int a W)
  have H2 := hide (fun W => nan_int b W)
  rcases Int.lt_trichotomy a b with h | h | h
  · rw [cI_lt h]
    go_enter Tryd.func36, Tryd.ntmps36
    go_wp2_with (first | (go_at_call 42; have m1 := k1; refine (unhide H2 _).mono ?_; rintro e w1 ⟨rfl, rfl⟩) | (go_at_call 42; refine (unhide H1 _).mono ?_; rintro e w1 ⟨rfl, rfl⟩; have k1 : True := trivial))
    go_ret
    exact ⟨rfl, rfl⟩
  · subst h
    rw [cI_eq a]
    have h1 : ¬ a < a := by omega
    clear H2
    go_enter Tryd.func36, Tryd.ntmps36
    go_wp2_with (go_at_call 42; refine (unhide H1 _).mono ?_; rintro e w1 ⟨rfl, rfl⟩)
    go_ret
    exact ⟨rfl, rfl⟩
  · rw [cI_gt h]
    have h1 : ¬ a < b := by omega
    go_enter Tryd.func36, Tryd.ntmps36
    go_wp2_with (first | (go_at_call 42; have m1 := k1; refine (unhide H2 _).mono ?_; rintro e w1 ⟨rfl, rfl⟩) | (go_at_call 42; refine (unhide H1 _).mono ?_; rintro e w1 ⟨rfl, rfl⟩; have k1 : True := trivial))
    go_ret
    exact ⟨rfl, rfl⟩
theorem order_self {x : Nat} {a : Int} (hx : S x = some (a * K)) : FloatKind.f64.format.order x x = some .eq := by
  have := order_S hx hx
  rw [cmp_eq] at this
  exact this
set_option maxHeartbeats 800000 in
theorem cmpf_any (x y : Nat) (a b : Int) (w : World) (hx : S x = some (a * K)) (hy : S y = some (b * K)) : Calls Tryd.prog 37 #[.float .f64 x, .float .f64 y] w fun e w' => e = .returned (.int .i64 (cI a b)) ∧ w' = w := by
  have H1 := hide (fun W => nan_flt x W (order_self hx))
  have H2 := hide (fun W => nan_flt y W (order_self hy))
  have ho : FloatKind.f64.format.order x y = some (compare (a * K) (b * K)) := order_S hx hy
  rw [cmp_scale _ _ _ K_pos] at ho
  clear hx hy
  rcases Int.lt_trichotomy a b with h | h | h
  · rw [cI_lt h]
    rw [cmp_lt h] at ho
    go_enter Tryd.func37, Tryd.ntmps37
    go_wp2_with (first | (go_at_call 43; have m1 := k1; refine (unhide H2 _).mono ?_; rintro e w1 ⟨rfl, rfl⟩) | (go_at_call 43; refine (unhide H1 _).mono ?_; rintro e w1 ⟨rfl, rfl⟩; have k1 : True := trivial))
    go_ret
    exact ⟨rfl, rfl⟩
  · subst h
    rw [cI_eq a]
    rw [cmp_eq] at ho
    go_enter Tryd.func37, Tryd.ntmps37
    go_wp2_with (first | (go_at_call 43; have m1 := k1; refine (unhide H2 _).mono ?_; rintro e w1 ⟨rfl, rfl⟩) | (go_at_call 43; refine (unhide H1 _).mono ?_; rintro e w1 ⟨rfl, rfl⟩; have k1 : True := trivial))
    go_ret
    exact ⟨rfl, rfl⟩
  · rw [cI_gt h]
    rw [cmp_gt h] at ho
    go_enter Tryd.func37, Tryd.ntmps37
    go_wp2_with (first | (go_at_call 43; have m1 := k1; refine (unhide H2 _).mono ?_; rintro e w1 ⟨rfl, rfl⟩) | (go_at_call 43; refine (unhide H1 _).mono ?_; rintro e w1 ⟨rfl, rfl⟩; have k1 : True := trivial))
    go_ret
    exact ⟨rfl, rfl⟩
set_option maxHeartbeats 1600000 in
theorem gcmp_w (x y u v : Nat) (w : World) : Calls Tryd.prog 25 #[cc x y, cc u v] w fun e w' => e = .returned (.int .i64 (cmpG (pz x y) (pz u v))) ∧ w' = w := by
  have HM := hide (fun W => gnorm_w x y W)
  have HN := hide (fun W => gnorm_w u v W)
  have HE : Hid (cmpG (pz x y) (pz u v) = cm3 (nrm (pz x y)) (nrm (pz u v)) (reZ (pz x y)) (reZ (pz u v)) (imZ (pz x y)) (imZ (pz u v))) := rfl
  rw [unhide HE]
  clear HE
  rcases Int.lt_trichotomy (nrm (pz x y)) (nrm (pz u v)) with c | c | c
  · have HC := hide (fun W => cmpi_any (nrm (pz x y)) (nrm (pz u v)) W)
    rw [cI_lt c] at HC
    have HR : Hid (cm3 (nrm (pz x y)) (nrm (pz u v)) (reZ (pz x y)) (reZ (pz u v)) (imZ (pz x y)) (imZ (pz u v)) = -1) := by show _ = _; unfold cm3; rw [if_pos c]
    rw [unhide HR]
    clear HR c
    go_enter Tryd.func25, Tryd.ntmps25
    go_wp2_with (first | (go_at_call 36; refine (unhide HC _).mono ?_; rintro e w1 ⟨rfl, rfl⟩) | (go_at_call 18; have m1 := k1; refine (unhide HN _).mono ?_; rintro e w1 ⟨rfl, rfl⟩) | (go_at_call 18; refine (unhide HM _).mono ?_; rintro e w1 ⟨rfl, rfl⟩; have k1 : True := trivial))
    go_ret
    exact ⟨rfl, rfl⟩
  · cases hp : pz x y with
    | none =>
      cases hq : pz u v with
      | some q =>
        exfalso
        have hj := pz_in hq
        have s1 := sq_bound q.1 hj.1 hj.2.1
        have s2 := sq_bound q.2 hj.2.2.1 hj.2.2.2
        rw [hp, hq] at c
        simp only [nrm] at c
        omega
      | none =>
        rw [hp] at HM
        rw [hq] at HN
        have HC := hide (fun W => cmpi_any (nrm none) (nrm none) W)
        rw [cI_eq] at HC
        have HR : Hid (cm3 (nrm none) (nrm none) (reZ none) (reZ none) (imZ none) (imZ none) = 0) := by show _ = _; unfold cm3; rw [if_neg (by omega), if_neg (by omega), if_neg (by omega), if_neg (by omega), if_neg (by omega), if_neg (by omega)]
        rw [unhide HR]
        have e : nrm none = -1 := rfl
        rw [e] at HM HN HC
        clear HR c hp hq e
        go_enter Tryd.func25, Tryd.ntmps25
        go_wp2_with (first | (go_at_call 36; refine (unhide HC _).mono ?_; rintro e w1 ⟨rfl, rfl⟩) | (go_at_call 18; have m1 := k1; refine (unhide HN _).mono ?_; rintro e w1 ⟨rfl, rfl⟩) | (go_at_call 18; refine (unhide HM _).mono ?_; rintro e w1 ⟨rfl, rfl⟩; have k1 : True := trivial))
        go_ret
        exact ⟨rfl, rfl⟩
    | some p =>
      obtain ⟨a, b⟩ := p
      have hi := pz_in hp
      have s1 := sq_bound a hi.1 hi.2.1
      have s2 := sq_bound b hi.2.2.1 hi.2.2.2
      cases hq : pz u v with
      | none =>
        exfalso
        rw [hp, hq] at c
        simp only [nrm] at c
        omega
      | some q =>
        obtain ⟨c', d⟩ := q
        have hv := pz_val hp
        have hw := pz_val hq
        simp only at hv hw
        have HF := hide (fun W => cmpf_any x u a c' W (wh_val hv.1).1 (wh_val hw.1).1)
        have HG := hide (fun W => cmpf_any y v b d W (wh_val hv.2).1 (wh_val hw.2).1)
        rw [hp, hq] at c
        rw [hp] at HM
        rw [hq, ← c] at HN
        rw [← c]
        have n0 : ¬ nrm (some (a, b)) < 0 := by simp only [nrm]; omega
        generalize nrm (some (a, b)) = m at *
        show Calls _ _ _ _ fun e w' => e = .returned (.int .i64 (cm3 m m a c' b d)) ∧ w' = w
        have HC := hide (fun W => cmpi_any m m W)
        rw [cI_eq] at HC
        clear hp hq hi s1 s2 hv hw c
        rcases Int.lt_trichotomy a c' with h | h | h
        · rw [cI_lt h] at HF
          have HR : Hid (cm3 m m a c' b d = -1) := by show _ = _; unfold cm3; rw [if_neg (by omega), if_neg (by omega), if_pos h]
          rw [unhide HR]
          clear HR h HG
          go_enter Tryd.func25, Tryd.ntmps25
          go_wp2_with (first | (go_at_call 37; refine (unhide HF _).mono ?_; rintro e w1 ⟨rfl, rfl⟩) | (go_at_call 36; refine (unhide HC _).mono ?_; rintro e w1 ⟨rfl, rfl⟩) | (go_at_call 18; have m1 := k1; refine (unhide HN _).mono ?_; rintro e w1 ⟨rfl, rfl⟩) | (go_at_call 18; refine (unhide HM _).mono ?_; rintro e w1 ⟨rfl, rfl⟩; have k1 : True := trivial))
          go_ret
          exact ⟨rfl, rfl⟩
        · subst h
          rw [cI_eq] at HF
          have HR : Hid (cm3 m m a a b d = cI b d) := by show _ = _; unfold cm3 cI; rw [if_neg (by omega), if_neg (by omega), if_neg (by omega), if_neg (by omega)]
          rw [unhide HR]
          clear HR
          generalize cI b d = r at *
          go_enter Tryd.func25, Tryd.ntmps25
          go_wp2_with (first | (go_at_call 37; have m1 := k2; refine (unhide HG _).mono ?_; rintro e w1 ⟨rfl, rfl⟩) | (go_at_call 37; refine (unhide HF _).mono ?_; rintro e w1 ⟨rfl, rfl⟩; have k2 : True := trivial) | (go_at_call 36; refine (unhide HC _).mono ?_; rintro e w1 ⟨rfl, rfl⟩) | (go_at_call 18; have m1 := k1; refine (unhide HN _).mono ?_; rintro e w1 ⟨rfl, rfl⟩) | (go_at_call 18; refine (unhide HM _).mono ?_; rintro e w1 ⟨rfl, rfl⟩; have k1 : True := trivial))
          go_ret
          exact ⟨rfl, rfl⟩
        · rw [cI_gt h] at HF
          have HR : Hid (cm3 m m a c' b d = 1) := by show _ = _; unfold cm3; rw [if_neg (by omega), if_neg (by omega), if_neg (by omega), if_pos h]
          rw [unhide HR]
          clear HR h HG
          go_enter Tryd.func25, Tryd.ntmps25
          go_wp2_with (first | (go_at_call 37; refine (unhide HF _).mono ?_; rintro e w1 ⟨rfl, rfl⟩) | (go_at_call 36; refine (unhide HC _).mono ?_; rintro e w1 ⟨rfl, rfl⟩) | (go_at_call 18; have m1 := k1; refine (unhide HN _).mono ?_; rintro e w1 ⟨rfl, rfl⟩) | (go_at_call 18; refine (unhide HM _).mono ?_; rintro e w1 ⟨rfl, rfl⟩; have k1 : True := trivial))
          go_ret
          exact ⟨rfl, rfl⟩
  · have HC := hide (fun W => cmpi_any (nrm (pz x y)) (nrm (pz u v)) W)
    rw [cI_gt c] at HC
    have HR : Hid (cm3 (nrm (pz x y)) (nrm (pz u v)) (reZ (pz x y)) (reZ (pz u v)) (imZ (pz x y)) (imZ (pz u v)) = 1) := by show _ = _; unfold cm3; rw [if_neg (by omega), if_pos c]
    rw [unhide HR]
    clear HR c
    go_enter Tryd.func25, Tryd.ntmps25
    go_wp2_with (first | (go_at_call 36; refine (unhide HC _).mono ?_; rintro e w1 ⟨rfl, rfl⟩) | (go_at_call 18; have m1 := k1; refine (unhide HN _).mono ?_; rintro e w1 ⟨rfl, rfl⟩) | (go_at_call 18; refine (unhide HM _).mono ?_; rintro e w1 ⟨rfl, rfl⟩; have k1 : True := trivial))
    go_ret
    exact ⟨rfl, rfl⟩
end Go.Proofs.YtpkofpgdnbkknaaDoor
