/- The law GaussOrder. (By gen_laws.py.) -/
import Derived.Test.YtpkofpgdnbkknaaDoorLaw14b
namespace Go.Proofs.YtpkofpgdnbkknaaDoor
open Go.RowKit

theorem order_fin {x u : Nat} {a : Int} (h : FloatKind.f64.format.order x u = some .eq) (hx : S x = some a) : S u = some a := by
  have h' : Ieee.double.order x u = some .eq := h
  cases hu : S u with
  | some b =>
    rw [order_S hx hu] at h'
    rcases Int.lt_trichotomy a b with e | e | e
    · rw [cmp_lt e] at h'; cases h'
    · rw [e]
    · rw [cmp_gt e] at h'; cases h'
  | none =>
    unfold S at hx hu
    unfold Ieee.Format.order at h'
    cases h1 : Ieee.double.read x with
    | infinity s => rw [h1] at hx; simp [sc] at hx
    | nan s f => rw [h1] at hx; simp [sc] at hx
    | number s m e =>
      cases h2 : Ieee.double.read u with
      | number t n j => rw [h2] at hu; simp [sc] at hu
      | nan t f => rw [h1, h2] at h'; simp [Ieee.Datum.order] at h'
      | infinity t => rw [h1, h2] at h'; cases t <;> simp [Ieee.Datum.order] at h'
theorem order_fin' {x u : Nat} {a : Int} (h : FloatKind.f64.format.order x u = some .eq) (hu : S u = some a) : S x = some a := by
  have h' : Ieee.double.order x u = some .eq := h
  cases hx : S x with
  | some b =>
    rw [order_S hx hu] at h'
    rcases Int.lt_trichotomy b a with e | e | e
    · rw [cmp_lt e] at h'; cases h'
    · rw [e]
    · rw [cmp_gt e] at h'; cases h'
  | none =>
    unfold S at hx hu
    unfold Ieee.Format.order at h'
    cases h1 : Ieee.double.read u with
    | infinity s => rw [h1] at hu; simp [sc] at hu
    | nan s f => rw [h1] at hu; simp [sc] at hu
    | number s m e =>
      cases h2 : Ieee.double.read x with
      | number t n j => rw [h2] at hx; simp [sc] at hx
      | nan t f => rw [h1, h2] at h'; simp [Ieee.Datum.order] at h'
      | infinity t => rw [h1, h2] at h'; cases t <;> simp [Ieee.Datum.order] at h'
/-- Are two numbers the same, as floats are? -/
def sameF (x y u v : Nat) : Bool := (FloatKind.f64.format.order x u == some .eq) && (FloatKind.f64.format.order y v == some .eq)
theorem same_l {x y u v : Nat} {p : Int × Int} (h : sameF x y u v = true) (hp : pz x y = some p) : pz u v = some p := by
  unfold sameF at h
  simp only [Bool.and_eq_true, beq_iff_eq] at h
  obtain ⟨w1, w2⟩ := pz_val hp
  have a1 := wh_val w1
  have a2 := wh_val w2
  exact pz_some (wh_some (order_fin h.1 a1.1) a1.2.1 a1.2.2) (wh_some (order_fin h.2 a2.1) a2.2.1 a2.2.2)
theorem same_r {x y u v : Nat} {p : Int × Int} (h : sameF x y u v = true) (hp : pz u v = some p) : pz x y = some p := by
  unfold sameF at h
  simp only [Bool.and_eq_true, beq_iff_eq] at h
  obtain ⟨w1, w2⟩ := pz_val hp
  have a1 := wh_val w1
  have a2 := wh_val w2
  exact pz_some (wh_some (order_fin' h.1 a1.1) a1.2.1 a1.2.2) (wh_some (order_fin' h.2 a2.1) a2.2.1 a2.2.2)
theorem same_same {x y u v : Nat} {p : Int × Int} (h1 : pz x y = some p) (h2 : pz u v = some p) : sameF x y u v = true := by
  obtain ⟨w1, w2⟩ := pz_val h1
  obtain ⟨w3, w4⟩ := pz_val h2
  unfold sameF
  rw [ord_eq (wh_val w1).1 (wh_val w3).1, ord_eq (wh_val w2).1 (wh_val w4).1]
  rfl
theorem nrm_pos {x y : Nat} {p : Int × Int} (h : pz x y = some p) : 0 ≤ nrm (some p) := by
  have hi := pz_in h
  have s1 := sq_bound p.1 hi.1 hi.2.1
  have s2 := sq_bound p.2 hi.2.2.1 hi.2.2.2
  simp only [nrm]
  omega
theorem same14 (x y u v : Nat) : decide (cmpG (pz x y) (pz u v) = 0) = (sameF x y u v || (!(pz x y).isSome && !(pz u v).isSome)) := by
  cases hp : pz x y with
  | none =>
    cases hq : pz u v with
    | none => simp [cmpG, cm3]
    | some q =>
      have e : sameF x y u v = false := by
        cases h : sameF x y u v
        · rfl
        · have := same_r h hq; rw [hp] at this; cases this
      have hn := nrm_pos hq
      have : ¬ cmpG none (some q) = 0 := fun h => by
        have := (cm3_zero _ _ _ _ _ _).1 h
        have h3 : nrm none = -1 := rfl
        omega
      rw [decide_eq_false this, e]
      rfl
  | some p =>
    cases hq : pz u v with
    | none =>
      have e : sameF x y u v = false := by
        cases h : sameF x y u v
        · rfl
        · have := same_l h hp; rw [hq] at this; cases this
      have hn := nrm_pos hp
      have : ¬ cmpG (some p) none = 0 := fun h => by
        have := (cm3_zero _ _ _ _ _ _).1 h
        have h3 : nrm none = -1 := rfl
        omega
      rw [decide_eq_false this, e]
      rfl
    | some q =>
      by_cases h : p = q
      · subst h
        have e0 : cmpG (some p) (some p) = 0 := (cm3_zero _ _ _ _ _ _).2 ⟨rfl, rfl, rfl⟩
        rw [same_same hp hq, decide_eq_true e0]
        rfl
      · have e : sameF x y u v = false := by
          cases h2 : sameF x y u v
          · rfl
          · have := same_l h2 hp; rw [hq] at this; cases this; exact absurd rfl h
        have : ¬ cmpG (some p) (some q) = 0 := fun h3 => by
          have h4 := (cm3_zero _ _ _ _ _ _).1 h3
          exact h (Prod.ext h4.2.1 h4.2.2)
        rw [decide_eq_false this, e]
        rfl
set_option maxHeartbeats 25600000 in
theorem order14_law (x y u v r s : Nat) (w : World) (hL : Ly w) : Calls Tryd.prog 8 #[tt x y, tt u v, tt r s] w fun e w' => e = .returned (.bool true) ∧ Below w.heap.size w w' := by
  have HA := hide awake14
  have Z1 := hide (fun W => lz_b x y W)
  have Z2 := hide (fun W => lz_b u v W)
  have Z3 := hide (fun W => lz_b r s W)
  have H1 := hide (fun W hW => gcmp_any x y u v W hW)
  have H2 := hide (fun W hW => gcmp_any u v r s W hW)
  have H3 := hide (fun W hW => gcmp_any x y r s W hW)
  have h4 := fun W hW => gcmp_any u v x y W hW
  have hneg : cmpG (pz u v) (pz x y) = - cmpG (pz x y) (pz u v) := cm3_neg _ _ _ _ _ _
  rw [hneg] at h4
  have H4 := hide h4
  have H5 := hide (fun W hW => gfits_any x y W hW)
  have H6 := hide (fun W hW => gfits_any u v W hW)
  have hs := same14 x y u v
  have hv : cmpG (pz x y) (pz u v) = -1 ∨ cmpG (pz x y) (pz u v) = 0 ∨ cmpG (pz x y) (pz u v) = 1 := cm3_vals _ _ _ _ _ _
  have t1 : cmpG (pz x y) (pz u v) ≤ 0 → cmpG (pz u v) (pz r s) ≤ 0 → cmpG (pz x y) (pz r s) ≤ 0 := fun a b => cm3_trans _ _ _ _ _ _ _ _ _ a b
  have t2 : 0 ≤ cmpG (pz x y) (pz u v) → 0 ≤ cmpG (pz u v) (pz r s) → 0 ≤ cmpG (pz x y) (pz r s) := fun a b => by
    have n2 : cmpG (pz r s) (pz u v) = - cmpG (pz u v) (pz r s) := cm3_neg _ _ _ _ _ _
    have n3 : cmpG (pz r s) (pz x y) = - cmpG (pz x y) (pz r s) := cm3_neg _ _ _ _ _ _
    have := cm3_trans _ _ _ _ _ _ _ _ _ (show cmpG (pz r s) (pz u v) ≤ 0 by omega) (show cmpG (pz u v) (pz x y) ≤ 0 by omega)
    have h9 : cmpG (pz r s) (pz x y) ≤ 0 := this
    omega
  have E : ((FloatKind.f64.format.order x u == some .eq) && (FloatKind.f64.format.order y v == some .eq)) = sameF x y u v := rfl
  clear h4 hneg
  generalize cmpG (pz x y) (pz u v) = A at *
  generalize cmpG (pz u v) (pz r s) = B at *
  generalize cmpG (pz x y) (pz r s) = C at *
  generalize (pz x y).isSome = f1 at *
  generalize (pz u v).isSome = f2 at *
  generalize sameF x y u v = ee at *
  rcases hv with rfl | rfl | rfl
  · clear t2
    by_cases b1 : B ≤ 0
    · have cc1 : C ≤ 0 := t1 (by omega) b1
      clear t1
      have dd0 : decide (B ≤ 0) = true := decide_eq_true (by omega)
      have dd1 : decide (0 < C) = false := decide_eq_false (by omega)
      obtain rfl : ee = false := by cases ee <;> simp at hs; rfl
      cases f1
      · obtain rfl : f2 = true := by cases f2 <;> simp at hs; rfl
        clear hs
        have mx : Tryd.prog.follows .mixedOrders = true := by kernel_rfl
        have c0 : Below w.heap.size w (((w.alloc (.cells #[.float .f64 x, .float .f64 y] 24)).alloc (.cells #[.float .f64 u, .float .f64 v] 24)).alloc (.cells #[.float .f64 r, .float .f64 s] 24)) := ((Below.one w _).trans ((Below.one _ _).mono (by simp <;> omega))).trans ((Below.one _ _).mono (by simp <;> omega))
        have L0 := hL.keep c0
        have p0 : Bx (((w.alloc (.cells #[.float .f64 x, .float .f64 y] 24)).alloc (.cells #[.float .f64 u, .float .f64 v] 24)).alloc (.cells #[.float .f64 r, .float .f64 s] 24)) (w.heap.size) x y := ((bxn w x y (w.heap.size) 24 (by simp)).below (Below.one _ _)).below (Below.one _ _)
        have p0a := p0.1
        have p0b := p0.2
        have q0 : Bx (((w.alloc (.cells #[.float .f64 x, .float .f64 y] 24)).alloc (.cells #[.float .f64 u, .float .f64 v] 24)).alloc (.cells #[.float .f64 r, .float .f64 s] 24)) (w.heap.size + 1) u v := (bxn (w.alloc (.cells #[.float .f64 x, .float .f64 y] 24)) u v (w.heap.size + 1) 24 (by simp)).below (Below.one _ _)
        have q0a := q0.1
        have q0b := q0.2
        have t0 : Bx (((w.alloc (.cells #[.float .f64 x, .float .f64 y] 24)).alloc (.cells #[.float .f64 u, .float .f64 v] 24)).alloc (.cells #[.float .f64 r, .float .f64 s] 24)) (w.heap.size + 1 + 1) r s := bxn ((w.alloc (.cells #[.float .f64 x, .float .f64 y] 24)).alloc (.cells #[.float .f64 u, .float .f64 v] 24)) r s (w.heap.size + 1 + 1) 24 (by simp)
        have t0a := t0.1
        have t0b := t0.2
        go_enter Tryd.func8, Tryd.ntmps8
        go_wp2
        have p0q := p0.bb.1
        have p0r := p0.bb.2
        have q0q := q0.bb.1
        have q0r := q0.bb.2
        have t0q := t0.bb.1
        have t0r := t0.bb.2
        refine wp_region_below mx (by kernel_rfl) ?_
        intro nebb
        repeat (go_big_quiet_step (fail))
        go_big_quiet_step ((go_at_call 10; exact callsBB (unhide Z1 _)))
        repeat (go_big_quiet_step (fail))
        go_big_quiet_step ((go_at_call 10; exact callsBB (unhide Z2 _)))
        repeat (go_big_quiet_step (fail))
        go_big_quiet_step ((go_at_call 25; exact callsBB (unhide H1 _ (lyBB L0))))
        repeat (go_big_quiet_step (fail))
        go_big_quiet_step ((go_at_call 10; exact callsBB (unhide Z2 _)))
        repeat (go_big_quiet_step (fail))
        go_big_quiet_step ((go_at_call 10; exact callsBB (unhide Z3 _)))
        repeat (go_big_quiet_step (fail))
        go_big_quiet_step ((go_at_call 25; exact callsBB (unhide H2 _ (lyBB L0))))
        repeat (go_big_quiet_step (fail))
        go_big_quiet_step ((go_at_call 10; exact callsBB (unhide Z1 _)))
        repeat (go_big_quiet_step (fail))
        go_big_quiet_step ((go_at_call 10; exact callsBB (unhide Z3 _)))
        repeat (go_big_quiet_step (fail))
        go_big_quiet_step ((go_at_call 25; exact callsBB (unhide H3 _ (lyBB L0))))
        repeat (go_big_quiet_step (fail))
        refine wpQuiet_nil ?_
        intro _ hw'
        obtain ⟨pq, hw''⟩ := hw'
        subst hw''
        have b1 := pq.b
        generalize pq.W = w1 at *
        have c1 := c0.trans (b1.mono c0.size)
        have L1 := hL.keep c1
        have p1 := p0.below b1
        have p1a := p1.1
        have p1b := p1.2
        have q1 := q0.below b1
        have q1a := q1.1
        have q1b := q1.2
        have t1 := t0.below b1
        have t1a := t1.1
        have t1b := t1.2
        clear p0q p0r q0q q0r t0q t0r
        go_wp2
        have p1q := p1.bb.1
        have p1r := p1.bb.2
        have q1q := q1.bb.1
        have q1r := q1.bb.2
        have t1q := t1.bb.1
        have t1r := t1.bb.2
        refine wp_region_below mx (by kernel_rfl) ?_
        intro nebb
        repeat (go_big_quiet_step (fail))
        go_big_quiet_step ((go_at_call 10; exact callsBB (unhide Z2 _)))
        repeat (go_big_quiet_step (fail))
        go_big_quiet_step ((go_at_call 10; exact callsBB (unhide Z1 _)))
        repeat (go_big_quiet_step (fail))
        go_big_quiet_step ((go_at_call 25; exact callsBB (unhide H4 _ (lyBB L1))))
        repeat (go_big_quiet_step (fail))
        refine wpQuiet_nil ?_
        intro _ hw'
        obtain ⟨pq, hw''⟩ := hw'
        subst hw''
        have b2 := pq.b
        generalize pq.W = w2 at *
        have c2 := c1.trans (b2.mono c1.size)
        have L2 := hL.keep c2
        have p2 := p1.below b2
        have p2a := p2.1
        have p2b := p2.2
        have q2 := q1.below b2
        have q2a := q2.1
        have q2b := q2.2
        have t2 := t1.below b2
        have t2a := t2.1
        have t2b := t2.2
        clear p1q p1r q1q q1r t1q t1r
        go_wp2
        have p2q := p2.bb.1
        have p2r := p2.bb.2
        have q2q := q2.bb.1
        have q2r := q2.bb.2
        have t2q := t2.bb.1
        have t2r := t2.bb.2
        refine wp_region_below mx (by kernel_rfl) ?_
        intro nebb
        repeat (go_big_quiet_step (fail))
        go_big_quiet_step ((go_at_call 10; exact callsBB (unhide Z1 _)))
        repeat (go_big_quiet_step (fail))
        go_big_quiet_step ((go_at_call 10; exact callsBB (unhide Z2 _)))
        repeat (go_big_quiet_step (fail))
        go_big_quiet_step ((go_at_call 10; exact callsBB (unhide Z1 _)))
        repeat (go_big_quiet_step (fail))
        go_big_quiet_step ((go_at_call 17; exact callsBB (unhide H5 _ (lyBB L2))))
        repeat (go_big_quiet_step (fail))
        go_big_quiet_step ((go_at_call 10; exact callsBB (unhide Z2 _)))
        repeat (go_big_quiet_step (fail))
        go_big_quiet_step ((go_at_call 17; exact callsBB (unhide H6 _ (lyBB L2))))
        repeat (go_big_quiet_step (fail))
        refine wpQuiet_nil ?_
        intro _ hw'
        obtain ⟨pq, hw''⟩ := hw'
        subst hw''
        have b3 := pq.b
        generalize pq.W = w3 at *
        have c3 := c2.trans (b3.mono c2.size)
        have L3 := hL.keep c3
        have p3 := p2.below b3
        have p3a := p3.1
        have p3b := p3.2
        have q3 := q2.below b3
        have q3a := q3.1
        have q3b := q3.2
        have t3 := t2.below b3
        have t3a := t3.1
        have t3b := t3.2
        clear p2q p2r q2q q2r t2q t2r
        go_wp2_with (first
          | (go_at_call 20; refine (unhide HA _ L3).mono ?_; rintro e w4 ⟨rfl, b4⟩; have c4 := c3.trans (b4.mono c3.size); have L4 := hL.keep c4; have p4 := p3.below b4; have p4a := p4.1; have p4b := p4.2; have q4 := q3.below b4; have q4a := q4.1; have q4b := q4.2; have t4 := t3.below b4; have t4a := t4.1; have t4b := t4.2))
        go_ret
        exact ⟨rfl, c4⟩
      · clear hs
        have mx : Tryd.prog.follows .mixedOrders = true := by kernel_rfl
        have c0 : Below w.heap.size w (((w.alloc (.cells #[.float .f64 x, .float .f64 y] 24)).alloc (.cells #[.float .f64 u, .float .f64 v] 24)).alloc (.cells #[.float .f64 r, .float .f64 s] 24)) := ((Below.one w _).trans ((Below.one _ _).mono (by simp <;> omega))).trans ((Below.one _ _).mono (by simp <;> omega))
        have L0 := hL.keep c0
        have p0 : Bx (((w.alloc (.cells #[.float .f64 x, .float .f64 y] 24)).alloc (.cells #[.float .f64 u, .float .f64 v] 24)).alloc (.cells #[.float .f64 r, .float .f64 s] 24)) (w.heap.size) x y := ((bxn w x y (w.heap.size) 24 (by simp)).below (Below.one _ _)).below (Below.one _ _)
        have p0a := p0.1
        have p0b := p0.2
        have q0 : Bx (((w.alloc (.cells #[.float .f64 x, .float .f64 y] 24)).alloc (.cells #[.float .f64 u, .float .f64 v] 24)).alloc (.cells #[.float .f64 r, .float .f64 s] 24)) (w.heap.size + 1) u v := (bxn (w.alloc (.cells #[.float .f64 x, .float .f64 y] 24)) u v (w.heap.size + 1) 24 (by simp)).below (Below.one _ _)
        have q0a := q0.1
        have q0b := q0.2
        have t0 : Bx (((w.alloc (.cells #[.float .f64 x, .float .f64 y] 24)).alloc (.cells #[.float .f64 u, .float .f64 v] 24)).alloc (.cells #[.float .f64 r, .float .f64 s] 24)) (w.heap.size + 1 + 1) r s := bxn ((w.alloc (.cells #[.float .f64 x, .float .f64 y] 24)).alloc (.cells #[.float .f64 u, .float .f64 v] 24)) r s (w.heap.size + 1 + 1) 24 (by simp)
        have t0a := t0.1
        have t0b := t0.2
        go_enter Tryd.func8, Tryd.ntmps8
        go_wp2
        have p0q := p0.bb.1
        have p0r := p0.bb.2
        have q0q := q0.bb.1
        have q0r := q0.bb.2
        have t0q := t0.bb.1
        have t0r := t0.bb.2
        refine wp_region_below mx (by kernel_rfl) ?_
        intro nebb
        repeat (go_big_quiet_step (fail))
        go_big_quiet_step ((go_at_call 10; exact callsBB (unhide Z1 _)))
        repeat (go_big_quiet_step (fail))
        go_big_quiet_step ((go_at_call 10; exact callsBB (unhide Z2 _)))
        repeat (go_big_quiet_step (fail))
        go_big_quiet_step ((go_at_call 25; exact callsBB (unhide H1 _ (lyBB L0))))
        repeat (go_big_quiet_step (fail))
        go_big_quiet_step ((go_at_call 10; exact callsBB (unhide Z2 _)))
        repeat (go_big_quiet_step (fail))
        go_big_quiet_step ((go_at_call 10; exact callsBB (unhide Z3 _)))
        repeat (go_big_quiet_step (fail))
        go_big_quiet_step ((go_at_call 25; exact callsBB (unhide H2 _ (lyBB L0))))
        repeat (go_big_quiet_step (fail))
        go_big_quiet_step ((go_at_call 10; exact callsBB (unhide Z1 _)))
        repeat (go_big_quiet_step (fail))
        go_big_quiet_step ((go_at_call 10; exact callsBB (unhide Z3 _)))
        repeat (go_big_quiet_step (fail))
        go_big_quiet_step ((go_at_call 25; exact callsBB (unhide H3 _ (lyBB L0))))
        repeat (go_big_quiet_step (fail))
        refine wpQuiet_nil ?_
        intro _ hw'
        obtain ⟨pq, hw''⟩ := hw'
        subst hw''
        have b1 := pq.b
        generalize pq.W = w1 at *
        have c1 := c0.trans (b1.mono c0.size)
        have L1 := hL.keep c1
        have p1 := p0.below b1
        have p1a := p1.1
        have p1b := p1.2
        have q1 := q0.below b1
        have q1a := q1.1
        have q1b := q1.2
        have t1 := t0.below b1
        have t1a := t1.1
        have t1b := t1.2
        clear p0q p0r q0q q0r t0q t0r
        go_wp2
        have p1q := p1.bb.1
        have p1r := p1.bb.2
        have q1q := q1.bb.1
        have q1r := q1.bb.2
        have t1q := t1.bb.1
        have t1r := t1.bb.2
        refine wp_region_below mx (by kernel_rfl) ?_
        intro nebb
        repeat (go_big_quiet_step (fail))
        go_big_quiet_step ((go_at_call 10; exact callsBB (unhide Z2 _)))
        repeat (go_big_quiet_step (fail))
        go_big_quiet_step ((go_at_call 10; exact callsBB (unhide Z1 _)))
        repeat (go_big_quiet_step (fail))
        go_big_quiet_step ((go_at_call 25; exact callsBB (unhide H4 _ (lyBB L1))))
        repeat (go_big_quiet_step (fail))
        refine wpQuiet_nil ?_
        intro _ hw'
        obtain ⟨pq, hw''⟩ := hw'
        subst hw''
        have b2 := pq.b
        generalize pq.W = w2 at *
        have c2 := c1.trans (b2.mono c1.size)
        have L2 := hL.keep c2
        have p2 := p1.below b2
        have p2a := p2.1
        have p2b := p2.2
        have q2 := q1.below b2
        have q2a := q2.1
        have q2b := q2.2
        have t2 := t1.below b2
        have t2a := t2.1
        have t2b := t2.2
        clear p1q p1r q1q q1r t1q t1r
        go_wp2
        have p2q := p2.bb.1
        have p2r := p2.bb.2
        have q2q := q2.bb.1
        have q2r := q2.bb.2
        have t2q := t2.bb.1
        have t2r := t2.bb.2
        refine wp_region_below mx (by kernel_rfl) ?_
        intro nebb
        repeat (go_big_quiet_step (fail))
        go_big_quiet_step ((go_at_call 10; exact callsBB (unhide Z1 _)))
        repeat (go_big_quiet_step (fail))
        go_big_quiet_step ((go_at_call 10; exact callsBB (unhide Z2 _)))
        repeat (go_big_quiet_step (fail))
        go_big_quiet_step ((go_at_call 10; exact callsBB (unhide Z1 _)))
        repeat (go_big_quiet_step (fail))
        go_big_quiet_step ((go_at_call 17; exact callsBB (unhide H5 _ (lyBB L2))))
        repeat (go_big_quiet_step (fail))
        refine wpQuiet_nil ?_
        intro _ hw'
        obtain ⟨pq, hw''⟩ := hw'
        subst hw''
        have b3 := pq.b
        generalize pq.W = w3 at *
        have c3 := c2.trans (b3.mono c2.size)
        have L3 := hL.keep c3
        have p3 := p2.below b3
        have p3a := p3.1
        have p3b := p3.2
        have q3 := q2.below b3
        have q3a := q3.1
        have q3b := q3.2
        have t3 := t2.below b3
        have t3a := t3.1
        have t3b := t3.2
        clear p2q p2r q2q q2r t2q t2r
        go_wp2_with (first
          | (go_at_call 20; refine (unhide HA _ L3).mono ?_; rintro e w4 ⟨rfl, b4⟩; have c4 := c3.trans (b4.mono c3.size); have L4 := hL.keep c4; have p4 := p3.below b4; have p4a := p4.1; have p4b := p4.2; have q4 := q3.below b4; have q4a := q4.1; have q4b := q4.2; have t4 := t3.below b4; have t4a := t4.1; have t4b := t4.2))
        go_ret
        exact ⟨rfl, c4⟩
    · clear t1
      have dd0 : decide (B ≤ 0) = false := decide_eq_false (by omega)
      obtain rfl : ee = false := by cases ee <;> simp at hs; rfl
      cases f1
      · obtain rfl : f2 = true := by cases f2 <;> simp at hs; rfl
        clear hs
        have mx : Tryd.prog.follows .mixedOrders = true := by kernel_rfl
        have c0 : Below w.heap.size w (((w.alloc (.cells #[.float .f64 x, .float .f64 y] 24)).alloc (.cells #[.float .f64 u, .float .f64 v] 24)).alloc (.cells #[.float .f64 r, .float .f64 s] 24)) := ((Below.one w _).trans ((Below.one _ _).mono (by simp <;> omega))).trans ((Below.one _ _).mono (by simp <;> omega))
        have L0 := hL.keep c0
        have p0 : Bx (((w.alloc (.cells #[.float .f64 x, .float .f64 y] 24)).alloc (.cells #[.float .f64 u, .float .f64 v] 24)).alloc (.cells #[.float .f64 r, .float .f64 s] 24)) (w.heap.size) x y := ((bxn w x y (w.heap.size) 24 (by simp)).below (Below.one _ _)).below (Below.one _ _)
        have p0a := p0.1
        have p0b := p0.2
        have q0 : Bx (((w.alloc (.cells #[.float .f64 x, .float .f64 y] 24)).alloc (.cells #[.float .f64 u, .float .f64 v] 24)).alloc (.cells #[.float .f64 r, .float .f64 s] 24)) (w.heap.size + 1) u v := (bxn (w.alloc (.cells #[.float .f64 x, .float .f64 y] 24)) u v (w.heap.size + 1) 24 (by simp)).below (Below.one _ _)
        have q0a := q0.1
        have q0b := q0.2
        have t0 : Bx (((w.alloc (.cells #[.float .f64 x, .float .f64 y] 24)).alloc (.cells #[.float .f64 u, .float .f64 v] 24)).alloc (.cells #[.float .f64 r, .float .f64 s] 24)) (w.heap.size + 1 + 1) r s := bxn ((w.alloc (.cells #[.float .f64 x, .float .f64 y] 24)).alloc (.cells #[.float .f64 u, .float .f64 v] 24)) r s (w.heap.size + 1 + 1) 24 (by simp)
        have t0a := t0.1
        have t0b := t0.2
        go_enter Tryd.func8, Tryd.ntmps8
        go_wp2
        have p0q := p0.bb.1
        have p0r := p0.bb.2
        have q0q := q0.bb.1
        have q0r := q0.bb.2
        have t0q := t0.bb.1
        have t0r := t0.bb.2
        refine wp_region_below mx (by kernel_rfl) ?_
        intro nebb
        repeat (go_big_quiet_step (fail))
        go_big_quiet_step ((go_at_call 10; exact callsBB (unhide Z1 _)))
        repeat (go_big_quiet_step (fail))
        go_big_quiet_step ((go_at_call 10; exact callsBB (unhide Z2 _)))
        repeat (go_big_quiet_step (fail))
        go_big_quiet_step ((go_at_call 25; exact callsBB (unhide H1 _ (lyBB L0))))
        repeat (go_big_quiet_step (fail))
        go_big_quiet_step ((go_at_call 10; exact callsBB (unhide Z2 _)))
        repeat (go_big_quiet_step (fail))
        go_big_quiet_step ((go_at_call 10; exact callsBB (unhide Z3 _)))
        repeat (go_big_quiet_step (fail))
        go_big_quiet_step ((go_at_call 25; exact callsBB (unhide H2 _ (lyBB L0))))
        repeat (go_big_quiet_step (fail))
        go_big_quiet_step ((go_at_call 10; exact callsBB (unhide Z1 _)))
        repeat (go_big_quiet_step (fail))
        go_big_quiet_step ((go_at_call 10; exact callsBB (unhide Z3 _)))
        repeat (go_big_quiet_step (fail))
        go_big_quiet_step ((go_at_call 25; exact callsBB (unhide H3 _ (lyBB L0))))
        repeat (go_big_quiet_step (fail))
        refine wpQuiet_nil ?_
        intro _ hw'
        obtain ⟨pq, hw''⟩ := hw'
        subst hw''
        have b1 := pq.b
        generalize pq.W = w1 at *
        have c1 := c0.trans (b1.mono c0.size)
        have L1 := hL.keep c1
        have p1 := p0.below b1
        have p1a := p1.1
        have p1b := p1.2
        have q1 := q0.below b1
        have q1a := q1.1
        have q1b := q1.2
        have t1 := t0.below b1
        have t1a := t1.1
        have t1b := t1.2
        clear p0q p0r q0q q0r t0q t0r
        go_wp2
        have p1q := p1.bb.1
        have p1r := p1.bb.2
        have q1q := q1.bb.1
        have q1r := q1.bb.2
        have t1q := t1.bb.1
        have t1r := t1.bb.2
        refine wp_region_below mx (by kernel_rfl) ?_
        intro nebb
        repeat (go_big_quiet_step (fail))
        go_big_quiet_step ((go_at_call 10; exact callsBB (unhide Z2 _)))
        repeat (go_big_quiet_step (fail))
        go_big_quiet_step ((go_at_call 10; exact callsBB (unhide Z1 _)))
        repeat (go_big_quiet_step (fail))
        go_big_quiet_step ((go_at_call 25; exact callsBB (unhide H4 _ (lyBB L1))))
        repeat (go_big_quiet_step (fail))
        refine wpQuiet_nil ?_
        intro _ hw'
        obtain ⟨pq, hw''⟩ := hw'
        subst hw''
        have b2 := pq.b
        generalize pq.W = w2 at *
        have c2 := c1.trans (b2.mono c1.size)
        have L2 := hL.keep c2
        have p2 := p1.below b2
        have p2a := p2.1
        have p2b := p2.2
        have q2 := q1.below b2
        have q2a := q2.1
        have q2b := q2.2
        have t2 := t1.below b2
        have t2a := t2.1
        have t2b := t2.2
        clear p1q p1r q1q q1r t1q t1r
        go_wp2
        have p2q := p2.bb.1
        have p2r := p2.bb.2
        have q2q := q2.bb.1
        have q2r := q2.bb.2
        have t2q := t2.bb.1
        have t2r := t2.bb.2
        refine wp_region_below mx (by kernel_rfl) ?_
        intro nebb
        repeat (go_big_quiet_step (fail))
        go_big_quiet_step ((go_at_call 10; exact callsBB (unhide Z1 _)))
        repeat (go_big_quiet_step (fail))
        go_big_quiet_step ((go_at_call 10; exact callsBB (unhide Z2 _)))
        repeat (go_big_quiet_step (fail))
        go_big_quiet_step ((go_at_call 10; exact callsBB (unhide Z1 _)))
        repeat (go_big_quiet_step (fail))
        go_big_quiet_step ((go_at_call 17; exact callsBB (unhide H5 _ (lyBB L2))))
        repeat (go_big_quiet_step (fail))
        go_big_quiet_step ((go_at_call 10; exact callsBB (unhide Z2 _)))
        repeat (go_big_quiet_step (fail))
        go_big_quiet_step ((go_at_call 17; exact callsBB (unhide H6 _ (lyBB L2))))
        repeat (go_big_quiet_step (fail))
        refine wpQuiet_nil ?_
        intro _ hw'
        obtain ⟨pq, hw''⟩ := hw'
        subst hw''
        have b3 := pq.b
        generalize pq.W = w3 at *
        have c3 := c2.trans (b3.mono c2.size)
        have L3 := hL.keep c3
        have p3 := p2.below b3
        have p3a := p3.1
        have p3b := p3.2
        have q3 := q2.below b3
        have q3a := q3.1
        have q3b := q3.2
        have t3 := t2.below b3
        have t3a := t3.1
        have t3b := t3.2
        clear p2q p2r q2q q2r t2q t2r
        go_wp2_with (first
          | (go_at_call 20; refine (unhide HA _ L3).mono ?_; rintro e w4 ⟨rfl, b4⟩; have c4 := c3.trans (b4.mono c3.size); have L4 := hL.keep c4; have p4 := p3.below b4; have p4a := p4.1; have p4b := p4.2; have q4 := q3.below b4; have q4a := q4.1; have q4b := q4.2; have t4 := t3.below b4; have t4a := t4.1; have t4b := t4.2))
        go_ret
        exact ⟨rfl, c4⟩
      · clear hs
        have mx : Tryd.prog.follows .mixedOrders = true := by kernel_rfl
        have c0 : Below w.heap.size w (((w.alloc (.cells #[.float .f64 x, .float .f64 y] 24)).alloc (.cells #[.float .f64 u, .float .f64 v] 24)).alloc (.cells #[.float .f64 r, .float .f64 s] 24)) := ((Below.one w _).trans ((Below.one _ _).mono (by simp <;> omega))).trans ((Below.one _ _).mono (by simp <;> omega))
        have L0 := hL.keep c0
        have p0 : Bx (((w.alloc (.cells #[.float .f64 x, .float .f64 y] 24)).alloc (.cells #[.float .f64 u, .float .f64 v] 24)).alloc (.cells #[.float .f64 r, .float .f64 s] 24)) (w.heap.size) x y := ((bxn w x y (w.heap.size) 24 (by simp)).below (Below.one _ _)).below (Below.one _ _)
        have p0a := p0.1
        have p0b := p0.2
        have q0 : Bx (((w.alloc (.cells #[.float .f64 x, .float .f64 y] 24)).alloc (.cells #[.float .f64 u, .float .f64 v] 24)).alloc (.cells #[.float .f64 r, .float .f64 s] 24)) (w.heap.size + 1) u v := (bxn (w.alloc (.cells #[.float .f64 x, .float .f64 y] 24)) u v (w.heap.size + 1) 24 (by simp)).below (Below.one _ _)
        have q0a := q0.1
        have q0b := q0.2
        have t0 : Bx (((w.alloc (.cells #[.float .f64 x, .float .f64 y] 24)).alloc (.cells #[.float .f64 u, .float .f64 v] 24)).alloc (.cells #[.float .f64 r, .float .f64 s] 24)) (w.heap.size + 1 + 1) r s := bxn ((w.alloc (.cells #[.float .f64 x, .float .f64 y] 24)).alloc (.cells #[.float .f64 u, .float .f64 v] 24)) r s (w.heap.size + 1 + 1) 24 (by simp)
        have t0a := t0.1
        have t0b := t0.2
        go_enter Tryd.func8, Tryd.ntmps8
        go_wp2
        have p0q := p0.bb.1
        have p0r := p0.bb.2
        have q0q := q0.bb.1
        have q0r := q0.bb.2
        have t0q := t0.bb.1
        have t0r := t0.bb.2
        refine wp_region_below mx (by kernel_rfl) ?_
        intro nebb
        repeat (go_big_quiet_step (fail))
        go_big_quiet_step ((go_at_call 10; exact callsBB (unhide Z1 _)))
        repeat (go_big_quiet_step (fail))
        go_big_quiet_step ((go_at_call 10; exact callsBB (unhide Z2 _)))
        repeat (go_big_quiet_step (fail))
        go_big_quiet_step ((go_at_call 25; exact callsBB (unhide H1 _ (lyBB L0))))
        repeat (go_big_quiet_step (fail))
        go_big_quiet_step ((go_at_call 10; exact callsBB (unhide Z2 _)))
        repeat (go_big_quiet_step (fail))
        go_big_quiet_step ((go_at_call 10; exact callsBB (unhide Z3 _)))
        repeat (go_big_quiet_step (fail))
        go_big_quiet_step ((go_at_call 25; exact callsBB (unhide H2 _ (lyBB L0))))
        repeat (go_big_quiet_step (fail))
        go_big_quiet_step ((go_at_call 10; exact callsBB (unhide Z1 _)))
        repeat (go_big_quiet_step (fail))
        go_big_quiet_step ((go_at_call 10; exact callsBB (unhide Z3 _)))
        repeat (go_big_quiet_step (fail))
        go_big_quiet_step ((go_at_call 25; exact callsBB (unhide H3 _ (lyBB L0))))
        repeat (go_big_quiet_step (fail))
        refine wpQuiet_nil ?_
        intro _ hw'
        obtain ⟨pq, hw''⟩ := hw'
        subst hw''
        have b1 := pq.b
        generalize pq.W = w1 at *
        have c1 := c0.trans (b1.mono c0.size)
        have L1 := hL.keep c1
        have p1 := p0.below b1
        have p1a := p1.1
        have p1b := p1.2
        have q1 := q0.below b1
        have q1a := q1.1
        have q1b := q1.2
        have t1 := t0.below b1
        have t1a := t1.1
        have t1b := t1.2
        clear p0q p0r q0q q0r t0q t0r
        go_wp2
        have p1q := p1.bb.1
        have p1r := p1.bb.2
        have q1q := q1.bb.1
        have q1r := q1.bb.2
        have t1q := t1.bb.1
        have t1r := t1.bb.2
        refine wp_region_below mx (by kernel_rfl) ?_
        intro nebb
        repeat (go_big_quiet_step (fail))
        go_big_quiet_step ((go_at_call 10; exact callsBB (unhide Z2 _)))
        repeat (go_big_quiet_step (fail))
        go_big_quiet_step ((go_at_call 10; exact callsBB (unhide Z1 _)))
        repeat (go_big_quiet_step (fail))
        go_big_quiet_step ((go_at_call 25; exact callsBB (unhide H4 _ (lyBB L1))))
        repeat (go_big_quiet_step (fail))
        refine wpQuiet_nil ?_
        intro _ hw'
        obtain ⟨pq, hw''⟩ := hw'
        subst hw''
        have b2 := pq.b
        generalize pq.W = w2 at *
        have c2 := c1.trans (b2.mono c1.size)
        have L2 := hL.keep c2
        have p2 := p1.below b2
        have p2a := p2.1
        have p2b := p2.2
        have q2 := q1.below b2
        have q2a := q2.1
        have q2b := q2.2
        have t2 := t1.below b2
        have t2a := t2.1
        have t2b := t2.2
        clear p1q p1r q1q q1r t1q t1r
        go_wp2
        have p2q := p2.bb.1
        have p2r := p2.bb.2
        have q2q := q2.bb.1
        have q2r := q2.bb.2
        have t2q := t2.bb.1
        have t2r := t2.bb.2
        refine wp_region_below mx (by kernel_rfl) ?_
        intro nebb
        repeat (go_big_quiet_step (fail))
        go_big_quiet_step ((go_at_call 10; exact callsBB (unhide Z1 _)))
        repeat (go_big_quiet_step (fail))
        go_big_quiet_step ((go_at_call 10; exact callsBB (unhide Z2 _)))
        repeat (go_big_quiet_step (fail))
        go_big_quiet_step ((go_at_call 10; exact callsBB (unhide Z1 _)))
        repeat (go_big_quiet_step (fail))
        go_big_quiet_step ((go_at_call 17; exact callsBB (unhide H5 _ (lyBB L2))))
        repeat (go_big_quiet_step (fail))
        refine wpQuiet_nil ?_
        intro _ hw'
        obtain ⟨pq, hw''⟩ := hw'
        subst hw''
        have b3 := pq.b
        generalize pq.W = w3 at *
        have c3 := c2.trans (b3.mono c2.size)
        have L3 := hL.keep c3
        have p3 := p2.below b3
        have p3a := p3.1
        have p3b := p3.2
        have q3 := q2.below b3
        have q3a := q3.1
        have q3b := q3.2
        have t3 := t2.below b3
        have t3a := t3.1
        have t3b := t3.2
        clear p2q p2r q2q q2r t2q t2r
        go_wp2_with (first
          | (go_at_call 20; refine (unhide HA _ L3).mono ?_; rintro e w4 ⟨rfl, b4⟩; have c4 := c3.trans (b4.mono c3.size); have L4 := hL.keep c4; have p4 := p3.below b4; have p4a := p4.1; have p4b := p4.2; have q4 := q3.below b4; have q4a := q4.1; have q4b := q4.2; have t4 := t3.below b4; have t4a := t4.1; have t4b := t4.2))
        go_ret
        exact ⟨rfl, c4⟩
  · by_cases b1 : B ≤ 0
    · have cc1 : C ≤ 0 := t1 (by omega) b1
      by_cases b2 : 0 ≤ B
      · have cc2 : 0 ≤ C := t2 (by omega) b2
        clear t1 t2
        have dd0 : decide (B ≤ 0) = true := decide_eq_true (by omega)
        have dd1 : decide (0 < C) = false := decide_eq_false (by omega)
        have dd2 : decide (0 ≤ B) = true := decide_eq_true (by omega)
        have dd3 : decide (C < 0) = false := decide_eq_false (by omega)
        cases ee
        · obtain ⟨rfl, rfl⟩ : f1 = false ∧ f2 = false := by cases f1 <;> cases f2 <;> simp at hs <;> exact ⟨rfl, rfl⟩
          clear hs
          have mx : Tryd.prog.follows .mixedOrders = true := by kernel_rfl
          have c0 : Below w.heap.size w (((w.alloc (.cells #[.float .f64 x, .float .f64 y] 24)).alloc (.cells #[.float .f64 u, .float .f64 v] 24)).alloc (.cells #[.float .f64 r, .float .f64 s] 24)) := ((Below.one w _).trans ((Below.one _ _).mono (by simp <;> omega))).trans ((Below.one _ _).mono (by simp <;> omega))
          have L0 := hL.keep c0
          have p0 : Bx (((w.alloc (.cells #[.float .f64 x, .float .f64 y] 24)).alloc (.cells #[.float .f64 u, .float .f64 v] 24)).alloc (.cells #[.float .f64 r, .float .f64 s] 24)) (w.heap.size) x y := ((bxn w x y (w.heap.size) 24 (by simp)).below (Below.one _ _)).below (Below.one _ _)
          have p0a := p0.1
          have p0b := p0.2
          have q0 : Bx (((w.alloc (.cells #[.float .f64 x, .float .f64 y] 24)).alloc (.cells #[.float .f64 u, .float .f64 v] 24)).alloc (.cells #[.float .f64 r, .float .f64 s] 24)) (w.heap.size + 1) u v := (bxn (w.alloc (.cells #[.float .f64 x, .float .f64 y] 24)) u v (w.heap.size + 1) 24 (by simp)).below (Below.one _ _)
          have q0a := q0.1
          have q0b := q0.2
          have t0 : Bx (((w.alloc (.cells #[.float .f64 x, .float .f64 y] 24)).alloc (.cells #[.float .f64 u, .float .f64 v] 24)).alloc (.cells #[.float .f64 r, .float .f64 s] 24)) (w.heap.size + 1 + 1) r s := bxn ((w.alloc (.cells #[.float .f64 x, .float .f64 y] 24)).alloc (.cells #[.float .f64 u, .float .f64 v] 24)) r s (w.heap.size + 1 + 1) 24 (by simp)
          have t0a := t0.1
          have t0b := t0.2
          go_enter Tryd.func8, Tryd.ntmps8
          go_wp2
          have p0q := p0.bb.1
          have p0r := p0.bb.2
          have q0q := q0.bb.1
          have q0r := q0.bb.2
          have t0q := t0.bb.1
          have t0r := t0.bb.2
          refine wp_region_below mx (by kernel_rfl) ?_
          intro nebb
          repeat (go_big_quiet_step (fail))
          go_big_quiet_step ((go_at_call 10; exact callsBB (unhide Z1 _)))
          repeat (go_big_quiet_step (fail))
          go_big_quiet_step ((go_at_call 10; exact callsBB (unhide Z2 _)))
          repeat (go_big_quiet_step (fail))
          go_big_quiet_step ((go_at_call 25; exact callsBB (unhide H1 _ (lyBB L0))))
          repeat (go_big_quiet_step (fail))
          go_big_quiet_step ((go_at_call 10; exact callsBB (unhide Z2 _)))
          repeat (go_big_quiet_step (fail))
          go_big_quiet_step ((go_at_call 10; exact callsBB (unhide Z3 _)))
          repeat (go_big_quiet_step (fail))
          go_big_quiet_step ((go_at_call 25; exact callsBB (unhide H2 _ (lyBB L0))))
          repeat (go_big_quiet_step (fail))
          go_big_quiet_step ((go_at_call 10; exact callsBB (unhide Z1 _)))
          repeat (go_big_quiet_step (fail))
          go_big_quiet_step ((go_at_call 10; exact callsBB (unhide Z3 _)))
          repeat (go_big_quiet_step (fail))
          go_big_quiet_step ((go_at_call 25; exact callsBB (unhide H3 _ (lyBB L0))))
          repeat (go_big_quiet_step (fail))
          refine wpQuiet_nil ?_
          intro _ hw'
          obtain ⟨pq, hw''⟩ := hw'
          subst hw''
          have b1 := pq.b
          generalize pq.W = w1 at *
          have c1 := c0.trans (b1.mono c0.size)
          have L1 := hL.keep c1
          have p1 := p0.below b1
          have p1a := p1.1
          have p1b := p1.2
          have q1 := q0.below b1
          have q1a := q1.1
          have q1b := q1.2
          have t1 := t0.below b1
          have t1a := t1.1
          have t1b := t1.2
          clear p0q p0r q0q q0r t0q t0r
          go_wp2
          have p1q := p1.bb.1
          have p1r := p1.bb.2
          have q1q := q1.bb.1
          have q1r := q1.bb.2
          have t1q := t1.bb.1
          have t1r := t1.bb.2
          refine wp_region_below mx (by kernel_rfl) ?_
          intro nebb
          repeat (go_big_quiet_step (fail))
          go_big_quiet_step ((go_at_call 10; exact callsBB (unhide Z2 _)))
          repeat (go_big_quiet_step (fail))
          go_big_quiet_step ((go_at_call 10; exact callsBB (unhide Z1 _)))
          repeat (go_big_quiet_step (fail))
          go_big_quiet_step ((go_at_call 25; exact callsBB (unhide H4 _ (lyBB L1))))
          repeat (go_big_quiet_step (fail))
          refine wpQuiet_nil ?_
          intro _ hw'
          obtain ⟨pq, hw''⟩ := hw'
          subst hw''
          have b2 := pq.b
          generalize pq.W = w2 at *
          have c2 := c1.trans (b2.mono c1.size)
          have L2 := hL.keep c2
          have p2 := p1.below b2
          have p2a := p2.1
          have p2b := p2.2
          have q2 := q1.below b2
          have q2a := q2.1
          have q2b := q2.2
          have t2 := t1.below b2
          have t2a := t2.1
          have t2b := t2.2
          clear p1q p1r q1q q1r t1q t1r
          go_wp2
          have p2q := p2.bb.1
          have p2r := p2.bb.2
          have q2q := q2.bb.1
          have q2r := q2.bb.2
          have t2q := t2.bb.1
          have t2r := t2.bb.2
          refine wp_region_below mx (by kernel_rfl) ?_
          intro nebb
          repeat (go_big_quiet_step (fail))
          go_big_quiet_step ((go_at_call 10; exact callsBB (unhide Z1 _)))
          repeat (go_big_quiet_step (fail))
          go_big_quiet_step ((go_at_call 10; exact callsBB (unhide Z2 _)))
          repeat (go_big_quiet_step (fail))
          go_big_quiet_step ((go_at_call 10; exact callsBB (unhide Z1 _)))
          repeat (go_big_quiet_step (fail))
          go_big_quiet_step ((go_at_call 17; exact callsBB (unhide H5 _ (lyBB L2))))
          repeat (go_big_quiet_step (fail))
          go_big_quiet_step ((go_at_call 10; exact callsBB (unhide Z2 _)))
          repeat (go_big_quiet_step (fail))
          go_big_quiet_step ((go_at_call 17; exact callsBB (unhide H6 _ (lyBB L2))))
          repeat (go_big_quiet_step (fail))
          refine wpQuiet_nil ?_
          intro _ hw'
          obtain ⟨pq, hw''⟩ := hw'
          subst hw''
          have b3 := pq.b
          generalize pq.W = w3 at *
          have c3 := c2.trans (b3.mono c2.size)
          have L3 := hL.keep c3
          have p3 := p2.below b3
          have p3a := p3.1
          have p3b := p3.2
          have q3 := q2.below b3
          have q3a := q3.1
          have q3b := q3.2
          have t3 := t2.below b3
          have t3a := t3.1
          have t3b := t3.2
          clear p2q p2r q2q q2r t2q t2r
          go_wp2_with (first
            | (go_at_call 20; refine (unhide HA _ L3).mono ?_; rintro e w4 ⟨rfl, b4⟩; have c4 := c3.trans (b4.mono c3.size); have L4 := hL.keep c4; have p4 := p3.below b4; have p4a := p4.1; have p4b := p4.2; have q4 := q3.below b4; have q4a := q4.1; have q4b := q4.2; have t4 := t3.below b4; have t4a := t4.1; have t4b := t4.2))
          go_ret
          exact ⟨rfl, c4⟩
        · clear hs
          have mx : Tryd.prog.follows .mixedOrders = true := by kernel_rfl
          have c0 : Below w.heap.size w (((w.alloc (.cells #[.float .f64 x, .float .f64 y] 24)).alloc (.cells #[.float .f64 u, .float .f64 v] 24)).alloc (.cells #[.float .f64 r, .float .f64 s] 24)) := ((Below.one w _).trans ((Below.one _ _).mono (by simp <;> omega))).trans ((Below.one _ _).mono (by simp <;> omega))
          have L0 := hL.keep c0
          have p0 : Bx (((w.alloc (.cells #[.float .f64 x, .float .f64 y] 24)).alloc (.cells #[.float .f64 u, .float .f64 v] 24)).alloc (.cells #[.float .f64 r, .float .f64 s] 24)) (w.heap.size) x y := ((bxn w x y (w.heap.size) 24 (by simp)).below (Below.one _ _)).below (Below.one _ _)
          have p0a := p0.1
          have p0b := p0.2
          have q0 : Bx (((w.alloc (.cells #[.float .f64 x, .float .f64 y] 24)).alloc (.cells #[.float .f64 u, .float .f64 v] 24)).alloc (.cells #[.float .f64 r, .float .f64 s] 24)) (w.heap.size + 1) u v := (bxn (w.alloc (.cells #[.float .f64 x, .float .f64 y] 24)) u v (w.heap.size + 1) 24 (by simp)).below (Below.one _ _)
          have q0a := q0.1
          have q0b := q0.2
          have t0 : Bx (((w.alloc (.cells #[.float .f64 x, .float .f64 y] 24)).alloc (.cells #[.float .f64 u, .float .f64 v] 24)).alloc (.cells #[.float .f64 r, .float .f64 s] 24)) (w.heap.size + 1 + 1) r s := bxn ((w.alloc (.cells #[.float .f64 x, .float .f64 y] 24)).alloc (.cells #[.float .f64 u, .float .f64 v] 24)) r s (w.heap.size + 1 + 1) 24 (by simp)
          have t0a := t0.1
          have t0b := t0.2
          go_enter Tryd.func8, Tryd.ntmps8
          go_wp2
          have p0q := p0.bb.1
          have p0r := p0.bb.2
          have q0q := q0.bb.1
          have q0r := q0.bb.2
          have t0q := t0.bb.1
          have t0r := t0.bb.2
          refine wp_region_below mx (by kernel_rfl) ?_
          intro nebb
          repeat (go_big_quiet_step (fail))
          go_big_quiet_step ((go_at_call 10; exact callsBB (unhide Z1 _)))
          repeat (go_big_quiet_step (fail))
          go_big_quiet_step ((go_at_call 10; exact callsBB (unhide Z2 _)))
          repeat (go_big_quiet_step (fail))
          go_big_quiet_step ((go_at_call 25; exact callsBB (unhide H1 _ (lyBB L0))))
          repeat (go_big_quiet_step (fail))
          go_big_quiet_step ((go_at_call 10; exact callsBB (unhide Z2 _)))
          repeat (go_big_quiet_step (fail))
          go_big_quiet_step ((go_at_call 10; exact callsBB (unhide Z3 _)))
          repeat (go_big_quiet_step (fail))
          go_big_quiet_step ((go_at_call 25; exact callsBB (unhide H2 _ (lyBB L0))))
          repeat (go_big_quiet_step (fail))
          go_big_quiet_step ((go_at_call 10; exact callsBB (unhide Z1 _)))
          repeat (go_big_quiet_step (fail))
          go_big_quiet_step ((go_at_call 10; exact callsBB (unhide Z3 _)))
          repeat (go_big_quiet_step (fail))
          go_big_quiet_step ((go_at_call 25; exact callsBB (unhide H3 _ (lyBB L0))))
          repeat (go_big_quiet_step (fail))
          refine wpQuiet_nil ?_
          intro _ hw'
          obtain ⟨pq, hw''⟩ := hw'
          subst hw''
          have b1 := pq.b
          generalize pq.W = w1 at *
          have c1 := c0.trans (b1.mono c0.size)
          have L1 := hL.keep c1
          have p1 := p0.below b1
          have p1a := p1.1
          have p1b := p1.2
          have q1 := q0.below b1
          have q1a := q1.1
          have q1b := q1.2
          have t1 := t0.below b1
          have t1a := t1.1
          have t1b := t1.2
          clear p0q p0r q0q q0r t0q t0r
          go_wp2
          have p1q := p1.bb.1
          have p1r := p1.bb.2
          have q1q := q1.bb.1
          have q1r := q1.bb.2
          have t1q := t1.bb.1
          have t1r := t1.bb.2
          refine wp_region_below mx (by kernel_rfl) ?_
          intro nebb
          repeat (go_big_quiet_step (fail))
          go_big_quiet_step ((go_at_call 10; exact callsBB (unhide Z2 _)))
          repeat (go_big_quiet_step (fail))
          go_big_quiet_step ((go_at_call 10; exact callsBB (unhide Z1 _)))
          repeat (go_big_quiet_step (fail))
          go_big_quiet_step ((go_at_call 25; exact callsBB (unhide H4 _ (lyBB L1))))
          repeat (go_big_quiet_step (fail))
          refine wpQuiet_nil ?_
          intro _ hw'
          obtain ⟨pq, hw''⟩ := hw'
          subst hw''
          have b2 := pq.b
          generalize pq.W = w2 at *
          have c2 := c1.trans (b2.mono c1.size)
          have L2 := hL.keep c2
          have p2 := p1.below b2
          have p2a := p2.1
          have p2b := p2.2
          have q2 := q1.below b2
          have q2a := q2.1
          have q2b := q2.2
          have t2 := t1.below b2
          have t2a := t2.1
          have t2b := t2.2
          clear p1q p1r q1q q1r t1q t1r
          go_wp2
          have p2q := p2.bb.1
          have p2r := p2.bb.2
          have q2q := q2.bb.1
          have q2r := q2.bb.2
          have t2q := t2.bb.1
          have t2r := t2.bb.2
          refine wp_region_below mx (by kernel_rfl) ?_
          intro nebb
          repeat (go_big_quiet_step (fail))
          go_big_quiet_step ((go_at_call 10; exact callsBB (unhide Z1 _)))
          repeat (go_big_quiet_step (fail))
          go_big_quiet_step ((go_at_call 10; exact callsBB (unhide Z2 _)))
          repeat (go_big_quiet_step (fail))
          refine wpQuiet_nil ?_
          intro _ hw'
          obtain ⟨pq, hw''⟩ := hw'
          subst hw''
          have b3 := pq.b
          generalize pq.W = w3 at *
          have c3 := c2.trans (b3.mono c2.size)
          have L3 := hL.keep c3
          have p3 := p2.below b3
          have p3a := p3.1
          have p3b := p3.2
          have q3 := q2.below b3
          have q3a := q3.1
          have q3b := q3.2
          have t3 := t2.below b3
          have t3a := t3.1
          have t3b := t3.2
          clear p2q p2r q2q q2r t2q t2r
          go_wp2_with (first
            | (go_at_call 20; refine (unhide HA _ L3).mono ?_; rintro e w4 ⟨rfl, b4⟩; have c4 := c3.trans (b4.mono c3.size); have L4 := hL.keep c4; have p4 := p3.below b4; have p4a := p4.1; have p4b := p4.2; have q4 := q3.below b4; have q4a := q4.1; have q4b := q4.2; have t4 := t3.below b4; have t4a := t4.1; have t4b := t4.2))
          go_ret
          exact ⟨rfl, c4⟩
      · clear t1 t2
        have dd0 : decide (B ≤ 0) = true := decide_eq_true (by omega)
        have dd1 : decide (0 < C) = false := decide_eq_false (by omega)
        have dd2 : decide (0 ≤ B) = false := decide_eq_false (by omega)
        cases ee
        · obtain ⟨rfl, rfl⟩ : f1 = false ∧ f2 = false := by cases f1 <;> cases f2 <;> simp at hs <;> exact ⟨rfl, rfl⟩
          clear hs
          have mx : Tryd.prog.follows .mixedOrders = true := by kernel_rfl
          have c0 : Below w.heap.size w (((w.alloc (.cells #[.float .f64 x, .float .f64 y] 24)).alloc (.cells #[.float .f64 u, .float .f64 v] 24)).alloc (.cells #[.float .f64 r, .float .f64 s] 24)) := ((Below.one w _).trans ((Below.one _ _).mono (by simp <;> omega))).trans ((Below.one _ _).mono (by simp <;> omega))
          have L0 := hL.keep c0
          have p0 : Bx (((w.alloc (.cells #[.float .f64 x, .float .f64 y] 24)).alloc (.cells #[.float .f64 u, .float .f64 v] 24)).alloc (.cells #[.float .f64 r, .float .f64 s] 24)) (w.heap.size) x y := ((bxn w x y (w.heap.size) 24 (by simp)).below (Below.one _ _)).below (Below.one _ _)
          have p0a := p0.1
          have p0b := p0.2
          have q0 : Bx (((w.alloc (.cells #[.float .f64 x, .float .f64 y] 24)).alloc (.cells #[.float .f64 u, .float .f64 v] 24)).alloc (.cells #[.float .f64 r, .float .f64 s] 24)) (w.heap.size + 1) u v := (bxn (w.alloc (.cells #[.float .f64 x, .float .f64 y] 24)) u v (w.heap.size + 1) 24 (by simp)).below (Below.one _ _)
          have q0a := q0.1
          have q0b := q0.2
          have t0 : Bx (((w.alloc (.cells #[.float .f64 x, .float .f64 y] 24)).alloc (.cells #[.float .f64 u, .float .f64 v] 24)).alloc (.cells #[.float .f64 r, .float .f64 s] 24)) (w.heap.size + 1 + 1) r s := bxn ((w.alloc (.cells #[.float .f64 x, .float .f64 y] 24)).alloc (.cells #[.float .f64 u, .float .f64 v] 24)) r s (w.heap.size + 1 + 1) 24 (by simp)
          have t0a := t0.1
          have t0b := t0.2
          go_enter Tryd.func8, Tryd.ntmps8
          go_wp2
          have p0q := p0.bb.1
          have p0r := p0.bb.2
          have q0q := q0.bb.1
          have q0r := q0.bb.2
          have t0q := t0.bb.1
          have t0r := t0.bb.2
          refine wp_region_below mx (by kernel_rfl) ?_
          intro nebb
          repeat (go_big_quiet_step (fail))
          go_big_quiet_step ((go_at_call 10; exact callsBB (unhide Z1 _)))
          repeat (go_big_quiet_step (fail))
          go_big_quiet_step ((go_at_call 10; exact callsBB (unhide Z2 _)))
          repeat (go_big_quiet_step (fail))
          go_big_quiet_step ((go_at_call 25; exact callsBB (unhide H1 _ (lyBB L0))))
          repeat (go_big_quiet_step (fail))
          go_big_quiet_step ((go_at_call 10; exact callsBB (unhide Z2 _)))
          repeat (go_big_quiet_step (fail))
          go_big_quiet_step ((go_at_call 10; exact callsBB (unhide Z3 _)))
          repeat (go_big_quiet_step (fail))
          go_big_quiet_step ((go_at_call 25; exact callsBB (unhide H2 _ (lyBB L0))))
          repeat (go_big_quiet_step (fail))
          go_big_quiet_step ((go_at_call 10; exact callsBB (unhide Z1 _)))
          repeat (go_big_quiet_step (fail))
          go_big_quiet_step ((go_at_call 10; exact callsBB (unhide Z3 _)))
          repeat (go_big_quiet_step (fail))
          go_big_quiet_step ((go_at_call 25; exact callsBB (unhide H3 _ (lyBB L0))))
          repeat (go_big_quiet_step (fail))
          refine wpQuiet_nil ?_
          intro _ hw'
          obtain ⟨pq, hw''⟩ := hw'
          subst hw''
          have b1 := pq.b
          generalize pq.W = w1 at *
          have c1 := c0.trans (b1.mono c0.size)
          have L1 := hL.keep c1
          have p1 := p0.below b1
          have p1a := p1.1
          have p1b := p1.2
          have q1 := q0.below b1
          have q1a := q1.1
          have q1b := q1.2
          have t1 := t0.below b1
          have t1a := t1.1
          have t1b := t1.2
          clear p0q p0r q0q q0r t0q t0r
          go_wp2
          have p1q := p1.bb.1
          have p1r := p1.bb.2
          have q1q := q1.bb.1
          have q1r := q1.bb.2
          have t1q := t1.bb.1
          have t1r := t1.bb.2
          refine wp_region_below mx (by kernel_rfl) ?_
          intro nebb
          repeat (go_big_quiet_step (fail))
          go_big_quiet_step ((go_at_call 10; exact callsBB (unhide Z2 _)))
          repeat (go_big_quiet_step (fail))
          go_big_quiet_step ((go_at_call 10; exact callsBB (unhide Z1 _)))
          repeat (go_big_quiet_step (fail))
          go_big_quiet_step ((go_at_call 25; exact callsBB (unhide H4 _ (lyBB L1))))
          repeat (go_big_quiet_step (fail))
          refine wpQuiet_nil ?_
          intro _ hw'
          obtain ⟨pq, hw''⟩ := hw'
          subst hw''
          have b2 := pq.b
          generalize pq.W = w2 at *
          have c2 := c1.trans (b2.mono c1.size)
          have L2 := hL.keep c2
          have p2 := p1.below b2
          have p2a := p2.1
          have p2b := p2.2
          have q2 := q1.below b2
          have q2a := q2.1
          have q2b := q2.2
          have t2 := t1.below b2
          have t2a := t2.1
          have t2b := t2.2
          clear p1q p1r q1q q1r t1q t1r
          go_wp2
          have p2q := p2.bb.1
          have p2r := p2.bb.2
          have q2q := q2.bb.1
          have q2r := q2.bb.2
          have t2q := t2.bb.1
          have t2r := t2.bb.2
          refine wp_region_below mx (by kernel_rfl) ?_
          intro nebb
          repeat (go_big_quiet_step (fail))
          go_big_quiet_step ((go_at_call 10; exact callsBB (unhide Z1 _)))
          repeat (go_big_quiet_step (fail))
          go_big_quiet_step ((go_at_call 10; exact callsBB (unhide Z2 _)))
          repeat (go_big_quiet_step (fail))
          go_big_quiet_step ((go_at_call 10; exact callsBB (unhide Z1 _)))
          repeat (go_big_quiet_step (fail))
          go_big_quiet_step ((go_at_call 17; exact callsBB (unhide H5 _ (lyBB L2))))
          repeat (go_big_quiet_step (fail))
          go_big_quiet_step ((go_at_call 10; exact callsBB (unhide Z2 _)))
          repeat (go_big_quiet_step (fail))
          go_big_quiet_step ((go_at_call 17; exact callsBB (unhide H6 _ (lyBB L2))))
          repeat (go_big_quiet_step (fail))
          refine wpQuiet_nil ?_
          intro _ hw'
          obtain ⟨pq, hw''⟩ := hw'
          subst hw''
          have b3 := pq.b
          generalize pq.W = w3 at *
          have c3 := c2.trans (b3.mono c2.size)
          have L3 := hL.keep c3
          have p3 := p2.below b3
          have p3a := p3.1
          have p3b := p3.2
          have q3 := q2.below b3
          have q3a := q3.1
          have q3b := q3.2
          have t3 := t2.below b3
          have t3a := t3.1
          have t3b := t3.2
          clear p2q p2r q2q q2r t2q t2r
          go_wp2_with (first
            | (go_at_call 20; refine (unhide HA _ L3).mono ?_; rintro e w4 ⟨rfl, b4⟩; have c4 := c3.trans (b4.mono c3.size); have L4 := hL.keep c4; have p4 := p3.below b4; have p4a := p4.1; have p4b := p4.2; have q4 := q3.below b4; have q4a := q4.1; have q4b := q4.2; have t4 := t3.below b4; have t4a := t4.1; have t4b := t4.2))
          go_ret
          exact ⟨rfl, c4⟩
        · clear hs
          have mx : Tryd.prog.follows .mixedOrders = true := by kernel_rfl
          have c0 : Below w.heap.size w (((w.alloc (.cells #[.float .f64 x, .float .f64 y] 24)).alloc (.cells #[.float .f64 u, .float .f64 v] 24)).alloc (.cells #[.float .f64 r, .float .f64 s] 24)) := ((Below.one w _).trans ((Below.one _ _).mono (by simp <;> omega))).trans ((Below.one _ _).mono (by simp <;> omega))
          have L0 := hL.keep c0
          have p0 : Bx (((w.alloc (.cells #[.float .f64 x, .float .f64 y] 24)).alloc (.cells #[.float .f64 u, .float .f64 v] 24)).alloc (.cells #[.float .f64 r, .float .f64 s] 24)) (w.heap.size) x y := ((bxn w x y (w.heap.size) 24 (by simp)).below (Below.one _ _)).below (Below.one _ _)
          have p0a := p0.1
          have p0b := p0.2
          have q0 : Bx (((w.alloc (.cells #[.float .f64 x, .float .f64 y] 24)).alloc (.cells #[.float .f64 u, .float .f64 v] 24)).alloc (.cells #[.float .f64 r, .float .f64 s] 24)) (w.heap.size + 1) u v := (bxn (w.alloc (.cells #[.float .f64 x, .float .f64 y] 24)) u v (w.heap.size + 1) 24 (by simp)).below (Below.one _ _)
          have q0a := q0.1
          have q0b := q0.2
          have t0 : Bx (((w.alloc (.cells #[.float .f64 x, .float .f64 y] 24)).alloc (.cells #[.float .f64 u, .float .f64 v] 24)).alloc (.cells #[.float .f64 r, .float .f64 s] 24)) (w.heap.size + 1 + 1) r s := bxn ((w.alloc (.cells #[.float .f64 x, .float .f64 y] 24)).alloc (.cells #[.float .f64 u, .float .f64 v] 24)) r s (w.heap.size + 1 + 1) 24 (by simp)
          have t0a := t0.1
          have t0b := t0.2
          go_enter Tryd.func8, Tryd.ntmps8
          go_wp2
          have p0q := p0.bb.1
          have p0r := p0.bb.2
          have q0q := q0.bb.1
          have q0r := q0.bb.2
          have t0q := t0.bb.1
          have t0r := t0.bb.2
          refine wp_region_below mx (by kernel_rfl) ?_
          intro nebb
          repeat (go_big_quiet_step (fail))
          go_big_quiet_step ((go_at_call 10; exact callsBB (unhide Z1 _)))
          repeat (go_big_quiet_step (fail))
          go_big_quiet_step ((go_at_call 10; exact callsBB (unhide Z2 _)))
          repeat (go_big_quiet_step (fail))
          go_big_quiet_step ((go_at_call 25; exact callsBB (unhide H1 _ (lyBB L0))))
          repeat (go_big_quiet_step (fail))
          go_big_quiet_step ((go_at_call 10; exact callsBB (unhide Z2 _)))
          repeat (go_big_quiet_step (fail))
          go_big_quiet_step ((go_at_call 10; exact callsBB (unhide Z3 _)))
          repeat (go_big_quiet_step (fail))
          go_big_quiet_step ((go_at_call 25; exact callsBB (unhide H2 _ (lyBB L0))))
          repeat (go_big_quiet_step (fail))
          go_big_quiet_step ((go_at_call 10; exact callsBB (unhide Z1 _)))
          repeat (go_big_quiet_step (fail))
          go_big_quiet_step ((go_at_call 10; exact callsBB (unhide Z3 _)))
          repeat (go_big_quiet_step (fail))
          go_big_quiet_step ((go_at_call 25; exact callsBB (unhide H3 _ (lyBB L0))))
          repeat (go_big_quiet_step (fail))
          refine wpQuiet_nil ?_
          intro _ hw'
          obtain ⟨pq, hw''⟩ := hw'
          subst hw''
          have b1 := pq.b
          generalize pq.W = w1 at *
          have c1 := c0.trans (b1.mono c0.size)
          have L1 := hL.keep c1
          have p1 := p0.below b1
          have p1a := p1.1
          have p1b := p1.2
          have q1 := q0.below b1
          have q1a := q1.1
          have q1b := q1.2
          have t1 := t0.below b1
          have t1a := t1.1
          have t1b := t1.2
          clear p0q p0r q0q q0r t0q t0r
          go_wp2
          have p1q := p1.bb.1
          have p1r := p1.bb.2
          have q1q := q1.bb.1
          have q1r := q1.bb.2
          have t1q := t1.bb.1
          have t1r := t1.bb.2
          refine wp_region_below mx (by kernel_rfl) ?_
          intro nebb
          repeat (go_big_quiet_step (fail))
          go_big_quiet_step ((go_at_call 10; exact callsBB (unhide Z2 _)))
          repeat (go_big_quiet_step (fail))
          go_big_quiet_step ((go_at_call 10; exact callsBB (unhide Z1 _)))
          repeat (go_big_quiet_step (fail))
          go_big_quiet_step ((go_at_call 25; exact callsBB (unhide H4 _ (lyBB L1))))
          repeat (go_big_quiet_step (fail))
          refine wpQuiet_nil ?_
          intro _ hw'
          obtain ⟨pq, hw''⟩ := hw'
          subst hw''
          have b2 := pq.b
          generalize pq.W = w2 at *
          have c2 := c1.trans (b2.mono c1.size)
          have L2 := hL.keep c2
          have p2 := p1.below b2
          have p2a := p2.1
          have p2b := p2.2
          have q2 := q1.below b2
          have q2a := q2.1
          have q2b := q2.2
          have t2 := t1.below b2
          have t2a := t2.1
          have t2b := t2.2
          clear p1q p1r q1q q1r t1q t1r
          go_wp2
          have p2q := p2.bb.1
          have p2r := p2.bb.2
          have q2q := q2.bb.1
          have q2r := q2.bb.2
          have t2q := t2.bb.1
          have t2r := t2.bb.2
          refine wp_region_below mx (by kernel_rfl) ?_
          intro nebb
          repeat (go_big_quiet_step (fail))
          go_big_quiet_step ((go_at_call 10; exact callsBB (unhide Z1 _)))
          repeat (go_big_quiet_step (fail))
          go_big_quiet_step ((go_at_call 10; exact callsBB (unhide Z2 _)))
          repeat (go_big_quiet_step (fail))
          refine wpQuiet_nil ?_
          intro _ hw'
          obtain ⟨pq, hw''⟩ := hw'
          subst hw''
          have b3 := pq.b
          generalize pq.W = w3 at *
          have c3 := c2.trans (b3.mono c2.size)
          have L3 := hL.keep c3
          have p3 := p2.below b3
          have p3a := p3.1
          have p3b := p3.2
          have q3 := q2.below b3
          have q3a := q3.1
          have q3b := q3.2
          have t3 := t2.below b3
          have t3a := t3.1
          have t3b := t3.2
          clear p2q p2r q2q q2r t2q t2r
          go_wp2_with (first
            | (go_at_call 20; refine (unhide HA _ L3).mono ?_; rintro e w4 ⟨rfl, b4⟩; have c4 := c3.trans (b4.mono c3.size); have L4 := hL.keep c4; have p4 := p3.below b4; have p4a := p4.1; have p4b := p4.2; have q4 := q3.below b4; have q4a := q4.1; have q4b := q4.2; have t4 := t3.below b4; have t4a := t4.1; have t4b := t4.2))
          go_ret
          exact ⟨rfl, c4⟩
    · have cc2 : 0 ≤ C := t2 (by omega) (by omega)
      clear t1 t2
      have dd0 : decide (B ≤ 0) = false := decide_eq_false (by omega)
      have dd1 : decide (0 ≤ B) = true := decide_eq_true (by omega)
      have dd2 : decide (C < 0) = false := decide_eq_false (by omega)
      cases ee
      · obtain ⟨rfl, rfl⟩ : f1 = false ∧ f2 = false := by cases f1 <;> cases f2 <;> simp at hs <;> exact ⟨rfl, rfl⟩
        clear hs
        have mx : Tryd.prog.follows .mixedOrders = true := by kernel_rfl
        have c0 : Below w.heap.size w (((w.alloc (.cells #[.float .f64 x, .float .f64 y] 24)).alloc (.cells #[.float .f64 u, .float .f64 v] 24)).alloc (.cells #[.float .f64 r, .float .f64 s] 24)) := ((Below.one w _).trans ((Below.one _ _).mono (by simp <;> omega))).trans ((Below.one _ _).mono (by simp <;> omega))
        have L0 := hL.keep c0
        have p0 : Bx (((w.alloc (.cells #[.float .f64 x, .float .f64 y] 24)).alloc (.cells #[.float .f64 u, .float .f64 v] 24)).alloc (.cells #[.float .f64 r, .float .f64 s] 24)) (w.heap.size) x y := ((bxn w x y (w.heap.size) 24 (by simp)).below (Below.one _ _)).below (Below.one _ _)
        have p0a := p0.1
        have p0b := p0.2
        have q0 : Bx (((w.alloc (.cells #[.float .f64 x, .float .f64 y] 24)).alloc (.cells #[.float .f64 u, .float .f64 v] 24)).alloc (.cells #[.float .f64 r, .float .f64 s] 24)) (w.heap.size + 1) u v := (bxn (w.alloc (.cells #[.float .f64 x, .float .f64 y] 24)) u v (w.heap.size + 1) 24 (by simp)).below (Below.one _ _)
        have q0a := q0.1
        have q0b := q0.2
        have t0 : Bx (((w.alloc (.cells #[.float .f64 x, .float .f64 y] 24)).alloc (.cells #[.float .f64 u, .float .f64 v] 24)).alloc (.cells #[.float .f64 r, .float .f64 s] 24)) (w.heap.size + 1 + 1) r s := bxn ((w.alloc (.cells #[.float .f64 x, .float .f64 y] 24)).alloc (.cells #[.float .f64 u, .float .f64 v] 24)) r s (w.heap.size + 1 + 1) 24 (by simp)
        have t0a := t0.1
        have t0b := t0.2
        go_enter Tryd.func8, Tryd.ntmps8
        go_wp2
        have p0q := p0.bb.1
        have p0r := p0.bb.2
        have q0q := q0.bb.1
        have q0r := q0.bb.2
        have t0q := t0.bb.1
        have t0r := t0.bb.2
        refine wp_region_below mx (by kernel_rfl) ?_
        intro nebb
        repeat (go_big_quiet_step (fail))
        go_big_quiet_step ((go_at_call 10; exact callsBB (unhide Z1 _)))
        repeat (go_big_quiet_step (fail))
        go_big_quiet_step ((go_at_call 10; exact callsBB (unhide Z2 _)))
        repeat (go_big_quiet_step (fail))
        go_big_quiet_step ((go_at_call 25; exact callsBB (unhide H1 _ (lyBB L0))))
        repeat (go_big_quiet_step (fail))
        go_big_quiet_step ((go_at_call 10; exact callsBB (unhide Z2 _)))
        repeat (go_big_quiet_step (fail))
        go_big_quiet_step ((go_at_call 10; exact callsBB (unhide Z3 _)))
        repeat (go_big_quiet_step (fail))
        go_big_quiet_step ((go_at_call 25; exact callsBB (unhide H2 _ (lyBB L0))))
        repeat (go_big_quiet_step (fail))
        go_big_quiet_step ((go_at_call 10; exact callsBB (unhide Z1 _)))
        repeat (go_big_quiet_step (fail))
        go_big_quiet_step ((go_at_call 10; exact callsBB (unhide Z3 _)))
        repeat (go_big_quiet_step (fail))
        go_big_quiet_step ((go_at_call 25; exact callsBB (unhide H3 _ (lyBB L0))))
        repeat (go_big_quiet_step (fail))
        refine wpQuiet_nil ?_
        intro _ hw'
        obtain ⟨pq, hw''⟩ := hw'
        subst hw''
        have b1 := pq.b
        generalize pq.W = w1 at *
        have c1 := c0.trans (b1.mono c0.size)
        have L1 := hL.keep c1
        have p1 := p0.below b1
        have p1a := p1.1
        have p1b := p1.2
        have q1 := q0.below b1
        have q1a := q1.1
        have q1b := q1.2
        have t1 := t0.below b1
        have t1a := t1.1
        have t1b := t1.2
        clear p0q p0r q0q q0r t0q t0r
        go_wp2
        have p1q := p1.bb.1
        have p1r := p1.bb.2
        have q1q := q1.bb.1
        have q1r := q1.bb.2
        have t1q := t1.bb.1
        have t1r := t1.bb.2
        refine wp_region_below mx (by kernel_rfl) ?_
        intro nebb
        repeat (go_big_quiet_step (fail))
        go_big_quiet_step ((go_at_call 10; exact callsBB (unhide Z2 _)))
        repeat (go_big_quiet_step (fail))
        go_big_quiet_step ((go_at_call 10; exact callsBB (unhide Z1 _)))
        repeat (go_big_quiet_step (fail))
        go_big_quiet_step ((go_at_call 25; exact callsBB (unhide H4 _ (lyBB L1))))
        repeat (go_big_quiet_step (fail))
        refine wpQuiet_nil ?_
        intro _ hw'
        obtain ⟨pq, hw''⟩ := hw'
        subst hw''
        have b2 := pq.b
        generalize pq.W = w2 at *
        have c2 := c1.trans (b2.mono c1.size)
        have L2 := hL.keep c2
        have p2 := p1.below b2
        have p2a := p2.1
        have p2b := p2.2
        have q2 := q1.below b2
        have q2a := q2.1
        have q2b := q2.2
        have t2 := t1.below b2
        have t2a := t2.1
        have t2b := t2.2
        clear p1q p1r q1q q1r t1q t1r
        go_wp2
        have p2q := p2.bb.1
        have p2r := p2.bb.2
        have q2q := q2.bb.1
        have q2r := q2.bb.2
        have t2q := t2.bb.1
        have t2r := t2.bb.2
        refine wp_region_below mx (by kernel_rfl) ?_
        intro nebb
        repeat (go_big_quiet_step (fail))
        go_big_quiet_step ((go_at_call 10; exact callsBB (unhide Z1 _)))
        repeat (go_big_quiet_step (fail))
        go_big_quiet_step ((go_at_call 10; exact callsBB (unhide Z2 _)))
        repeat (go_big_quiet_step (fail))
        go_big_quiet_step ((go_at_call 10; exact callsBB (unhide Z1 _)))
        repeat (go_big_quiet_step (fail))
        go_big_quiet_step ((go_at_call 17; exact callsBB (unhide H5 _ (lyBB L2))))
        repeat (go_big_quiet_step (fail))
        go_big_quiet_step ((go_at_call 10; exact callsBB (unhide Z2 _)))
        repeat (go_big_quiet_step (fail))
        go_big_quiet_step ((go_at_call 17; exact callsBB (unhide H6 _ (lyBB L2))))
        repeat (go_big_quiet_step (fail))
        refine wpQuiet_nil ?_
        intro _ hw'
        obtain ⟨pq, hw''⟩ := hw'
        subst hw''
        have b3 := pq.b
        generalize pq.W = w3 at *
        have c3 := c2.trans (b3.mono c2.size)
        have L3 := hL.keep c3
        have p3 := p2.below b3
        have p3a := p3.1
        have p3b := p3.2
        have q3 := q2.below b3
        have q3a := q3.1
        have q3b := q3.2
        have t3 := t2.below b3
        have t3a := t3.1
        have t3b := t3.2
        clear p2q p2r q2q q2r t2q t2r
        go_wp2_with (first
          | (go_at_call 20; refine (unhide HA _ L3).mono ?_; rintro e w4 ⟨rfl, b4⟩; have c4 := c3.trans (b4.mono c3.size); have L4 := hL.keep c4; have p4 := p3.below b4; have p4a := p4.1; have p4b := p4.2; have q4 := q3.below b4; have q4a := q4.1; have q4b := q4.2; have t4 := t3.below b4; have t4a := t4.1; have t4b := t4.2))
        go_ret
        exact ⟨rfl, c4⟩
      · clear hs
        have mx : Tryd.prog.follows .mixedOrders = true := by kernel_rfl
        have c0 : Below w.heap.size w (((w.alloc (.cells #[.float .f64 x, .float .f64 y] 24)).alloc (.cells #[.float .f64 u, .float .f64 v] 24)).alloc (.cells #[.float .f64 r, .float .f64 s] 24)) := ((Below.one w _).trans ((Below.one _ _).mono (by simp <;> omega))).trans ((Below.one _ _).mono (by simp <;> omega))
        have L0 := hL.keep c0
        have p0 : Bx (((w.alloc (.cells #[.float .f64 x, .float .f64 y] 24)).alloc (.cells #[.float .f64 u, .float .f64 v] 24)).alloc (.cells #[.float .f64 r, .float .f64 s] 24)) (w.heap.size) x y := ((bxn w x y (w.heap.size) 24 (by simp)).below (Below.one _ _)).below (Below.one _ _)
        have p0a := p0.1
        have p0b := p0.2
        have q0 : Bx (((w.alloc (.cells #[.float .f64 x, .float .f64 y] 24)).alloc (.cells #[.float .f64 u, .float .f64 v] 24)).alloc (.cells #[.float .f64 r, .float .f64 s] 24)) (w.heap.size + 1) u v := (bxn (w.alloc (.cells #[.float .f64 x, .float .f64 y] 24)) u v (w.heap.size + 1) 24 (by simp)).below (Below.one _ _)
        have q0a := q0.1
        have q0b := q0.2
        have t0 : Bx (((w.alloc (.cells #[.float .f64 x, .float .f64 y] 24)).alloc (.cells #[.float .f64 u, .float .f64 v] 24)).alloc (.cells #[.float .f64 r, .float .f64 s] 24)) (w.heap.size + 1 + 1) r s := bxn ((w.alloc (.cells #[.float .f64 x, .float .f64 y] 24)).alloc (.cells #[.float .f64 u, .float .f64 v] 24)) r s (w.heap.size + 1 + 1) 24 (by simp)
        have t0a := t0.1
        have t0b := t0.2
        go_enter Tryd.func8, Tryd.ntmps8
        go_wp2
        have p0q := p0.bb.1
        have p0r := p0.bb.2
        have q0q := q0.bb.1
        have q0r := q0.bb.2
        have t0q := t0.bb.1
        have t0r := t0.bb.2
        refine wp_region_below mx (by kernel_rfl) ?_
        intro nebb
        repeat (go_big_quiet_step (fail))
        go_big_quiet_step ((go_at_call 10; exact callsBB (unhide Z1 _)))
        repeat (go_big_quiet_step (fail))
        go_big_quiet_step ((go_at_call 10; exact callsBB (unhide Z2 _)))
        repeat (go_big_quiet_step (fail))
        go_big_quiet_step ((go_at_call 25; exact callsBB (unhide H1 _ (lyBB L0))))
        repeat (go_big_quiet_step (fail))
        go_big_quiet_step ((go_at_call 10; exact callsBB (unhide Z2 _)))
        repeat (go_big_quiet_step (fail))
        go_big_quiet_step ((go_at_call 10; exact callsBB (unhide Z3 _)))
        repeat (go_big_quiet_step (fail))
        go_big_quiet_step ((go_at_call 25; exact callsBB (unhide H2 _ (lyBB L0))))
        repeat (go_big_quiet_step (fail))
        go_big_quiet_step ((go_at_call 10; exact callsBB (unhide Z1 _)))
        repeat (go_big_quiet_step (fail))
        go_big_quiet_step ((go_at_call 10; exact callsBB (unhide Z3 _)))
        repeat (go_big_quiet_step (fail))
        go_big_quiet_step ((go_at_call 25; exact callsBB (unhide H3 _ (lyBB L0))))
        repeat (go_big_quiet_step (fail))
        refine wpQuiet_nil ?_
        intro _ hw'
        obtain ⟨pq, hw''⟩ := hw'
        subst hw''
        have b1 := pq.b
        generalize pq.W = w1 at *
        have c1 := c0.trans (b1.mono c0.size)
        have L1 := hL.keep c1
        have p1 := p0.below b1
        have p1a := p1.1
        have p1b := p1.2
        have q1 := q0.below b1
        have q1a := q1.1
        have q1b := q1.2
        have t1 := t0.below b1
        have t1a := t1.1
        have t1b := t1.2
        clear p0q p0r q0q q0r t0q t0r
        go_wp2
        have p1q := p1.bb.1
        have p1r := p1.bb.2
        have q1q := q1.bb.1
        have q1r := q1.bb.2
        have t1q := t1.bb.1
        have t1r := t1.bb.2
        refine wp_region_below mx (by kernel_rfl) ?_
        intro nebb
        repeat (go_big_quiet_step (fail))
        go_big_quiet_step ((go_at_call 10; exact callsBB (unhide Z2 _)))
        repeat (go_big_quiet_step (fail))
        go_big_quiet_step ((go_at_call 10; exact callsBB (unhide Z1 _)))
        repeat (go_big_quiet_step (fail))
        go_big_quiet_step ((go_at_call 25; exact callsBB (unhide H4 _ (lyBB L1))))
        repeat (go_big_quiet_step (fail))
        refine wpQuiet_nil ?_
        intro _ hw'
        obtain ⟨pq, hw''⟩ := hw'
        subst hw''
        have b2 := pq.b
        generalize pq.W = w2 at *
        have c2 := c1.trans (b2.mono c1.size)
        have L2 := hL.keep c2
        have p2 := p1.below b2
        have p2a := p2.1
        have p2b := p2.2
        have q2 := q1.below b2
        have q2a := q2.1
        have q2b := q2.2
        have t2 := t1.below b2
        have t2a := t2.1
        have t2b := t2.2
        clear p1q p1r q1q q1r t1q t1r
        go_wp2
        have p2q := p2.bb.1
        have p2r := p2.bb.2
        have q2q := q2.bb.1
        have q2r := q2.bb.2
        have t2q := t2.bb.1
        have t2r := t2.bb.2
        refine wp_region_below mx (by kernel_rfl) ?_
        intro nebb
        repeat (go_big_quiet_step (fail))
        go_big_quiet_step ((go_at_call 10; exact callsBB (unhide Z1 _)))
        repeat (go_big_quiet_step (fail))
        go_big_quiet_step ((go_at_call 10; exact callsBB (unhide Z2 _)))
        repeat (go_big_quiet_step (fail))
        refine wpQuiet_nil ?_
        intro _ hw'
        obtain ⟨pq, hw''⟩ := hw'
        subst hw''
        have b3 := pq.b
        generalize pq.W = w3 at *
        have c3 := c2.trans (b3.mono c2.size)
        have L3 := hL.keep c3
        have p3 := p2.below b3
        have p3a := p3.1
        have p3b := p3.2
        have q3 := q2.below b3
        have q3a := q3.1
        have q3b := q3.2
        have t3 := t2.below b3
        have t3a := t3.1
        have t3b := t3.2
        clear p2q p2r q2q q2r t2q t2r
        go_wp2_with (first
          | (go_at_call 20; refine (unhide HA _ L3).mono ?_; rintro e w4 ⟨rfl, b4⟩; have c4 := c3.trans (b4.mono c3.size); have L4 := hL.keep c4; have p4 := p3.below b4; have p4a := p4.1; have p4b := p4.2; have q4 := q3.below b4; have q4a := q4.1; have q4b := q4.2; have t4 := t3.below b4; have t4a := t4.1; have t4b := t4.2))
        go_ret
        exact ⟨rfl, c4⟩
  · clear t1
    by_cases b1 : 0 ≤ B
    · have cc2 : 0 ≤ C := t2 (by omega) b1
      clear t2
      have dd0 : decide (0 ≤ B) = true := decide_eq_true (by omega)
      have dd1 : decide (C < 0) = false := decide_eq_false (by omega)
      obtain rfl : ee = false := by cases ee <;> simp at hs; rfl
      cases f1
      · obtain rfl : f2 = true := by cases f2 <;> simp at hs; rfl
        clear hs
        have mx : Tryd.prog.follows .mixedOrders = true := by kernel_rfl
        have c0 : Below w.heap.size w (((w.alloc (.cells #[.float .f64 x, .float .f64 y] 24)).alloc (.cells #[.float .f64 u, .float .f64 v] 24)).alloc (.cells #[.float .f64 r, .float .f64 s] 24)) := ((Below.one w _).trans ((Below.one _ _).mono (by simp <;> omega))).trans ((Below.one _ _).mono (by simp <;> omega))
        have L0 := hL.keep c0
        have p0 : Bx (((w.alloc (.cells #[.float .f64 x, .float .f64 y] 24)).alloc (.cells #[.float .f64 u, .float .f64 v] 24)).alloc (.cells #[.float .f64 r, .float .f64 s] 24)) (w.heap.size) x y := ((bxn w x y (w.heap.size) 24 (by simp)).below (Below.one _ _)).below (Below.one _ _)
        have p0a := p0.1
        have p0b := p0.2
        have q0 : Bx (((w.alloc (.cells #[.float .f64 x, .float .f64 y] 24)).alloc (.cells #[.float .f64 u, .float .f64 v] 24)).alloc (.cells #[.float .f64 r, .float .f64 s] 24)) (w.heap.size + 1) u v := (bxn (w.alloc (.cells #[.float .f64 x, .float .f64 y] 24)) u v (w.heap.size + 1) 24 (by simp)).below (Below.one _ _)
        have q0a := q0.1
        have q0b := q0.2
        have t0 : Bx (((w.alloc (.cells #[.float .f64 x, .float .f64 y] 24)).alloc (.cells #[.float .f64 u, .float .f64 v] 24)).alloc (.cells #[.float .f64 r, .float .f64 s] 24)) (w.heap.size + 1 + 1) r s := bxn ((w.alloc (.cells #[.float .f64 x, .float .f64 y] 24)).alloc (.cells #[.float .f64 u, .float .f64 v] 24)) r s (w.heap.size + 1 + 1) 24 (by simp)
        have t0a := t0.1
        have t0b := t0.2
        go_enter Tryd.func8, Tryd.ntmps8
        go_wp2
        have p0q := p0.bb.1
        have p0r := p0.bb.2
        have q0q := q0.bb.1
        have q0r := q0.bb.2
        have t0q := t0.bb.1
        have t0r := t0.bb.2
        refine wp_region_below mx (by kernel_rfl) ?_
        intro nebb
        repeat (go_big_quiet_step (fail))
        go_big_quiet_step ((go_at_call 10; exact callsBB (unhide Z1 _)))
        repeat (go_big_quiet_step (fail))
        go_big_quiet_step ((go_at_call 10; exact callsBB (unhide Z2 _)))
        repeat (go_big_quiet_step (fail))
        go_big_quiet_step ((go_at_call 25; exact callsBB (unhide H1 _ (lyBB L0))))
        repeat (go_big_quiet_step (fail))
        go_big_quiet_step ((go_at_call 10; exact callsBB (unhide Z2 _)))
        repeat (go_big_quiet_step (fail))
        go_big_quiet_step ((go_at_call 10; exact callsBB (unhide Z3 _)))
        repeat (go_big_quiet_step (fail))
        go_big_quiet_step ((go_at_call 25; exact callsBB (unhide H2 _ (lyBB L0))))
        repeat (go_big_quiet_step (fail))
        go_big_quiet_step ((go_at_call 10; exact callsBB (unhide Z1 _)))
        repeat (go_big_quiet_step (fail))
        go_big_quiet_step ((go_at_call 10; exact callsBB (unhide Z3 _)))
        repeat (go_big_quiet_step (fail))
        go_big_quiet_step ((go_at_call 25; exact callsBB (unhide H3 _ (lyBB L0))))
        repeat (go_big_quiet_step (fail))
        refine wpQuiet_nil ?_
        intro _ hw'
        obtain ⟨pq, hw''⟩ := hw'
        subst hw''
        have b1 := pq.b
        generalize pq.W = w1 at *
        have c1 := c0.trans (b1.mono c0.size)
        have L1 := hL.keep c1
        have p1 := p0.below b1
        have p1a := p1.1
        have p1b := p1.2
        have q1 := q0.below b1
        have q1a := q1.1
        have q1b := q1.2
        have t1 := t0.below b1
        have t1a := t1.1
        have t1b := t1.2
        clear p0q p0r q0q q0r t0q t0r
        go_wp2
        have p1q := p1.bb.1
        have p1r := p1.bb.2
        have q1q := q1.bb.1
        have q1r := q1.bb.2
        have t1q := t1.bb.1
        have t1r := t1.bb.2
        refine wp_region_below mx (by kernel_rfl) ?_
        intro nebb
        repeat (go_big_quiet_step (fail))
        go_big_quiet_step ((go_at_call 10; exact callsBB (unhide Z2 _)))
        repeat (go_big_quiet_step (fail))
        go_big_quiet_step ((go_at_call 10; exact callsBB (unhide Z1 _)))
        repeat (go_big_quiet_step (fail))
        go_big_quiet_step ((go_at_call 25; exact callsBB (unhide H4 _ (lyBB L1))))
        repeat (go_big_quiet_step (fail))
        refine wpQuiet_nil ?_
        intro _ hw'
        obtain ⟨pq, hw''⟩ := hw'
        subst hw''
        have b2 := pq.b
        generalize pq.W = w2 at *
        have c2 := c1.trans (b2.mono c1.size)
        have L2 := hL.keep c2
        have p2 := p1.below b2
        have p2a := p2.1
        have p2b := p2.2
        have q2 := q1.below b2
        have q2a := q2.1
        have q2b := q2.2
        have t2 := t1.below b2
        have t2a := t2.1
        have t2b := t2.2
        clear p1q p1r q1q q1r t1q t1r
        go_wp2
        have p2q := p2.bb.1
        have p2r := p2.bb.2
        have q2q := q2.bb.1
        have q2r := q2.bb.2
        have t2q := t2.bb.1
        have t2r := t2.bb.2
        refine wp_region_below mx (by kernel_rfl) ?_
        intro nebb
        repeat (go_big_quiet_step (fail))
        go_big_quiet_step ((go_at_call 10; exact callsBB (unhide Z1 _)))
        repeat (go_big_quiet_step (fail))
        go_big_quiet_step ((go_at_call 10; exact callsBB (unhide Z2 _)))
        repeat (go_big_quiet_step (fail))
        go_big_quiet_step ((go_at_call 10; exact callsBB (unhide Z1 _)))
        repeat (go_big_quiet_step (fail))
        go_big_quiet_step ((go_at_call 17; exact callsBB (unhide H5 _ (lyBB L2))))
        repeat (go_big_quiet_step (fail))
        go_big_quiet_step ((go_at_call 10; exact callsBB (unhide Z2 _)))
        repeat (go_big_quiet_step (fail))
        go_big_quiet_step ((go_at_call 17; exact callsBB (unhide H6 _ (lyBB L2))))
        repeat (go_big_quiet_step (fail))
        refine wpQuiet_nil ?_
        intro _ hw'
        obtain ⟨pq, hw''⟩ := hw'
        subst hw''
        have b3 := pq.b
        generalize pq.W = w3 at *
        have c3 := c2.trans (b3.mono c2.size)
        have L3 := hL.keep c3
        have p3 := p2.below b3
        have p3a := p3.1
        have p3b := p3.2
        have q3 := q2.below b3
        have q3a := q3.1
        have q3b := q3.2
        have t3 := t2.below b3
        have t3a := t3.1
        have t3b := t3.2
        clear p2q p2r q2q q2r t2q t2r
        go_wp2_with (first
          | (go_at_call 20; refine (unhide HA _ L3).mono ?_; rintro e w4 ⟨rfl, b4⟩; have c4 := c3.trans (b4.mono c3.size); have L4 := hL.keep c4; have p4 := p3.below b4; have p4a := p4.1; have p4b := p4.2; have q4 := q3.below b4; have q4a := q4.1; have q4b := q4.2; have t4 := t3.below b4; have t4a := t4.1; have t4b := t4.2))
        go_ret
        exact ⟨rfl, c4⟩
      · clear hs
        have mx : Tryd.prog.follows .mixedOrders = true := by kernel_rfl
        have c0 : Below w.heap.size w (((w.alloc (.cells #[.float .f64 x, .float .f64 y] 24)).alloc (.cells #[.float .f64 u, .float .f64 v] 24)).alloc (.cells #[.float .f64 r, .float .f64 s] 24)) := ((Below.one w _).trans ((Below.one _ _).mono (by simp <;> omega))).trans ((Below.one _ _).mono (by simp <;> omega))
        have L0 := hL.keep c0
        have p0 : Bx (((w.alloc (.cells #[.float .f64 x, .float .f64 y] 24)).alloc (.cells #[.float .f64 u, .float .f64 v] 24)).alloc (.cells #[.float .f64 r, .float .f64 s] 24)) (w.heap.size) x y := ((bxn w x y (w.heap.size) 24 (by simp)).below (Below.one _ _)).below (Below.one _ _)
        have p0a := p0.1
        have p0b := p0.2
        have q0 : Bx (((w.alloc (.cells #[.float .f64 x, .float .f64 y] 24)).alloc (.cells #[.float .f64 u, .float .f64 v] 24)).alloc (.cells #[.float .f64 r, .float .f64 s] 24)) (w.heap.size + 1) u v := (bxn (w.alloc (.cells #[.float .f64 x, .float .f64 y] 24)) u v (w.heap.size + 1) 24 (by simp)).below (Below.one _ _)
        have q0a := q0.1
        have q0b := q0.2
        have t0 : Bx (((w.alloc (.cells #[.float .f64 x, .float .f64 y] 24)).alloc (.cells #[.float .f64 u, .float .f64 v] 24)).alloc (.cells #[.float .f64 r, .float .f64 s] 24)) (w.heap.size + 1 + 1) r s := bxn ((w.alloc (.cells #[.float .f64 x, .float .f64 y] 24)).alloc (.cells #[.float .f64 u, .float .f64 v] 24)) r s (w.heap.size + 1 + 1) 24 (by simp)
        have t0a := t0.1
        have t0b := t0.2
        go_enter Tryd.func8, Tryd.ntmps8
        go_wp2
        have p0q := p0.bb.1
        have p0r := p0.bb.2
        have q0q := q0.bb.1
        have q0r := q0.bb.2
        have t0q := t0.bb.1
        have t0r := t0.bb.2
        refine wp_region_below mx (by kernel_rfl) ?_
        intro nebb
        repeat (go_big_quiet_step (fail))
        go_big_quiet_step ((go_at_call 10; exact callsBB (unhide Z1 _)))
        repeat (go_big_quiet_step (fail))
        go_big_quiet_step ((go_at_call 10; exact callsBB (unhide Z2 _)))
        repeat (go_big_quiet_step (fail))
        go_big_quiet_step ((go_at_call 25; exact callsBB (unhide H1 _ (lyBB L0))))
        repeat (go_big_quiet_step (fail))
        go_big_quiet_step ((go_at_call 10; exact callsBB (unhide Z2 _)))
        repeat (go_big_quiet_step (fail))
        go_big_quiet_step ((go_at_call 10; exact callsBB (unhide Z3 _)))
        repeat (go_big_quiet_step (fail))
        go_big_quiet_step ((go_at_call 25; exact callsBB (unhide H2 _ (lyBB L0))))
        repeat (go_big_quiet_step (fail))
        go_big_quiet_step ((go_at_call 10; exact callsBB (unhide Z1 _)))
        repeat (go_big_quiet_step (fail))
        go_big_quiet_step ((go_at_call 10; exact callsBB (unhide Z3 _)))
        repeat (go_big_quiet_step (fail))
        go_big_quiet_step ((go_at_call 25; exact callsBB (unhide H3 _ (lyBB L0))))
        repeat (go_big_quiet_step (fail))
        refine wpQuiet_nil ?_
        intro _ hw'
        obtain ⟨pq, hw''⟩ := hw'
        subst hw''
        have b1 := pq.b
        generalize pq.W = w1 at *
        have c1 := c0.trans (b1.mono c0.size)
        have L1 := hL.keep c1
        have p1 := p0.below b1
        have p1a := p1.1
        have p1b := p1.2
        have q1 := q0.below b1
        have q1a := q1.1
        have q1b := q1.2
        have t1 := t0.below b1
        have t1a := t1.1
        have t1b := t1.2
        clear p0q p0r q0q q0r t0q t0r
        go_wp2
        have p1q := p1.bb.1
        have p1r := p1.bb.2
        have q1q := q1.bb.1
        have q1r := q1.bb.2
        have t1q := t1.bb.1
        have t1r := t1.bb.2
        refine wp_region_below mx (by kernel_rfl) ?_
        intro nebb
        repeat (go_big_quiet_step (fail))
        go_big_quiet_step ((go_at_call 10; exact callsBB (unhide Z2 _)))
        repeat (go_big_quiet_step (fail))
        go_big_quiet_step ((go_at_call 10; exact callsBB (unhide Z1 _)))
        repeat (go_big_quiet_step (fail))
        go_big_quiet_step ((go_at_call 25; exact callsBB (unhide H4 _ (lyBB L1))))
        repeat (go_big_quiet_step (fail))
        refine wpQuiet_nil ?_
        intro _ hw'
        obtain ⟨pq, hw''⟩ := hw'
        subst hw''
        have b2 := pq.b
        generalize pq.W = w2 at *
        have c2 := c1.trans (b2.mono c1.size)
        have L2 := hL.keep c2
        have p2 := p1.below b2
        have p2a := p2.1
        have p2b := p2.2
        have q2 := q1.below b2
        have q2a := q2.1
        have q2b := q2.2
        have t2 := t1.below b2
        have t2a := t2.1
        have t2b := t2.2
        clear p1q p1r q1q q1r t1q t1r
        go_wp2
        have p2q := p2.bb.1
        have p2r := p2.bb.2
        have q2q := q2.bb.1
        have q2r := q2.bb.2
        have t2q := t2.bb.1
        have t2r := t2.bb.2
        refine wp_region_below mx (by kernel_rfl) ?_
        intro nebb
        repeat (go_big_quiet_step (fail))
        go_big_quiet_step ((go_at_call 10; exact callsBB (unhide Z1 _)))
        repeat (go_big_quiet_step (fail))
        go_big_quiet_step ((go_at_call 10; exact callsBB (unhide Z2 _)))
        repeat (go_big_quiet_step (fail))
        go_big_quiet_step ((go_at_call 10; exact callsBB (unhide Z1 _)))
        repeat (go_big_quiet_step (fail))
        go_big_quiet_step ((go_at_call 17; exact callsBB (unhide H5 _ (lyBB L2))))
        repeat (go_big_quiet_step (fail))
        refine wpQuiet_nil ?_
        intro _ hw'
        obtain ⟨pq, hw''⟩ := hw'
        subst hw''
        have b3 := pq.b
        generalize pq.W = w3 at *
        have c3 := c2.trans (b3.mono c2.size)
        have L3 := hL.keep c3
        have p3 := p2.below b3
        have p3a := p3.1
        have p3b := p3.2
        have q3 := q2.below b3
        have q3a := q3.1
        have q3b := q3.2
        have t3 := t2.below b3
        have t3a := t3.1
        have t3b := t3.2
        clear p2q p2r q2q q2r t2q t2r
        go_wp2_with (first
          | (go_at_call 20; refine (unhide HA _ L3).mono ?_; rintro e w4 ⟨rfl, b4⟩; have c4 := c3.trans (b4.mono c3.size); have L4 := hL.keep c4; have p4 := p3.below b4; have p4a := p4.1; have p4b := p4.2; have q4 := q3.below b4; have q4a := q4.1; have q4b := q4.2; have t4 := t3.below b4; have t4a := t4.1; have t4b := t4.2))
        go_ret
        exact ⟨rfl, c4⟩
    · clear t2
      have dd0 : decide (0 ≤ B) = false := decide_eq_false (by omega)
      obtain rfl : ee = false := by cases ee <;> simp at hs; rfl
      cases f1
      · obtain rfl : f2 = true := by cases f2 <;> simp at hs; rfl
        clear hs
        have mx : Tryd.prog.follows .mixedOrders = true := by kernel_rfl
        have c0 : Below w.heap.size w (((w.alloc (.cells #[.float .f64 x, .float .f64 y] 24)).alloc (.cells #[.float .f64 u, .float .f64 v] 24)).alloc (.cells #[.float .f64 r, .float .f64 s] 24)) := ((Below.one w _).trans ((Below.one _ _).mono (by simp <;> omega))).trans ((Below.one _ _).mono (by simp <;> omega))
        have L0 := hL.keep c0
        have p0 : Bx (((w.alloc (.cells #[.float .f64 x, .float .f64 y] 24)).alloc (.cells #[.float .f64 u, .float .f64 v] 24)).alloc (.cells #[.float .f64 r, .float .f64 s] 24)) (w.heap.size) x y := ((bxn w x y (w.heap.size) 24 (by simp)).below (Below.one _ _)).below (Below.one _ _)
        have p0a := p0.1
        have p0b := p0.2
        have q0 : Bx (((w.alloc (.cells #[.float .f64 x, .float .f64 y] 24)).alloc (.cells #[.float .f64 u, .float .f64 v] 24)).alloc (.cells #[.float .f64 r, .float .f64 s] 24)) (w.heap.size + 1) u v := (bxn (w.alloc (.cells #[.float .f64 x, .float .f64 y] 24)) u v (w.heap.size + 1) 24 (by simp)).below (Below.one _ _)
        have q0a := q0.1
        have q0b := q0.2
        have t0 : Bx (((w.alloc (.cells #[.float .f64 x, .float .f64 y] 24)).alloc (.cells #[.float .f64 u, .float .f64 v] 24)).alloc (.cells #[.float .f64 r, .float .f64 s] 24)) (w.heap.size + 1 + 1) r s := bxn ((w.alloc (.cells #[.float .f64 x, .float .f64 y] 24)).alloc (.cells #[.float .f64 u, .float .f64 v] 24)) r s (w.heap.size + 1 + 1) 24 (by simp)
        have t0a := t0.1
        have t0b := t0.2
        go_enter Tryd.func8, Tryd.ntmps8
        go_wp2
        have p0q := p0.bb.1
        have p0r := p0.bb.2
        have q0q := q0.bb.1
        have q0r := q0.bb.2
        have t0q := t0.bb.1
        have t0r := t0.bb.2
        refine wp_region_below mx (by kernel_rfl) ?_
        intro nebb
        repeat (go_big_quiet_step (fail))
        go_big_quiet_step ((go_at_call 10; exact callsBB (unhide Z1 _)))
        repeat (go_big_quiet_step (fail))
        go_big_quiet_step ((go_at_call 10; exact callsBB (unhide Z2 _)))
        repeat (go_big_quiet_step (fail))
        go_big_quiet_step ((go_at_call 25; exact callsBB (unhide H1 _ (lyBB L0))))
        repeat (go_big_quiet_step (fail))
        go_big_quiet_step ((go_at_call 10; exact callsBB (unhide Z2 _)))
        repeat (go_big_quiet_step (fail))
        go_big_quiet_step ((go_at_call 10; exact callsBB (unhide Z3 _)))
        repeat (go_big_quiet_step (fail))
        go_big_quiet_step ((go_at_call 25; exact callsBB (unhide H2 _ (lyBB L0))))
        repeat (go_big_quiet_step (fail))
        go_big_quiet_step ((go_at_call 10; exact callsBB (unhide Z1 _)))
        repeat (go_big_quiet_step (fail))
        go_big_quiet_step ((go_at_call 10; exact callsBB (unhide Z3 _)))
        repeat (go_big_quiet_step (fail))
        go_big_quiet_step ((go_at_call 25; exact callsBB (unhide H3 _ (lyBB L0))))
        repeat (go_big_quiet_step (fail))
        refine wpQuiet_nil ?_
        intro _ hw'
        obtain ⟨pq, hw''⟩ := hw'
        subst hw''
        have b1 := pq.b
        generalize pq.W = w1 at *
        have c1 := c0.trans (b1.mono c0.size)
        have L1 := hL.keep c1
        have p1 := p0.below b1
        have p1a := p1.1
        have p1b := p1.2
        have q1 := q0.below b1
        have q1a := q1.1
        have q1b := q1.2
        have t1 := t0.below b1
        have t1a := t1.1
        have t1b := t1.2
        clear p0q p0r q0q q0r t0q t0r
        go_wp2
        have p1q := p1.bb.1
        have p1r := p1.bb.2
        have q1q := q1.bb.1
        have q1r := q1.bb.2
        have t1q := t1.bb.1
        have t1r := t1.bb.2
        refine wp_region_below mx (by kernel_rfl) ?_
        intro nebb
        repeat (go_big_quiet_step (fail))
        go_big_quiet_step ((go_at_call 10; exact callsBB (unhide Z2 _)))
        repeat (go_big_quiet_step (fail))
        go_big_quiet_step ((go_at_call 10; exact callsBB (unhide Z1 _)))
        repeat (go_big_quiet_step (fail))
        go_big_quiet_step ((go_at_call 25; exact callsBB (unhide H4 _ (lyBB L1))))
        repeat (go_big_quiet_step (fail))
        refine wpQuiet_nil ?_
        intro _ hw'
        obtain ⟨pq, hw''⟩ := hw'
        subst hw''
        have b2 := pq.b
        generalize pq.W = w2 at *
        have c2 := c1.trans (b2.mono c1.size)
        have L2 := hL.keep c2
        have p2 := p1.below b2
        have p2a := p2.1
        have p2b := p2.2
        have q2 := q1.below b2
        have q2a := q2.1
        have q2b := q2.2
        have t2 := t1.below b2
        have t2a := t2.1
        have t2b := t2.2
        clear p1q p1r q1q q1r t1q t1r
        go_wp2
        have p2q := p2.bb.1
        have p2r := p2.bb.2
        have q2q := q2.bb.1
        have q2r := q2.bb.2
        have t2q := t2.bb.1
        have t2r := t2.bb.2
        refine wp_region_below mx (by kernel_rfl) ?_
        intro nebb
        repeat (go_big_quiet_step (fail))
        go_big_quiet_step ((go_at_call 10; exact callsBB (unhide Z1 _)))
        repeat (go_big_quiet_step (fail))
        go_big_quiet_step ((go_at_call 10; exact callsBB (unhide Z2 _)))
        repeat (go_big_quiet_step (fail))
        go_big_quiet_step ((go_at_call 10; exact callsBB (unhide Z1 _)))
        repeat (go_big_quiet_step (fail))
        go_big_quiet_step ((go_at_call 17; exact callsBB (unhide H5 _ (lyBB L2))))
        repeat (go_big_quiet_step (fail))
        go_big_quiet_step ((go_at_call 10; exact callsBB (unhide Z2 _)))
        repeat (go_big_quiet_step (fail))
        go_big_quiet_step ((go_at_call 17; exact callsBB (unhide H6 _ (lyBB L2))))
        repeat (go_big_quiet_step (fail))
        refine wpQuiet_nil ?_
        intro _ hw'
        obtain ⟨pq, hw''⟩ := hw'
        subst hw''
        have b3 := pq.b
        generalize pq.W = w3 at *
        have c3 := c2.trans (b3.mono c2.size)
        have L3 := hL.keep c3
        have p3 := p2.below b3
        have p3a := p3.1
        have p3b := p3.2
        have q3 := q2.below b3
        have q3a := q3.1
        have q3b := q3.2
        have t3 := t2.below b3
        have t3a := t3.1
        have t3b := t3.2
        clear p2q p2r q2q q2r t2q t2r
        go_wp2_with (first
          | (go_at_call 20; refine (unhide HA _ L3).mono ?_; rintro e w4 ⟨rfl, b4⟩; have c4 := c3.trans (b4.mono c3.size); have L4 := hL.keep c4; have p4 := p3.below b4; have p4a := p4.1; have p4b := p4.2; have q4 := q3.below b4; have q4a := q4.1; have q4b := q4.2; have t4 := t3.below b4; have t4a := t4.1; have t4b := t4.2))
        go_ret
        exact ⟨rfl, c4⟩
      · clear hs
        have mx : Tryd.prog.follows .mixedOrders = true := by kernel_rfl
        have c0 : Below w.heap.size w (((w.alloc (.cells #[.float .f64 x, .float .f64 y] 24)).alloc (.cells #[.float .f64 u, .float .f64 v] 24)).alloc (.cells #[.float .f64 r, .float .f64 s] 24)) := ((Below.one w _).trans ((Below.one _ _).mono (by simp <;> omega))).trans ((Below.one _ _).mono (by simp <;> omega))
        have L0 := hL.keep c0
        have p0 : Bx (((w.alloc (.cells #[.float .f64 x, .float .f64 y] 24)).alloc (.cells #[.float .f64 u, .float .f64 v] 24)).alloc (.cells #[.float .f64 r, .float .f64 s] 24)) (w.heap.size) x y := ((bxn w x y (w.heap.size) 24 (by simp)).below (Below.one _ _)).below (Below.one _ _)
        have p0a := p0.1
        have p0b := p0.2
        have q0 : Bx (((w.alloc (.cells #[.float .f64 x, .float .f64 y] 24)).alloc (.cells #[.float .f64 u, .float .f64 v] 24)).alloc (.cells #[.float .f64 r, .float .f64 s] 24)) (w.heap.size + 1) u v := (bxn (w.alloc (.cells #[.float .f64 x, .float .f64 y] 24)) u v (w.heap.size + 1) 24 (by simp)).below (Below.one _ _)
        have q0a := q0.1
        have q0b := q0.2
        have t0 : Bx (((w.alloc (.cells #[.float .f64 x, .float .f64 y] 24)).alloc (.cells #[.float .f64 u, .float .f64 v] 24)).alloc (.cells #[.float .f64 r, .float .f64 s] 24)) (w.heap.size + 1 + 1) r s := bxn ((w.alloc (.cells #[.float .f64 x, .float .f64 y] 24)).alloc (.cells #[.float .f64 u, .float .f64 v] 24)) r s (w.heap.size + 1 + 1) 24 (by simp)
        have t0a := t0.1
        have t0b := t0.2
        go_enter Tryd.func8, Tryd.ntmps8
        go_wp2
        have p0q := p0.bb.1
        have p0r := p0.bb.2
        have q0q := q0.bb.1
        have q0r := q0.bb.2
        have t0q := t0.bb.1
        have t0r := t0.bb.2
        refine wp_region_below mx (by kernel_rfl) ?_
        intro nebb
        repeat (go_big_quiet_step (fail))
        go_big_quiet_step ((go_at_call 10; exact callsBB (unhide Z1 _)))
        repeat (go_big_quiet_step (fail))
        go_big_quiet_step ((go_at_call 10; exact callsBB (unhide Z2 _)))
        repeat (go_big_quiet_step (fail))
        go_big_quiet_step ((go_at_call 25; exact callsBB (unhide H1 _ (lyBB L0))))
        repeat (go_big_quiet_step (fail))
        go_big_quiet_step ((go_at_call 10; exact callsBB (unhide Z2 _)))
        repeat (go_big_quiet_step (fail))
        go_big_quiet_step ((go_at_call 10; exact callsBB (unhide Z3 _)))
        repeat (go_big_quiet_step (fail))
        go_big_quiet_step ((go_at_call 25; exact callsBB (unhide H2 _ (lyBB L0))))
        repeat (go_big_quiet_step (fail))
        go_big_quiet_step ((go_at_call 10; exact callsBB (unhide Z1 _)))
        repeat (go_big_quiet_step (fail))
        go_big_quiet_step ((go_at_call 10; exact callsBB (unhide Z3 _)))
        repeat (go_big_quiet_step (fail))
        go_big_quiet_step ((go_at_call 25; exact callsBB (unhide H3 _ (lyBB L0))))
        repeat (go_big_quiet_step (fail))
        refine wpQuiet_nil ?_
        intro _ hw'
        obtain ⟨pq, hw''⟩ := hw'
        subst hw''
        have b1 := pq.b
        generalize pq.W = w1 at *
        have c1 := c0.trans (b1.mono c0.size)
        have L1 := hL.keep c1
        have p1 := p0.below b1
        have p1a := p1.1
        have p1b := p1.2
        have q1 := q0.below b1
        have q1a := q1.1
        have q1b := q1.2
        have t1 := t0.below b1
        have t1a := t1.1
        have t1b := t1.2
        clear p0q p0r q0q q0r t0q t0r
        go_wp2
        have p1q := p1.bb.1
        have p1r := p1.bb.2
        have q1q := q1.bb.1
        have q1r := q1.bb.2
        have t1q := t1.bb.1
        have t1r := t1.bb.2
        refine wp_region_below mx (by kernel_rfl) ?_
        intro nebb
        repeat (go_big_quiet_step (fail))
        go_big_quiet_step ((go_at_call 10; exact callsBB (unhide Z2 _)))
        repeat (go_big_quiet_step (fail))
        go_big_quiet_step ((go_at_call 10; exact callsBB (unhide Z1 _)))
        repeat (go_big_quiet_step (fail))
        go_big_quiet_step ((go_at_call 25; exact callsBB (unhide H4 _ (lyBB L1))))
        repeat (go_big_quiet_step (fail))
        refine wpQuiet_nil ?_
        intro _ hw'
        obtain ⟨pq, hw''⟩ := hw'
        subst hw''
        have b2 := pq.b
        generalize pq.W = w2 at *
        have c2 := c1.trans (b2.mono c1.size)
        have L2 := hL.keep c2
        have p2 := p1.below b2
        have p2a := p2.1
        have p2b := p2.2
        have q2 := q1.below b2
        have q2a := q2.1
        have q2b := q2.2
        have t2 := t1.below b2
        have t2a := t2.1
        have t2b := t2.2
        clear p1q p1r q1q q1r t1q t1r
        go_wp2
        have p2q := p2.bb.1
        have p2r := p2.bb.2
        have q2q := q2.bb.1
        have q2r := q2.bb.2
        have t2q := t2.bb.1
        have t2r := t2.bb.2
        refine wp_region_below mx (by kernel_rfl) ?_
        intro nebb
        repeat (go_big_quiet_step (fail))
        go_big_quiet_step ((go_at_call 10; exact callsBB (unhide Z1 _)))
        repeat (go_big_quiet_step (fail))
        go_big_quiet_step ((go_at_call 10; exact callsBB (unhide Z2 _)))
        repeat (go_big_quiet_step (fail))
        go_big_quiet_step ((go_at_call 10; exact callsBB (unhide Z1 _)))
        repeat (go_big_quiet_step (fail))
        go_big_quiet_step ((go_at_call 17; exact callsBB (unhide H5 _ (lyBB L2))))
        repeat (go_big_quiet_step (fail))
        refine wpQuiet_nil ?_
        intro _ hw'
        obtain ⟨pq, hw''⟩ := hw'
        subst hw''
        have b3 := pq.b
        generalize pq.W = w3 at *
        have c3 := c2.trans (b3.mono c2.size)
        have L3 := hL.keep c3
        have p3 := p2.below b3
        have p3a := p3.1
        have p3b := p3.2
        have q3 := q2.below b3
        have q3a := q3.1
        have q3b := q3.2
        have t3 := t2.below b3
        have t3a := t3.1
        have t3b := t3.2
        clear p2q p2r q2q q2r t2q t2r
        go_wp2_with (first
          | (go_at_call 20; refine (unhide HA _ L3).mono ?_; rintro e w4 ⟨rfl, b4⟩; have c4 := c3.trans (b4.mono c3.size); have L4 := hL.keep c4; have p4 := p3.below b4; have p4a := p4.1; have p4b := p4.2; have q4 := q3.below b4; have q4a := q4.1; have q4b := q4.2; have t4 := t3.below b4; have t4a := t4.1; have t4b := t4.2))
        go_ret
        exact ⟨rfl, c4⟩
end Go.Proofs.YtpkofpgdnbkknaaDoor
