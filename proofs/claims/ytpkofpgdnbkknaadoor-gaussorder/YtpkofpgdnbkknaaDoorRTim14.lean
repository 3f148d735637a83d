/- The document's Times of layer 14. -/
import Derived.Test.YtpkofpgdnbkknaaDoorROps14
namespace Go.Proofs.YtpkofpgdnbkknaaDoor
open Go.RowKit

theorem inZ_yes {a : Int} (h1 : -999999 ≤ a) (h2 : a ≤ 999999) : inZ a = true := decide_eq_true ⟨h1, h2⟩
theorem inZ_lo {a : Int} (h : a < -999999) : inZ a = false := decide_eq_false (by omega)
theorem inZ_hi {a : Int} (h : 999999 < a) : inZ a = false := decide_eq_false (by omega)
/-- Two boxes of two cells. -/
theorem two_gr {w w1 : World} {a b c d : Value} {T : TypeId} (g : Gr ((w.alloc (.cells #[a, b] T)).alloc (.cells #[c, d] T)) w1) :
    w1.cell? ⟨w.heap.size + 1, 0, none⟩ = some c ∧ w1.cell? ⟨w.heap.size + 1, 1, none⟩ = some d ∧ w1.cell? ⟨w.heap.size, 0, none⟩ = some a ∧ w1.cell? ⟨w.heap.size, 1, none⟩ = some b := by
  have e : (w.alloc (.cells #[a, b] T)).heap.size = w.heap.size + 1 := by simp
  have p1 : (w.alloc (.cells #[a, b] T)).cell? ⟨w.heap.size, 0, none⟩ = some a := by rw [World.cell?_alloc_mark]; rfl
  have p2 : (w.alloc (.cells #[a, b] T)).cell? ⟨w.heap.size, 1, none⟩ = some b := by rw [World.cell?_alloc_mark]; rfl
  have q1 : ((w.alloc (.cells #[a, b] T)).alloc (.cells #[c, d] T)).cell? ⟨w.heap.size + 1, 0, none⟩ = some c := by rw [← e, World.cell?_alloc_mark]; rfl
  have q2 : ((w.alloc (.cells #[a, b] T)).alloc (.cells #[c, d] T)).cell? ⟨w.heap.size + 1, 1, none⟩ = some d := by rw [← e, World.cell?_alloc_mark]; rfl
  exact ⟨g.cell q1, g.cell q2, g.cell ((Gr.one _ _).cell p1), g.cell ((Gr.one _ _).cell p2)⟩
theorem tim_none_r (p : Option (Int × Int)) : tim p none = (0, 0) ∧ timE p none = 140 := by cases p <;> exact ⟨rfl, rfl⟩
theorem tim_out (a b c d : Int) (h : (inZ (a * c - b * d) && inZ (a * d + b * c)) = false) : tim (some (a, b)) (some (c, d)) = (0, 0) ∧ timE (some (a, b)) (some (c, d)) = 3 := by
  have hn : ¬ ((inZ (prod (a, b) (c, d)).1 && inZ (prod (a, b) (c, d)).2) = true) := fun e => Bool.noConfusion (h.symm.trans e)
  exact ⟨if_neg hn, if_neg hn⟩
theorem tim_in (a b c d : Int) (h : (inZ (a * c - b * d) && inZ (a * d + b * c)) = true) : tim (some (a, b)) (some (c, d)) = (a * c - b * d, a * d + b * c) ∧ timE (some (a, b)) (some (c, d)) = 0 := by
  have hn : (inZ (prod (a, b) (c, d)).1 && inZ (prod (a, b) (c, d)).2) = true := h
  exact ⟨if_pos hn, if_pos hn⟩
set_option maxHeartbeats 3200000 in
theorem rtimes_any (x y u v : Nat) (w : World) : Calls Tryd.prog 24 #[zz x y, zz u v] w fun e w' => e = .returned (.tuple #[.int .i64 (tim (pz x y) (pz u v)).1, .int .i64 (tim (pz x y) (pz u v)).2, .int .i64 (timE (pz x y) (pz u v))]) ∧ Gr w w' := by
  have g0 := fun o1 o2 => (Gr.one w o1).alloc o2
  cases hp : pz x y with
  | none =>
    have HP := hide (fun W => rparts_no hp W)
    have e1 : tim none (pz u v) = (0, 0) := rfl
    have e2 : timE none (pz u v) = 140 := rfl
    rw [e1, e2]
    cases hq : pz u v with
    | none =>
      have HQ := hide (fun W => rparts_no hq W)
      clear hp hq e1 e2
      go_enter Tryd.func24, Tryd.ntmps24
      go_wp2_with (first | (go_at_call 15; have m1 := k1; refine (unhide HQ _).mono ?_; rintro e w2 ⟨rfl, g2⟩) | (go_at_call 15; refine (unhide HP _).mono ?_; rintro e w1 ⟨rfl, g1⟩; obtain ⟨k1, k2, k3, k4⟩ := two_gr g1))
      go_ret3
      exact ⟨rfl, ((g0 _ _).trans g1).trans g2⟩
    | some q =>
      obtain ⟨c, d⟩ := q
      have HQ := hide (fun W => rparts_yes hq W)
      clear hp hq e1 e2
      go_enter Tryd.func24, Tryd.ntmps24
      go_wp2_with (first | (go_at_call 15; have m1 := k1; refine (unhide HQ _).mono ?_; rintro e w2 ⟨rfl, g2⟩) | (go_at_call 15; refine (unhide HP _).mono ?_; rintro e w1 ⟨rfl, g1⟩; obtain ⟨k1, k2, k3, k4⟩ := two_gr g1))
      go_ret3
      exact ⟨rfl, ((g0 _ _).trans g1).trans g2⟩
  | some p =>
    obtain ⟨a, b⟩ := p
    have HP := hide (fun W => rparts_yes hp W)
    cases hq : pz u v with
    | none =>
      have HQ := hide (fun W => rparts_no hq W)
      rw [(tim_none_r _).1, (tim_none_r _).2]
      clear hp hq
      go_enter Tryd.func24, Tryd.ntmps24
      go_wp2_with (first | (go_at_call 15; have m1 := k1; refine (unhide HQ _).mono ?_; rintro e w2 ⟨rfl, g2⟩) | (go_at_call 15; refine (unhide HP _).mono ?_; rintro e w1 ⟨rfl, g1⟩; obtain ⟨k1, k2, k3, k4⟩ := two_gr g1))
      go_ret3
      exact ⟨rfl, ((g0 _ _).trans g1).trans g2⟩
    | some q =>
      obtain ⟨c, d⟩ := q
      have HQ := hide (fun W => rparts_yes hq W)
      have hi := pz_in hp
      have hj := pz_in hq
      simp only at hi hj
      have m1 := mul_bound a c hi.1 hi.2.1 hj.1 hj.2.1
      have m2 := mul_bound b d hi.2.2.1 hi.2.2.2 hj.2.2.1 hj.2.2.2
      have m3 := mul_bound a d hi.1 hi.2.1 hj.2.2.1 hj.2.2.2
      have m4 := mul_bound b c hi.2.2.1 hi.2.2.2 hj.1 hj.2.1
      have s1 : IntKind.i64.wrap (a * c) = a * c := wrap_in (by omega) (by omega)
      have s2 : IntKind.i64.wrap (b * d) = b * d := wrap_in (by omega) (by omega)
      have s3 : IntKind.i64.wrap (a * d) = a * d := wrap_in (by omega) (by omega)
      have s4 : IntKind.i64.wrap (b * c) = b * c := wrap_in (by omega) (by omega)
      have s5 : IntKind.i64.wrap (a * c - b * d) = a * c - b * d := wrap_in (by omega) (by omega)
      have s6 : IntKind.i64.wrap (a * d + b * c) = a * d + b * c := wrap_in (by omega) (by omega)
      clear hi hj m1 m2 m3 m4 hp hq
      by_cases r1 : a * c - b * d < -999999
      · obtain ⟨e1, e2⟩ := tim_out a b c d (by rw [inZ_lo r1]; rfl)
        rw [e1, e2]
        clear e1 e2
        go_enter Tryd.func24, Tryd.ntmps24
        go_wp2_with (first | (go_at_call 15; have m1 := k1; refine (unhide HQ _).mono ?_; rintro e w2 ⟨rfl, g2⟩) | (go_at_call 15; refine (unhide HP _).mono ?_; rintro e w1 ⟨rfl, g1⟩; obtain ⟨k1, k2, k3, k4⟩ := two_gr g1))
        go_ret3
        exact ⟨rfl, ((g0 _ _).trans g1).trans g2⟩
      · by_cases r2 : 999999 < a * c - b * d
        · obtain ⟨e1, e2⟩ := tim_out a b c d (by rw [inZ_hi r2]; rfl)
          rw [e1, e2]
          clear e1 e2
          go_enter Tryd.func24, Tryd.ntmps24
          go_wp2_with (first | (go_at_call 15; have m1 := k1; refine (unhide HQ _).mono ?_; rintro e w2 ⟨rfl, g2⟩) | (go_at_call 15; refine (unhide HP _).mono ?_; rintro e w1 ⟨rfl, g1⟩; obtain ⟨k1, k2, k3, k4⟩ := two_gr g1))
          go_ret3
          exact ⟨rfl, ((g0 _ _).trans g1).trans g2⟩
        · by_cases r3 : a * d + b * c < -999999
          · obtain ⟨e1, e2⟩ := tim_out a b c d (by rw [inZ_lo r3, Bool.and_false])
            rw [e1, e2]
            clear e1 e2
            go_enter Tryd.func24, Tryd.ntmps24
            go_wp2_with (first | (go_at_call 15; have m1 := k1; refine (unhide HQ _).mono ?_; rintro e w2 ⟨rfl, g2⟩) | (go_at_call 15; refine (unhide HP _).mono ?_; rintro e w1 ⟨rfl, g1⟩; obtain ⟨k1, k2, k3, k4⟩ := two_gr g1))
            go_ret3
            exact ⟨rfl, ((g0 _ _).trans g1).trans g2⟩
          · by_cases r4 : 999999 < a * d + b * c
            · obtain ⟨e1, e2⟩ := tim_out a b c d (by rw [inZ_hi r4, Bool.and_false])
              rw [e1, e2]
              clear e1 e2
              go_enter Tryd.func24, Tryd.ntmps24
              go_wp2_with (first | (go_at_call 15; have m1 := k1; refine (unhide HQ _).mono ?_; rintro e w2 ⟨rfl, g2⟩) | (go_at_call 15; refine (unhide HP _).mono ?_; rintro e w1 ⟨rfl, g1⟩; obtain ⟨k1, k2, k3, k4⟩ := two_gr g1))
              go_ret3
              exact ⟨rfl, ((g0 _ _).trans g1).trans g2⟩
            · obtain ⟨e1, e2⟩ := tim_in a b c d (by rw [inZ_yes (by omega) (by omega), inZ_yes (by omega) (by omega)]; rfl)
              rw [e1, e2]
              clear e1 e2
              go_enter Tryd.func24, Tryd.ntmps24
              go_wp2_with (first | (go_at_call 15; have m1 := k1; refine (unhide HQ _).mono ?_; rintro e w2 ⟨rfl, g2⟩) | (go_at_call 15; refine (unhide HP _).mono ?_; rintro e w1 ⟨rfl, g1⟩; obtain ⟨k1, k2, k3, k4⟩ := two_gr g1))
              go_ret3
              exact ⟨rfl, ((g0 _ _).trans g1).trans g2⟩
end Go.Proofs.YtpkofpgdnbkknaaDoor
