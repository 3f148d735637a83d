/- Contracts of the small functions on spans: mayBe, may, holds, begin, end, joins, mayFollow. -/
import Derived.Test.YtnlkefdicpeemaaRows
import Derived.Test.YtnlkefdicpeemaaBase
import Derived.WalkKit
import Derived.WalkSpells
import Derived.WalkLawsBesides
import Derived.Deep.QuietTactic
import Derived.BigQuiet
import Derived.Deep.RegionHeld3
namespace Go.Proofs.Ytnlkefdicpeemaa
open Go.RowKit

set_option maxHeartbeats 400000 in
theorem mayBe_any (f t h : Int) (w : World) :
    Calls Try.prog 18 #[.agg #[.int .i32 f, .int .i32 t, .int .i64 h]] w fun e w' => e = .returned (.bool (mayS ⟨f, t, h⟩)) ∧ Gr w w' := by
  generalize hm : mayS ⟨f, t, h⟩ = m
  by_cases h1 : 0 ≤ f
  · by_cases h2 : f ≤ t
    · by_cases h3 : t ≤ 1114111
      · go_enter Try.func18, Try.ntmps18
        go_wp2
        go_ret
        exact ⟨ret_bool (by rw [← hm]; simp [mayS]; omega), (Gr.refl _).alloc _⟩
      · go_enter Try.func18, Try.ntmps18
        go_wp2
        go_ret
        exact ⟨ret_bool (by rw [← hm]; simp [mayS]; omega), (Gr.refl _).alloc _⟩
    · go_enter Try.func18, Try.ntmps18
      go_wp2
      go_ret
      exact ⟨ret_bool (by rw [← hm]; simp [mayS]; omega), (Gr.refl _).alloc _⟩
  · go_enter Try.func18, Try.ntmps18
    go_wp2
    go_ret
    exact ⟨ret_bool (by rw [← hm]; simp [mayS]; omega), (Gr.refl _).alloc _⟩

set_option maxHeartbeats 400000 in
theorem may_any (f t h : Int) (w : World) :
    Calls Try.prog 20 #[.agg #[.int .i32 f, .int .i32 t, .int .i64 h]] w fun e w' => e = .returned (.bool (mayS ⟨f, t, h⟩)) ∧ Gr w w' := by
  generalize hm : mayS ⟨f, t, h⟩ = m
  by_cases h1 : 0 ≤ f
  · by_cases h2 : f ≤ t
    · by_cases h3 : t ≤ 1114111
      · go_enter Try.func20, Try.ntmps20
        go_wp2
        go_ret
        exact ⟨ret_bool (by rw [← hm]; simp [mayS]; omega), (Gr.refl _).alloc _⟩
      · go_enter Try.func20, Try.ntmps20
        go_wp2
        go_ret
        exact ⟨ret_bool (by rw [← hm]; simp [mayS]; omega), (Gr.refl _).alloc _⟩
    · go_enter Try.func20, Try.ntmps20
      go_wp2
      go_ret
      exact ⟨ret_bool (by rw [← hm]; simp [mayS]; omega), (Gr.refl _).alloc _⟩
  · go_enter Try.func20, Try.ntmps20
    go_wp2
    go_ret
    exact ⟨ret_bool (by rw [← hm]; simp [mayS]; omega), (Gr.refl _).alloc _⟩

set_option maxHeartbeats 400000 in
theorem holds_any (f t h r : Int) (w : World) :
    Calls Try.prog 23 #[.agg #[.int .i32 f, .int .i32 t, .int .i64 h], .int .i32 r] w fun e w' => e = .returned (.bool (inS ⟨f, t, h⟩ r)) ∧ Gr w w' := by
  generalize hm : inS ⟨f, t, h⟩ r = m
  by_cases h1 : f ≤ r
  · by_cases h2 : r ≤ t
    · go_enter Try.func23, Try.ntmps23
      go_wp2
      go_ret
      exact ⟨ret_bool (by rw [← hm]; simp [inS]; omega), (Gr.refl _).alloc _⟩
    · go_enter Try.func23, Try.ntmps23
      go_wp2
      go_ret
      exact ⟨ret_bool (by rw [← hm]; simp [inS]; omega), (Gr.refl _).alloc _⟩
  · go_enter Try.func23, Try.ntmps23
    go_wp2
    go_ret
    exact ⟨ret_bool (by rw [← hm]; simp [inS]; omega), (Gr.refl _).alloc _⟩

set_option maxHeartbeats 400000 in
theorem begin_any (f t h : Int) (w : World) :
    Calls Try.prog 30 #[.agg #[.int .i32 f, .int .i32 t, .int .i64 h]] w fun e w' => e = .returned (.int .i32 f) ∧ w' = w.alloc (.cells #[.int .i32 f, .int .i32 t, .int .i64 h] 54) := by
  go_enter Try.func30, Try.ntmps30
  go_wp2
  go_ret
  exact ⟨rfl, rfl⟩

set_option maxHeartbeats 400000 in
theorem end_any (f t h : Int) (w : World) (ht : -2147483648 ≤ t + 1) (ht2 : t + 1 ≤ 2147483647) :
    Calls Try.prog 31 #[.agg #[.int .i32 f, .int .i32 t, .int .i64 h]] w fun e w' => e = .returned (.int .i32 (t + 1)) ∧ w' = w.alloc (.cells #[.int .i32 f, .int .i32 t, .int .i64 h] 54) := by
  go_enter Try.func31, Try.ntmps31
  go_wp2
  go_ret
  exact ⟨rfl, rfl⟩

theorem end_gr (f t h : Int) (w : World) (ht : -2147483648 ≤ t + 1) (ht2 : t + 1 ≤ 2147483647) :
    Calls Try.prog 31 #[.agg #[.int .i32 f, .int .i32 t, .int .i64 h]] w fun e w' => e = .returned (.int .i32 (t + 1)) ∧ Gr w w' :=
  (end_any f t h w ht ht2).mono fun e w' ⟨he, hw⟩ => ⟨he, by rw [hw]; exact Gr.one _ _⟩

theorem mixed : Try.prog.follows .mixedOrders = true := by kernel_rfl

set_option maxHeartbeats 800000 in
theorem joins_any (f1 t1 h1 f2 t2 h2 : Int) (w : World) (ht : -2147483648 ≤ t1 + 1) (ht2 : t1 + 1 ≤ 2147483647) :
    Calls Try.prog 29 #[.agg #[.int .i32 f1, .int .i32 t1, .int .i64 h1], .agg #[.int .i32 f2, .int .i32 t2, .int .i64 h2]] w fun e w' => e = .returned (.bool (joinS ⟨f1, t1, h1⟩ ⟨f2, t2, h2⟩)) ∧ Gr w w' := by
  have two : ∀ m2 : Bool, (f2 == t1 + 1) = m2 → Calls Try.prog 29 #[.agg #[.int .i32 f1, .int .i32 t1, .int .i64 h1], .agg #[.int .i32 f2, .int .i32 t2, .int .i64 h2]] w fun e w' => e = .returned (.bool (m2 && (h2 == h1))) ∧ Gr w w' := by
    intro m2 hb1
    have mx := mixed
    have wg := ((Gr.refl w).alloc (.cells #[.int .i32 f1, .int .i32 t1, .int .i64 h1] 37)).alloc (.cells #[.int .i32 f2, .int .i32 t2, .int .i64 h2] 37)
    obtain ⟨a1, a2, a3⟩ := box3 w (.int .i32 f1) (.int .i32 t1) (.int .i64 h1) 37
    obtain ⟨b1, b2, b3⟩ := box3 (w.alloc (.cells #[.int .i32 f1, .int .i32 t1, .int .i64 h1] 37)) (.int .i32 f2) (.int .i32 t2) (.int .i64 h2) 37
    rw [World.size_alloc] at b1 b2 b3
    replace a1 := cell_gr ((Gr.one _ (.cells #[.int .i32 f2, .int .i32 t2, .int .i64 h2] 37)).cell a1)
    replace a2 := cell_gr ((Gr.one _ (.cells #[.int .i32 f2, .int .i32 t2, .int .i64 h2] 37)).cell a2)
    replace a3 := cell_gr ((Gr.one _ (.cells #[.int .i32 f2, .int .i32 t2, .int .i64 h2] 37)).cell a3)
    replace b1 := cell_gr b1
    replace b2 := cell_gr b2
    replace b3 := cell_gr b3
    go_enter Try.func29, Try.ntmps29
    go_wp2
    generalize (w.alloc (.cells #[.int .i32 f1, .int .i32 t1, .int .i64 h1] 37)).alloc (.cells #[.int .i32 f2, .int .i32 t2, .int .i64 h2] 37) = wq at *
    cases m2
    · go_quiet_grown ((go_at_call 31; exact callsGr (end_gr f1 t1 h1 _ ht ht2)))
      go_wp2
      go_ret
      exact ⟨rfl, wg.grow _ _⟩
    · go_quiet_grown ((go_at_call 31; exact callsGr (end_gr f1 t1 h1 _ ht ht2)))
      go_wp2
      go_ret
      exact ⟨rfl, wg.grow _ _⟩
  refine (two _ rfl).mono fun e w' ⟨he, hb⟩ => ⟨?_, hb⟩
  rw [he]
  refine ret_bool ?_
  simp only [joinS]
  by_cases g1 : f2 = t1 + 1 <;> by_cases g2 : h2 = h1 <;> simp [g1, g2]

set_option maxHeartbeats 800000 in
theorem fol_any (f1 t1 h1 f2 t2 h2 : Int) (w : World) (ht : -2147483648 ≤ t1 + 1) (ht2 : t1 + 1 ≤ 2147483647) :
    Calls Try.prog 19 #[.agg #[.int .i32 f1, .int .i32 t1, .int .i64 h1], .agg #[.int .i32 f2, .int .i32 t2, .int .i64 h2]] w fun e w' => e = .returned (.bool (folS ⟨f1, t1, h1⟩ ⟨f2, t2, h2⟩)) ∧ Gr w w' := by
  have two : ∀ m2 : Bool, decide (t1 < f2) = m2 → Calls Try.prog 19 #[.agg #[.int .i32 f1, .int .i32 t1, .int .i64 h1], .agg #[.int .i32 f2, .int .i32 t2, .int .i64 h2]] w fun e w' => e = .returned (.bool (m2 && !joinS ⟨f1, t1, h1⟩ ⟨f2, t2, h2⟩)) ∧ Gr w w' := by
    intro m2 hb1
    have hj := fun w => joins_any f1 t1 h1 f2 t2 h2 w ht ht2
    generalize joinS ⟨f1, t1, h1⟩ ⟨f2, t2, h2⟩ = jj at hj ⊢
    have HJ := hide hj
    clear hj
    cases m2
    · have h0 : ¬ t1 < f2 := of_decide_eq_false hb1
      clear hb1
      go_enter Try.func19, Try.ntmps19
      go_wp2
      go_ret
      exact ⟨rfl, ((Gr.refl _).alloc _).alloc _⟩
    · have h0 : t1 < f2 := of_decide_eq_true hb1
      clear hb1
      go_enter Try.func19, Try.ntmps19
      go_wp2_with (go_at_call 29; refine (unhide HJ _).mono ?_; rintro e w' ⟨rfl, hg⟩)
      go_ret
      exact ⟨rfl, (((Gr.refl _).alloc _).alloc _).trans hg⟩
  exact two _ rfl

end Go.Proofs.Ytnlkefdicpeemaa
