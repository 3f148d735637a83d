/- The law UtfPoints: its walk. -/
import Derived.Test.YtelimkogockfkaaAwake
namespace Go.Proofs.Ytelimkogockfkaa
open Go.RowKit

theorem below_new {w w1 : World} {o : Obj} (hb : Below (w.alloc o).heap.size (w.alloc o) w1) : Below w.heap.size w w1 :=
  ((Below.refl _ _).alloc (Nat.le_refl _) _).trans (hb.mono (by simp))

theorem row_one (w : World) (r : Int) : Row (w.alloc (.cells #[.int .i32 r] 21)) (.slice (some ⟨w.heap.size, 0, none⟩) 1 1) [r] :=
  ⟨some ⟨w.heap.size, 0, none⟩, 1, rfl, fun i hi => ⟨w.heap.size, 0, rfl, fun j hj => by
    rw [World.cell?_alloc_mark]
    match j, hj with
    | 0, _ => rfl⟩⟩

set_option maxRecDepth 100000 in
set_option maxHeartbeats 800000 in
theorem points_law (r : Int) (w : World) (b1 : -2147483648 ≤ r) (b2 : r ≤ 2147483647) :
    Calls Try.prog 3 #[.int .i32 r] w fun e w' => e = .returned (.bool true) ∧ Below w.heap.size w w' := by
  have hw : ∀ x ∈ [r], -2147483648 ≤ x ∧ x ≤ 2147483647 := by intro x hx; simp at hx; subst hx; exact ⟨b1, b2⟩
  have HW := hide hw
  clear hw
  go_enter Try.func3, Try.ntmps3
  go_wp2_with (first
    | (go_at_call 9; refine (encode_any _ [r] _ (by simp) (row_one _ r)).mono ?_; rintro e w1 ⟨rfl, hb1⟩)
    | (go_at_call 10; refine (rencode_any _ [r] _ (by simp) (row_one _ r) (unhide HW)).mono ?_; rintro e w2 ⟨rfl, hb2⟩)
    | (go_at_call 11; refine (point_any r _).mono ?_; rintro e w3 ⟨rfl, rfl⟩)
    | (go_at_call 12; refine (rpoint_any r _ b1 b2).mono ?_; rintro e w4 ⟨rfl, rfl⟩)
    | (go_at_call 13; refine (length_any r _).mono ?_; rintro e w5 ⟨rfl, rfl⟩)
    | (go_at_call 14; refine (rlength_any r _ b1 b2).mono ?_; rintro e w6 ⟨rfl, hb6⟩)
    | (go_at_call 15; refine (awake_any _).mono ?_; rintro e w7 ⟨rfl, hb7⟩))
  go_ret
  have k1 := below_new hb1
  have k2 := k1.trans ((below_new hb2).mono k1.size)
  have k6 := k2.trans (hb6.mono k2.size)
  exact ⟨rfl, k6.trans (hb7.mono k6.size)⟩
end Go.Proofs.Ytelimkogockfkaa
