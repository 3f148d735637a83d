/- Contracts of the small functions: Syllable, Part, first, Join, and the document's. -/
import Derived.Test.YtcgkdiflhlmlgaaDoorBase
import Derived.Test.YtcgkdiflhlmlgaaDoorPlain
namespace Go.Proofs.YtcgkdiflhlmlgaaDoor
open Go.RowKit

set_option maxHeartbeats 400000 in
theorem syl_any (r : Int) (w : World) :
    Calls Tryd.prog 8 #[.int .i32 r] w fun e w' => e = .returned (.bool (isSyl r)) ∧ w' = w := by
  unfold isSyl
  by_cases h1 : 44032 ≤ r
  · by_cases h2 : r ≤ 55203
    · go_enter Tryd.func8, Tryd.ntmps8
      go_wp2
      go_ret
      exact ⟨ret_bool (by simp; omega), rfl⟩
    · go_enter Tryd.func8, Tryd.ntmps8
      go_wp2
      go_ret
      exact ⟨ret_bool (by simp; omega), rfl⟩
  · go_enter Tryd.func8, Tryd.ntmps8
    go_wp2
    go_ret
    exact ⟨ret_bool (by simp; omega), rfl⟩

set_option maxHeartbeats 400000 in
theorem rsyl_any (r : Int) (w : World) :
    Calls Tryd.prog 9 #[.int .i32 r] w fun e w' => e = .returned (.bool (isSyl r)) ∧ w' = w := by
  unfold isSyl
  by_cases h1 : 44032 ≤ r
  · by_cases h2 : r ≤ 55203
    · go_enter Tryd.func9, Tryd.ntmps9
      go_wp2
      go_ret
      exact ⟨ret_bool (by simp; omega), rfl⟩
    · go_enter Tryd.func9, Tryd.ntmps9
      go_wp2
      go_ret
      exact ⟨ret_bool (by simp; omega), rfl⟩
  · go_enter Tryd.func9, Tryd.ntmps9
    go_wp2
    go_ret
    exact ⟨ret_bool (by simp; omega), rfl⟩

set_option maxHeartbeats 400000 in
theorem first_1 (w : World) (h : Lay w) : Calls Tryd.prog 21 #[.int .i64 1] w fun e w' => e = .returned (.int .i32 4352) ∧ w' = w := by
  obtain ⟨c0, c1, c2, c3, c4, c5⟩ := h
  go_enter Tryd.func21, Tryd.ntmps21
  go_wp2
  go_ret
  exact ⟨rfl, rfl⟩
set_option maxHeartbeats 400000 in
theorem first_2 (w : World) (h : Lay w) : Calls Tryd.prog 21 #[.int .i64 2] w fun e w' => e = .returned (.int .i32 4449) ∧ w' = w := by
  obtain ⟨c0, c1, c2, c3, c4, c5⟩ := h
  go_enter Tryd.func21, Tryd.ntmps21
  go_wp2
  go_ret
  exact ⟨rfl, rfl⟩
set_option maxHeartbeats 400000 in
theorem first_3 (w : World) (h : Lay w) : Calls Tryd.prog 21 #[.int .i64 3] w fun e w' => e = .returned (.int .i32 4520) ∧ w' = w := by
  obtain ⟨c0, c1, c2, c3, c4, c5⟩ := h
  go_enter Tryd.func21, Tryd.ntmps21
  go_wp2
  go_ret
  exact ⟨rfl, rfl⟩
end Go.Proofs.YtcgkdiflhlmlgaaDoor
