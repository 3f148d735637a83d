/- Contracts of the small functions: Point, Length, headMark, head, and the document's Point. -/
import Derived.Test.YtegpdppfdgcljaaProg
import Derived.Test.YtegpdppfdgcljaaUPlain
import Derived.WalkKit
import Derived.WalkSpells
import Derived.WalkLawsBesides
namespace Go.Proofs.Ytegpdppfdgcljaa
open Go.RowKit

set_option maxHeartbeats 400000 in
theorem point_yes (r : Int) (w : World) (h : isPt r = true) :
    Calls Try.prog 44 #[.int .i32 r] w fun e w' => e = .returned (.bool true) ∧ w' = w := by
  rw [isPt_iff] at h
  rcases h with ⟨h1, h2⟩ | ⟨h1, h2⟩
  · go_enter Try.func44, Try.ntmps44
    go_wp2
    go_ret
    exact ⟨rfl, rfl⟩
  · have h3 : 0 ≤ r := by omega
    have h4 : ¬ r < 55296 := by omega
    go_enter Try.func44, Try.ntmps44
    go_wp2
    go_ret
    exact ⟨rfl, rfl⟩

set_option maxHeartbeats 400000 in
theorem point_no (r : Int) (w : World) (h : isPt r = false) :
    Calls Try.prog 44 #[.int .i32 r] w fun e w' => e = .returned (.bool false) ∧ w' = w := by
  rw [isPt_not] at h
  rcases h with h1 | ⟨h1, h2⟩ | h1
  · have h3 : ¬ 57343 < r := by omega
    go_enter Try.func44, Try.ntmps44
    go_wp2
    go_ret
    exact ⟨rfl, rfl⟩
  · have h3 : 0 ≤ r := by omega
    go_enter Try.func44, Try.ntmps44
    go_wp2
    go_ret
    exact ⟨ret_bool (by simp; omega), rfl⟩
  · have h3 : 0 ≤ r := by omega
    have h4 : 57343 < r := by omega
    have h5 : ¬ r < 55296 := by omega
    go_enter Try.func44, Try.ntmps44
    go_wp2
    go_ret
    exact ⟨ret_bool (by simp; omega), rfl⟩

theorem point_any (r : Int) (w : World) :
    Calls Try.prog 44 #[.int .i32 r] w fun e w' => e = .returned (.bool (isPt r)) ∧ w' = w := by
  cases h : isPt r
  · exact point_no r w h
  · exact point_yes r w h

set_option maxHeartbeats 400000 in
theorem rpoint_yes (r : Int) (w : World) (h : isPt r = true) :
    Calls Try.prog 32 #[.int .i32 r] w fun e w' => e = .returned (.bool true) ∧ w' = w := by
  rw [isPt_iff] at h
  rcases h with ⟨h1, h2⟩ | ⟨h1, h2⟩
  · have h3 : r ≤ 1114111 := by omega
    go_enter Try.func32, Try.ntmps32
    go_wp2
    all_goals (go_ret; exact ⟨ret_bool (by simp; try omega), rfl⟩)
  · have h3 : 0 ≤ r := by omega
    have h4 : 55296 ≤ r := by omega
    go_enter Try.func32, Try.ntmps32
    go_wp2
    all_goals (go_ret; exact ⟨ret_bool (by simp; try omega), rfl⟩)

set_option maxHeartbeats 400000 in
theorem rpoint_no (r : Int) (w : World) (_b1 : -2147483648 ≤ r) (_b2 : r ≤ 2147483647) (h : isPt r = false) :
    Calls Try.prog 32 #[.int .i32 r] w fun e w' => e = .returned (.bool false) ∧ w' = w := by
  rw [isPt_not] at h
  rcases h with h1 | ⟨h1, h2⟩ | h1
  · have h3 : ¬ 0 ≤ r := by omega
    go_enter Try.func32, Try.ntmps32
    go_wp2
    all_goals (go_ret; exact ⟨ret_bool (by simp; try omega), rfl⟩)
  · have h3 : 0 ≤ r := by omega
    have h4 : r ≤ 1114111 := by omega
    go_enter Try.func32, Try.ntmps32
    go_wp2
    all_goals (go_ret; exact ⟨ret_bool (by simp; try omega), rfl⟩)
  · have h3 : 0 ≤ r := by omega
    have h5 : ¬ r ≤ 1114111 := by omega
    go_enter Try.func32, Try.ntmps32
    go_wp2
    all_goals (go_ret; exact ⟨ret_bool (by simp; try omega), rfl⟩)

theorem rpoint_any (r : Int) (w : World) (b1 : -2147483648 ≤ r) (b2 : r ≤ 2147483647) :
    Calls Try.prog 32 #[.int .i32 r] w fun e w' => e = .returned (.bool (isPt r)) ∧ w' = w := by
  cases h : isPt r
  · exact rpoint_no r w b1 b2 h
  · exact rpoint_yes r w h

set_option maxHeartbeats 400000 in
theorem length_any (r : Int) (w : World) :
    Calls Try.prog 30 #[.int .i32 r] w fun e w' => e = .returned (.int .i64 (lenOf r)) ∧ w' = w := by
  cases h : isPt r
  · have hl : lenOf r = 0 := by unfold lenOf; simp [h]
    rw [hl]
    clear hl
    go_enter Try.func30, Try.ntmps30
    go_wp2_with (go_at_call 44; refine (point_no _ _ h).mono ?_; rintro e w' ⟨rfl, rfl⟩)
    go_ret
    exact ⟨rfl, rfl⟩
  · have hl : lenOf r = (if r < 128 then 1 else if r < 2048 then 2 else if r < 65536 then 3 else 4) := by unfold lenOf; simp [h]
    rw [hl]
    clear hl
    go_enter Try.func30, Try.ntmps30
    go_wp2_with (go_at_call 44; refine (point_yes _ _ h).mono ?_; rintro e w' ⟨rfl, rfl⟩)
    all_goals (go_ret; exact ⟨ret_int (by simp; try omega), rfl⟩)

/-- What the first of n bytes holds beside bits of its code point. -/
def markOf (n : Int) : Int := if n = 2 then 192 else if n = 3 then 224 else if n = 4 then 240 else 0

end Go.Proofs.Ytegpdppfdgcljaa
