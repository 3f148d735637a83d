/- sort.Search, whatever it is handed. -/
import Derived.Test.YtdlbdfndnjdeeaaProg
import Derived.Test.YtdlbdfndnjdeeaaBase
import Derived.WalkKit
import Derived.WalkSpells
import Derived.WalkLawsBesides
import Derived.Deep.QuietTactic
import Derived.BigQuiet
import Derived.Deep.RegionHeld3
namespace Go.Proofs.Ytdlbdfndnjdeeaa
open Go.RowKit
open Go.Sort (grow)

theorem mixed : Try.prog.follows .mixedOrders = true := by kernel_rfl

set_option maxHeartbeats 800000 in
/-- sort.Search: a place with no true one right ahead, that is true itself or the end. -/
theorem search_any (g : Nat) (cb : Array Value) (n : Nat) (p : Nat → Bool) (w : World) (eg : ∀ args w, (callFunc g args).run Try.prog w = .ok (.enter g args) w) (hn : n ≤ 700)
    (hf : ∀ (W : World) (i : Nat), Gr w W → i < n → Calls Try.prog g (#[.int .i64 i] ++ cb) W fun e w' => e = .returned (.bool (p i)) ∧ Gr W w') :
    Calls Try.prog 43 #[.int .i64 n, .func (.func g) #[] cb] w fun e w' => ∃ m : Nat, e = .returned (.int .i64 m) ∧ m ≤ n ∧ (m = 0 ∨ p (m - 1) = false) ∧ (m = n ∨ p m = true) ∧ Gr w w' := by
  have HF := hide hf
  clear hf
  go_enter Try.func43, Try.ntmps43
  go_wp2
  go_loopw [5, 6] (fun x y wr => ∃ lo hi : Nat, x = .int .i64 lo ∧ y = .int .i64 hi ∧ lo ≤ hi ∧ hi ≤ n ∧ Gr w wr ∧ Hid ((lo = 0 ∨ p (lo - 1) = false) ∧ (hi = n ∨ p hi = true))) (fun x y _ => (intOf y - intOf x).toNat)
  case atStart => exact ⟨0, n, rfl, rfl, Nat.zero_le _, Nat.le_refl _, Gr.refl _, hide ⟨.inl rfl, .inl rfl⟩⟩
  case round =>
    obtain ⟨lo, hi, rfl, rfl, hlh, hin, hg, HI⟩ := hrel
    by_cases hlt : lo < hi
    · have hltz : (lo : Int) < (hi : Int) := by omega
      have hc := unhide HF wr ((lo + hi) / 2) hg (by omega)
      rw [show (((lo + hi) / 2 : Nat) : Int) = ((lo : Int) + (hi : Int)) / 2 by omega] at hc
      cases hp : p ((lo + hi) / 2) <;> rw [hp] at hc
      · have HP := hide hp
        clear hp
        go_wp2_with (refine hc.mono ?_; rintro e w' ⟨rfl, hg2⟩)
        go_roundw
        case rel =>
          exact ⟨(lo + hi) / 2 + 1, hi, by congr 1, rfl, by omega, hin, hg.trans hg2, hide ⟨.inr (by simpa using unhide HP), (unhide HI).2⟩⟩
        case measure => simp [intOf]; omega
      · have HP := hide hp
        clear hp
        go_wp2_with (refine hc.mono ?_; rintro e w' ⟨rfl, hg2⟩)
        go_roundw
        case rel =>
          exact ⟨lo, (lo + hi) / 2, rfl, by congr 1, by omega, by omega, hg.trans hg2, hide ⟨(unhide HI).1, .inr (unhide HP)⟩⟩
        case measure => simp [intOf]; omega
    · have hltz : ¬ (lo : Int) < (hi : Int) := by omega
      obtain rfl : hi = lo := by omega
      go_wp2
      go_ret
      exact ⟨hi, rfl, hin, (unhide HI).1, (unhide HI).2, hg⟩

end Go.Proofs.Ytdlbdfndnjdeeaa
