/- The document's Same of layer 1, of two lists that are the same. -/
import Derived.Test.YtdlbdfndnjdeeaaRn
namespace Go.Proofs.Ytdlbdfndnjdeeaa
open Go.RowKit

set_option maxHeartbeats 400000 in
theorem same_empty_g (a b : Option Addr) (c d : Nat) (w : World) :
    Calls Try.prog 9 #[.slice a 0 c, .slice b 0 d] w fun e w' => e = .returned (.bool true) ∧ Gr w w' := by
  go_enter Try.func9, Try.ntmps9
  go_wp2
  refine wp_loop_rounds 1 ?_
  rw [rounds_succ]
  go_wp2
  go_ret
  exact ⟨rfl, Gr.refl _⟩

set_option maxHeartbeats 800000 in
theorem same_some_g (b1 o1 c1 b2 o2 c2 : Nat) (l : List Int) (w : World) (hl : l.length ≤ 80000)
    (h1 : ∀ j, j < l.length → w.cell? ⟨b1, o1 + j, none⟩ = some (.int .i32 (l.getD j 0))) (h2 : ∀ j, j < l.length → w.cell? ⟨b2, o2 + j, none⟩ = some (.int .i32 (l.getD j 0))) :
    Calls Try.prog 9 #[.slice (some ⟨b1, o1, none⟩) l.length c1, .slice (some ⟨b2, o2, none⟩) l.length c2] w fun e w' => e = .returned (.bool true) ∧ Gr w w' := by
  have H1 := hide h1
  have H2 := hide h2
  clear h1 h2
  go_enter Try.func9, Try.ntmps9
  go_wp2
  go_loopw [5] (fun i wr => ∃ k : Nat, k ≤ l.length ∧ i = .int .i64 k ∧ Gr w wr) (fun i _ => l.length - (intOf i).toNat)
  case atStart => exact ⟨0, Nat.zero_le _, rfl, Gr.refl _⟩
  case round =>
    obtain ⟨k, hk, rfl, hnx⟩ := hrel
    by_cases hlt : k < l.length
    · have hzl : (k : Int) < (l.length : Int) := by omega
      have hz0 : (0 : Int) ≤ (k : Int) := by omega
      have g1 := unhide H1 k hlt
      have g2 := unhide H2 k hlt
      have k1 : wr.cell? ⟨b1, o1 + k, none⟩ = some (.int .i32 (l.getD k 0)) := hnx.cell g1
      have k2 : wr.cell? ⟨b2, o2 + k, none⟩ = some (.int .i32 (l.getD k 0)) := hnx.cell g2
      clear g1 g2
      generalize l.getD k 0 = x at *
      go_wp2
      go_quiet (fail)
      go_wp2
      go_roundw
      case rel => exact ⟨k + 1, by omega, by go_num, hnx.drewN _⟩
      case measure => simp [intOf]; omega
    · have hzl : ¬ (k : Int) < (l.length : Int) := by omega
      go_wp2
      go_ret
      exact ⟨rfl, hnx⟩

theorem same_any_g (v1 v2 : Value) (l : List Int) (w : World) (hl : l.length ≤ 80000) (h1 : Row w v1 l) (h2 : Row w v2 l) :
    Calls Try.prog 9 #[v1, v2] w fun e w' => e = .returned (.bool true) ∧ Gr w w' := by
  obtain ⟨a, c, rfl, h1⟩ := h1
  obtain ⟨b, d, rfl, h2⟩ := h2
  by_cases h0 : l.length = 0
  · rw [h0]; exact same_empty_g a b c d w
  · obtain ⟨b1, o1, rfl, k1⟩ := h1 (by omega)
    obtain ⟨b2, o2, rfl, k2⟩ := h2 (by omega)
    exact same_some_g b1 o1 c b2 o2 d l w hl k1 k2
theorem same_any (v1 v2 : Value) (l : List Int) (w : World) (hl : l.length ≤ 80000) (h1 : Row w v1 l) (h2 : Row w v2 l) :
    Calls Try.prog 9 #[v1, v2] w fun e w' => e = .returned (.bool true) ∧ Below w.heap.size w w' :=
  (same_any_g v1 v2 l w hl h1 h2).mono fun _ _ ⟨he, hg⟩ => ⟨he, hg.below⟩
end Go.Proofs.Ytdlbdfndnjdeeaa
