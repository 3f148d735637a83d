/- The document's Same of runes, of any two rows. -/
import Derived.Test.YtdlbdfndnjdeeaaSame1
namespace Go.Proofs.Ytdlbdfndnjdeeaa
open Go.RowKit

theorem ilist_ext (l1 l2 : List Int) (hl : l1.length = l2.length) (h : ∀ j, j < l1.length → l1.getD j 0 = l2.getD j 0) : l1 = l2 := by
  apply List.ext_getElem hl
  intro i h1 h2
  have := h i h1
  simpa [List.getD, h1, h2] using this

set_option maxHeartbeats 400000 in
theorem same_len (a b : Option Addr) (n m c d : Nat) (w : World) (hl : n ≠ m) :
    Calls Try.prog 9 #[.slice a n c, .slice b m d] w fun e w' => e = .returned (.bool false) ∧ Below w.heap.size w w' := by
  have hz : ((n : Int) == (m : Int)) = false := by simp; omega
  have hz2 : ¬ (n : Int) = (m : Int) := by omega
  go_enter Try.func9, Try.ntmps9
  go_wp2
  go_ret
  exact ⟨rfl, Below.refl _ _⟩

set_option maxHeartbeats 1600000 in
theorem same_no (b1 o1 c1 b2 o2 c2 : Nat) (l1 l2 : List Int) (w : World) (hne : l1 ≠ l2) (hll : l1.length = l2.length) (hl : l1.length ≤ 80000)
    (h1 : ∀ j, j < l1.length → w.cell? ⟨b1, o1 + j, none⟩ = some (.int .i32 (l1.getD j 0))) (h2 : ∀ j, j < l2.length → w.cell? ⟨b2, o2 + j, none⟩ = some (.int .i32 (l2.getD j 0))) :
    Calls Try.prog 9 #[.slice (some ⟨b1, o1, none⟩) l1.length c1, .slice (some ⟨b2, o2, none⟩) l1.length c2] w fun e w' => e = .returned (.bool false) ∧ Below w.heap.size w w' := by
  have H1 := hide h1
  have H2 := hide h2
  have HNE := hide hne
  have HLL := hide hll
  clear h1 h2 hne hll
  go_enter Try.func9, Try.ntmps9
  go_wp2
  go_loopw [5] (fun i wr => ∃ k : Nat, k ≤ l1.length ∧ i = .int .i64 k ∧ Below w.heap.size w wr ∧ Hid (∀ j, j < k → l1.getD j 0 = l2.getD j 0)) (fun i _ => l1.length - (intOf i).toNat)
  case atStart => exact ⟨0, Nat.zero_le _, rfl, Below.refl _ _, hide (fun j hj => by omega)⟩
  case round =>
    obtain ⟨k, hk, rfl, hnx, HE⟩ := hrel
    by_cases hlt : k < l1.length
    · have hzl : (k : Int) < (l1.length : Int) := by omega
      have hz0 : (0 : Int) ≤ (k : Int) := by omega
      have g1 := unhide H1 k hlt
      have g2 := unhide H2 k (by rw [← unhide HLL]; exact hlt)
      have k1 : wr.cell? ⟨b1, o1 + k, none⟩ = some (.int .i32 (l1.getD k 0)) := (hnx.cell (by exact cell_lt g1)).trans g1
      have k2 : wr.cell? ⟨b2, o2 + k, none⟩ = some (.int .i32 (l2.getD k 0)) := (hnx.cell (by exact cell_lt g2)).trans g2
      have heq : l1.getD k 0 = l2.getD k 0 → Hid (∀ j, j < k + 1 → l1.getD j 0 = l2.getD j 0) := fun he => by
        show ∀ j, j < k + 1 → l1.getD j 0 = l2.getD j 0
        intro j hj
        rcases Nat.lt_succ_iff_lt_or_eq.1 hj with h | rfl
        · exact unhide HE j h
        · exact he
      clear g1 g2
      generalize l1.getD k 0 = x at *
      generalize l2.getD k 0 = y at *
      by_cases hxy : x = y
      · have HE2 := heq hxy
        clear heq HE
        subst hxy
        go_wp2
        go_quiet (fail)
        go_wp2
        go_roundw
        case rel => exact ⟨k + 1, by omega, by go_num, below_drewN hnx _, HE2⟩
        case measure => simp [intOf]; omega
      · have hb : (x == y) = false := by simpa using hxy
        clear heq
        go_wp2
        go_quiet (fail)
        go_wp2
        go_ret
        exact ⟨rfl, below_drewN hnx _⟩
    · exact absurd (ilist_ext l1 l2 (unhide HLL) (fun j hj => unhide HE j (by omega))) (unhide HNE)

/-- The document's Same, of any two rows. -/
theorem same_dec (v1 v2 : Value) (l1 l2 : List Int) (w : World) (hl : l1.length ≤ 80000) (h1 : Row w v1 l1) (h2 : Row w v2 l2) :
    Calls Try.prog 9 #[v1, v2] w fun e w' => e = .returned (.bool (decide (l1 = l2))) ∧ Below w.heap.size w w' := by
  by_cases he : l1 = l2
  · subst he
    rw [decide_eq_true rfl]
    exact same_any v1 v2 l1 w hl h1 h2
  · rw [decide_eq_false he]
    obtain ⟨a, c, rfl, h1⟩ := h1
    obtain ⟨b, d, rfl, h2⟩ := h2
    by_cases hll : l1.length = l2.length
    · have h0 : 0 < l1.length := by
        rcases Nat.eq_zero_or_pos l1.length with h | h
        · exact absurd ((List.length_eq_zero_iff.1 h).trans (List.length_eq_zero_iff.1 (by omega)).symm) he
        · exact h
      obtain ⟨b1, o1, rfl, k1⟩ := h1 h0
      obtain ⟨b2, o2, rfl, k2⟩ := h2 (by omega)
      rw [← hll]
      exact same_no b1 o1 c b2 o2 d l1 l2 w he hll hl k1 k2
    · exact same_len a b _ _ c d w hll
end Go.Proofs.Ytdlbdfndnjdeeaa
