/- The law SyntaxExact of layer 19. -/
import Derived.Test.YtpaenieafkmmeaaGreatDoorM47
namespace Go.Proofs.YtpaenieafkmmeaaGreatDoor
set_option maxRecDepth 100000
open Go.RowKit

/-- The six syntaxes that the law goes through. -/
def six : List Int := [4, 7, 8, 3, 9, 10]
theorem six_at (k : Nat) (h : k < 6) : six.getD k 0 = 4 ∨ six.getD k 0 = 7 ∨ six.getD k 0 = 8 ∨ six.getD k 0 = 3 ∨ six.getD k 0 = 9 ∨ six.getD k 0 = 10 := by
  have hk : k = 0 ∨ k = 1 ∨ k = 2 ∨ k = 3 ∨ k = 4 ∨ k = 5 := by omega
  rcases hk with rfl | rfl | rfl | rfl | rfl | rfl <;> decide
theorem six_cell (w : World) (k : Nat) (h : k < 6) : (w.alloc (.cells #[.int .i64 4, .int .i64 7, .int .i64 8, .int .i64 3, .int .i64 9, .int .i64 10] 3)).cell? ⟨w.heap.size, k, none⟩ = some (.int .i64 (six.getD k 0)) := by
  rw [World.cell?_alloc_mark]
  have hk : k = 0 ∨ k = 1 ∨ k = 2 ∨ k = 3 ∨ k = 4 ∨ k = 5 := by omega
  rcases hk with rfl | rfl | rfl | rfl | rfl | rfl <;> rfl
set_option maxHeartbeats 1600000 in
theorem exact19_long (s : ByteArray) (w : World) (hL : LA w) (hs : 400 < s.size) : Calls Tryz.prog 3 #[.string s] w fun e w' => e = .returned (.bool true) ∧ Below w.heap.size w w' := by
  have C1 := hide (fun W => fits_long s W hs)
  have C2 := hide (fun W => chk_big 5 s W (by omega) (by omega) hs)
  have CA := hide (awake19 w hL)
  have z : 400 < (s.size : Int) := by omega
  clear hL hs
  go_enter Tryz.func3, Tryz.ntmps3
  go_wp2_with (first
    | (go_at_call 7; refine (unhide CA).mono ?_; rintro e w3 ⟨rfl, b3⟩)
    | (go_at_call 6; refine (unhide C2 _).mono ?_; rintro e w2 ⟨rfl, rfl⟩)
    | (go_at_call 5; refine (unhide C1 _).mono ?_; rintro e w2 ⟨rfl, rfl⟩))
  go_ret
  exact ⟨rfl, b3⟩
set_option maxHeartbeats 3200000 in
theorem exact19_short (s : ByteArray) (w : World) (hL : LA w) (hs : s.size ≤ 400) : Calls Tryz.prog 3 #[.string s] w fun e w' => e = .returned (.bool true) ∧ Below w.heap.size w w' := by
  have C2 := hide (chk_b 2 s w (by omega) (by omega) hs _ (bel_of (sx2 s w hs)))
  have CX := hide (fun k hk W (h : LA W) => chk_asc (six.getD k 0) (six_at k hk) s W h hs)
  have C5 := hide (fun W => chk_b 5 s W (by omega) (by omega) hs _ (bel_of (sx5 s W)))
  have C1 := hide (fun hA h0 W (h : LA W) => chk_b 1 s W (by omega) (by omega) hs _ (sx1 s W h hs hA h0))
  have CA := hide (fun W (h : LA W) => awake19 W h)
  have HL := hide hL
  have z : ¬ 400 < (s.size : Int) := by omega
  have e0 : er true = 0 := rfl
  have e1 : er false = 180 := rfl
  rw [e0] at C5 C1
  clear hL hs
  cases hA : ascB s <;> rw [hA] at C2 CX C1
  · rw [e1] at C2
    clear e0 e1 hA C1
    go_enter Tryz.func3, Tryz.ntmps3
    go_wp2_with (go_at_call 6; refine (unhide C2).mono ?_; rintro e w1 ⟨rfl, b1⟩; have HC := hide (six_cell w1); have b2 := b1.alloc b1.size (.cells #[.int .i64 4, .int .i64 7, .int .i64 8, .int .i64 3, .int .i64 9, .int .i64 10] 3))
    go_loopw [26] (fun i wr => ∃ k : Nat, k ≤ 6 ∧ i = .int .i64 (k : Int) ∧ Hid (∀ j, j < 6 → wr.cell? ⟨w1.heap.size, j, none⟩ = some (.int .i64 (six.getD j 0))) ∧ Below w.heap.size w wr) (fun i _ => 6 - (intOf i).toNat)
    case atStart => exact ⟨0, by omega, rfl, fun j hj => unhide HC j hj, b2⟩
    case round =>
      obtain ⟨k, hk, rfl, HD, hb⟩ := hrel
      by_cases hlt : k < 6
      · have hzl : (k : Int) < 6 := by omega
        have hz0 : (0 : Int) ≤ (k : Int) := by omega
        have q1 := unhide HD k hlt
        have CY := hide (unhide CX k hlt wr ((unhide HL).keep hb))
        generalize six.getD k 0 = n at *
        clear CX
        go_wp2_with (go_at_call 6; refine (unhide CY).mono ?_; rintro e w3 ⟨x, rfl, hx, b3⟩; have hx0 : (x == 0) = false := (beq_eq_false_iff_ne.2 (fun h => by cases hx h)); clear hx)
        go_roundw
        case rel => exact ⟨k + 1, by omega, by go_num, fun j hj => (b3.cell (cell_lt (unhide HD j hj))).trans (unhide HD j hj), hb.trans (b3.mono hb.size)⟩
        case measure => simp [intOf]; omega
      · have hzl : ¬ (k : Int) < 6 := by omega
        clear CX
        go_wp2_with (first
          | (go_at_call 7; refine (unhide CA _ ((unhide HL).keep t5)).mono ?_; rintro e w6 ⟨rfl, b6⟩; have t6 := t5.trans (b6.mono t5.size))
          | (go_at_call 6; refine (unhide C5 _).mono ?_; rintro e w5 ⟨rfl, b5⟩; have t5 := hb.trans (b5.mono hb.size)))
        go_ret
        exact ⟨rfl, t6⟩
  · rw [e0] at C2
    clear e0 e1 hA
    go_enter Tryz.func3, Tryz.ntmps3
    go_wp2_with (go_at_call 6; refine (unhide C2).mono ?_; rintro e w1 ⟨rfl, b1⟩; have HC := hide (six_cell w1); have b2 := b1.alloc b1.size (.cells #[.int .i64 4, .int .i64 7, .int .i64 8, .int .i64 3, .int .i64 9, .int .i64 10] 3))
    go_loopw [26] (fun i wr => ∃ k : Nat, k ≤ 6 ∧ i = .int .i64 (k : Int) ∧ Hid (∀ j, j < 6 → wr.cell? ⟨w1.heap.size, j, none⟩ = some (.int .i64 (six.getD j 0))) ∧ Below w.heap.size w wr) (fun i _ => 6 - (intOf i).toNat)
    case atStart => exact ⟨0, by omega, rfl, fun j hj => unhide HC j hj, b2⟩
    case round =>
      obtain ⟨k, hk, rfl, HD, hb⟩ := hrel
      by_cases hlt : k < 6
      · have hzl : (k : Int) < 6 := by omega
        have hz0 : (0 : Int) ≤ (k : Int) := by omega
        have q1 := unhide HD k hlt
        have CY := hide (unhide CX k hlt wr ((unhide HL).keep hb))
        generalize six.getD k 0 = n at *
        clear CX C1
        go_wp2_with (go_at_call 6; refine (unhide CY).mono ?_; rintro e w3 ⟨x, rfl, hx, b3⟩; clear hx; cases hx0 : (x == 0))
        all_goals
          go_roundw
          case rel => exact ⟨k + 1, by omega, by go_num, fun j hj => (b3.cell (cell_lt (unhide HD j hj))).trans (unhide HD j hj), hb.trans (b3.mono hb.size)⟩
          case measure => simp [intOf]; omega
      · have hzl : ¬ (k : Int) < 6 := by omega
        clear CX
        by_cases h0 : s.size = 0
        · have hem := emp_yes h0
          clear C1 h0
          go_wp2_with (first
            | (go_at_call 7; refine (unhide CA _ ((unhide HL).keep t5)).mono ?_; rintro e w6 ⟨rfl, b6⟩; have t6 := t5.trans (b6.mono t5.size))
            | (go_at_call 6; refine (unhide C5 _).mono ?_; rintro e w5 ⟨rfl, b5⟩; have t5 := hb.trans (b5.mono hb.size)))
          go_ret
          exact ⟨rfl, t6⟩
        · have hem := emp_no h0
          have CZ := hide (unhide C1 (by first | rfl | trivial) h0 wr ((unhide HL).keep hb))
          clear C1 h0
          go_wp2_with (first
            | (go_at_call 7; refine (unhide CA _ ((unhide HL).keep t5)).mono ?_; rintro e w6 ⟨rfl, b6⟩; have t6 := t5.trans (b6.mono t5.size))
            | (go_at_call 6; have M5 := F4; refine (unhide C5 _).mono ?_; rintro e w5 ⟨rfl, b5⟩; have t5 := t4.trans (b5.mono t4.size))
            | (go_at_call 6; refine (unhide CZ).mono ?_; rintro e w4 ⟨rfl, b4⟩; have t4 := hb.trans (b4.mono hb.size); have F4 := trivial))
          go_ret
          exact ⟨rfl, t6⟩
theorem exact19_law (s : ByteArray) (w : World) (hL : LA w) : Calls Tryz.prog 3 #[.string s] w fun e w' => e = .returned (.bool true) ∧ Below w.heap.size w w' := by
  by_cases h : 400 < s.size
  · exact exact19_long s w hL h
  · exact exact19_short s w hL (by omega)
end Go.Proofs.YtpaenieafkmmeaaGreatDoor
