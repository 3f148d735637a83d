/- The law's order: four places of a text, rising. (By gen_ord.py.) -/
import Derived.Test.YtddliikhjilngaaGreatDoorM01
import Derived.WalkKit
import Derived.WalkMore
import Derived.Deep.Draws
import Derived.Handy
namespace Go.Proofs.YtddliikhjilngaaGreatDoor
set_option maxRecDepth 100000
open Go.RowKit

theorem place13 (x : Int) (n : Nat) (hn : n ≤ 5000) : 0 ≤ (wrap64 (wrap64 (x.tmod ((n : Int) + 1) + (n : Int)) + 1)).tmod ((n : Int) + 1) ∧ (wrap64 (wrap64 (x.tmod ((n : Int) + 1) + (n : Int)) + 1)).tmod ((n : Int) + 1) ≤ n := by
  have h1 : x.tmod ((n : Int) + 1) < (n : Int) + 1 := Int.tmod_lt_of_pos x (by omega)
  have h2 : -((n : Int) + 1) < x.tmod ((n : Int) + 1) := by
    have := Int.lt_tmod_of_pos x (show (0 : Int) < (n : Int) + 1 by omega)
    omega
  generalize x.tmod ((n : Int) + 1) = r at *
  have e1 : wrap64 (r + (n : Int)) = r + n := by unfold wrap64; omega
  have e2 : wrap64 (r + (n : Int) + 1) = r + n + 1 := by unfold wrap64; omega
  rw [e1, e2]
  have h3 : 0 ≤ (r + (n : Int) + 1).tmod ((n : Int) + 1) := Int.tmod_nonneg _ (by omega)
  have h4 : (r + (n : Int) + 1).tmod ((n : Int) + 1) < (n : Int) + 1 := Int.tmod_lt_of_pos _ (by omega)
  omega
set_option maxHeartbeats 8000000 in
theorem order_any (n : Nat) (a b c d : Int) (f0 f1 f2 : Bool) (w : World) (hn : n ≤ 5000) :
    Calls Tryz.prog 7 #[.int .i64 n, .agg #[.int .i64 a, .int .i64 b, .int .i64 c, .int .i64 d, .bool f0, .bool f1, .bool f2]] w fun e w' => ∃ k0 k1 k2 k3 : Nat, e = .returned (.agg #[.int .i64 k0, .int .i64 k1, .int .i64 k2, .int .i64 k3]) ∧ (k0 ≤ k1 ∧ k1 ≤ k2 ∧ k2 ≤ k3 ∧ k3 ≤ n) ∧ Below w.heap.size w w' := by
  go_enter Tryz.func7, Tryz.ntmps7
  go_wp2
  go_loopw [6] (fun i wr => ∃ (k : Nat) (x0 x1 x2 x3 : Int) (q : Nat), i = .int .i64 (k : Int) ∧ wr = ((((w.drewN q).alloc (.cells #[.int .i64 a, .int .i64 b, .int .i64 c, .int .i64 d, .bool f0, .bool f1, .bool f2] 23)).alloc (.cells #[.int .i64 0, .int .i64 0, .int .i64 0, .int .i64 0] 25)).alloc (.cells #[.int .i64 x0, .int .i64 x1, .int .i64 x2, .int .i64 x3] 25)) ∧
    (k = 0 ∨ (k = 1 ∧ 0 ≤ x0 ∧ x0 ≤ n) ∨ (k = 2 ∧ 0 ≤ x0 ∧ x0 ≤ n ∧ 0 ≤ x1 ∧ x1 ≤ n ∧ x0 ≤ x1) ∨ (k = 3 ∧ 0 ≤ x0 ∧ x0 ≤ n ∧ 0 ≤ x1 ∧ x1 ≤ n ∧ 0 ≤ x2 ∧ x2 ≤ n ∧ x0 ≤ x1 ∧ x1 ≤ x2) ∨ (k = 4 ∧ 0 ≤ x0 ∧ x0 ≤ n ∧ 0 ≤ x1 ∧ x1 ≤ n ∧ 0 ≤ x2 ∧ x2 ≤ n ∧ 0 ≤ x3 ∧ x3 ≤ n ∧ x0 ≤ x1 ∧ x1 ≤ x2 ∧ x2 ≤ x3))) (fun i _ => 4 - (intOf i).toNat)
  case atStart => exact ⟨0, a, b, c, d, 0, rfl, rfl, .inl rfl⟩
  case round =>
    obtain ⟨k, x0, x1, x2, x3, q, rfl, rfl, hk⟩ := hrel
    rcases hk with rfl | ⟨rfl, hx⟩ | ⟨rfl, hx⟩ | ⟨rfl, hx⟩ | ⟨rfl, hx⟩
    · have hm := place13 x0 n hn
      go_wp2
      generalize (wrap64 (wrap64 (x0.tmod ((n : Int) + 1) + (n : Int)) + 1)).tmod ((n : Int) + 1) = m at *
      go_loopw [7] (fun i wr => ∃ (j : Nat) (y0 y1 y2 y3 : Int) (q : Nat), i = .int .i64 (j : Int) ∧ wr = ((((w.drewN q).alloc (.cells #[.int .i64 a, .int .i64 b, .int .i64 c, .int .i64 d, .bool f0, .bool f1, .bool f2] 23)).alloc (.cells #[.int .i64 0, .int .i64 0, .int .i64 0, .int .i64 0] 25)).alloc (.cells #[.int .i64 y0, .int .i64 y1, .int .i64 y2, .int .i64 y3] 25)) ∧
        ((j = 0 ∧ 0 ≤ y0 ∧ y0 ≤ n))) (fun i _ => (intOf i).toNat)
      case atStart => exact ⟨0, m, x1, x2, x3, q, rfl, rfl, by omega⟩
      case round =>
        obtain ⟨j, y0, y1, y2, y3, q, rfl, rfl, hj⟩ := hrel
        rcases hj with ⟨rfl, hy⟩
        · go_wp2
          go_region
          go_wp2
          go_roundw
          case rel => exact ⟨1, y0, y1, y2, y3, q + 1, rfl, rfl, by omega⟩
          case measure => simp [intOf]
    · have hm := place13 x1 n hn
      go_wp2
      generalize (wrap64 (wrap64 (x1.tmod ((n : Int) + 1) + (n : Int)) + 1)).tmod ((n : Int) + 1) = m at *
      go_loopw [7] (fun i wr => ∃ (j : Nat) (y0 y1 y2 y3 : Int) (q : Nat), i = .int .i64 (j : Int) ∧ wr = ((((w.drewN q).alloc (.cells #[.int .i64 a, .int .i64 b, .int .i64 c, .int .i64 d, .bool f0, .bool f1, .bool f2] 23)).alloc (.cells #[.int .i64 0, .int .i64 0, .int .i64 0, .int .i64 0] 25)).alloc (.cells #[.int .i64 y0, .int .i64 y1, .int .i64 y2, .int .i64 y3] 25)) ∧
        ((j = 0 ∧ 0 ≤ y0 ∧ y0 ≤ n ∧ 0 ≤ y1 ∧ y1 ≤ n ∧ y0 ≤ y1) ∨ (j = 1 ∧ 0 ≤ y0 ∧ y0 ≤ n ∧ 0 ≤ y1 ∧ y1 ≤ n))) (fun i _ => (intOf i).toNat)
      case atStart => exact ⟨1, x0, m, x2, x3, q, rfl, rfl, by omega⟩
      case round =>
        obtain ⟨j, y0, y1, y2, y3, q, rfl, rfl, hj⟩ := hrel
        rcases hj with ⟨rfl, hy⟩ | ⟨rfl, hy⟩
        · go_wp2
          go_region
          go_wp2
          go_roundw
          case rel => exact ⟨2, y0, y1, y2, y3, q + 1, rfl, rfl, by omega⟩
          case measure => simp [intOf]
        · by_cases hg : y1 < y0
          · have hg' : decide (y0 > y1) = true := by simpa using hg
            go_wp2
            go_region
            go_wp2
            go_region
            go_wp2
            go_roundw
            case rel => exact ⟨0, y1, y0, y2, y3, q + 2, rfl, rfl, by omega⟩
            case measure => simp [intOf]
          · have hg' : decide (y0 > y1) = false := by simpa using hg
            go_wp2
            go_region
            go_wp2
            go_roundw
            case rel => exact ⟨2, y0, y1, y2, y3, q + 1, rfl, rfl, by omega⟩
            case measure => simp [intOf]
    · have hm := place13 x2 n hn
      go_wp2
      generalize (wrap64 (wrap64 (x2.tmod ((n : Int) + 1) + (n : Int)) + 1)).tmod ((n : Int) + 1) = m at *
      go_loopw [7] (fun i wr => ∃ (j : Nat) (y0 y1 y2 y3 : Int) (q : Nat), i = .int .i64 (j : Int) ∧ wr = ((((w.drewN q).alloc (.cells #[.int .i64 a, .int .i64 b, .int .i64 c, .int .i64 d, .bool f0, .bool f1, .bool f2] 23)).alloc (.cells #[.int .i64 0, .int .i64 0, .int .i64 0, .int .i64 0] 25)).alloc (.cells #[.int .i64 y0, .int .i64 y1, .int .i64 y2, .int .i64 y3] 25)) ∧
        ((j = 0 ∧ 0 ≤ y0 ∧ y0 ≤ n ∧ 0 ≤ y1 ∧ y1 ≤ n ∧ 0 ≤ y2 ∧ y2 ≤ n ∧ y1 ≤ y2 ∧ y0 ≤ y1) ∨ (j = 1 ∧ 0 ≤ y0 ∧ y0 ≤ n ∧ 0 ≤ y1 ∧ y1 ≤ n ∧ 0 ≤ y2 ∧ y2 ≤ n ∧ y0 ≤ y2 ∧ y1 ≤ y2) ∨ (j = 2 ∧ 0 ≤ y0 ∧ y0 ≤ n ∧ 0 ≤ y1 ∧ y1 ≤ n ∧ 0 ≤ y2 ∧ y2 ≤ n ∧ y0 ≤ y1))) (fun i _ => (intOf i).toNat)
      case atStart => exact ⟨2, x0, x1, m, x3, q, rfl, rfl, by omega⟩
      case round =>
        obtain ⟨j, y0, y1, y2, y3, q, rfl, rfl, hj⟩ := hrel
        rcases hj with ⟨rfl, hy⟩ | ⟨rfl, hy⟩ | ⟨rfl, hy⟩
        · go_wp2
          go_region
          go_wp2
          go_roundw
          case rel => exact ⟨3, y0, y1, y2, y3, q + 1, rfl, rfl, by omega⟩
          case measure => simp [intOf]
        · by_cases hg : y1 < y0
          · have hg' : decide (y0 > y1) = true := by simpa using hg
            go_wp2
            go_region
            go_wp2
            go_region
            go_wp2
            go_roundw
            case rel => exact ⟨0, y1, y0, y2, y3, q + 2, rfl, rfl, by omega⟩
            case measure => simp [intOf]
          · have hg' : decide (y0 > y1) = false := by simpa using hg
            go_wp2
            go_region
            go_wp2
            go_roundw
            case rel => exact ⟨3, y0, y1, y2, y3, q + 1, rfl, rfl, by omega⟩
            case measure => simp [intOf]
        · by_cases hg : y2 < y1
          · have hg' : decide (y1 > y2) = true := by simpa using hg
            go_wp2
            go_region
            go_wp2
            go_region
            go_wp2
            go_roundw
            case rel => exact ⟨1, y0, y2, y1, y3, q + 2, rfl, rfl, by omega⟩
            case measure => simp [intOf]
          · have hg' : decide (y1 > y2) = false := by simpa using hg
            go_wp2
            go_region
            go_wp2
            go_roundw
            case rel => exact ⟨3, y0, y1, y2, y3, q + 1, rfl, rfl, by omega⟩
            case measure => simp [intOf]
    · have hm := place13 x3 n hn
      go_wp2
      generalize (wrap64 (wrap64 (x3.tmod ((n : Int) + 1) + (n : Int)) + 1)).tmod ((n : Int) + 1) = m at *
      go_loopw [7] (fun i wr => ∃ (j : Nat) (y0 y1 y2 y3 : Int) (q : Nat), i = .int .i64 (j : Int) ∧ wr = ((((w.drewN q).alloc (.cells #[.int .i64 a, .int .i64 b, .int .i64 c, .int .i64 d, .bool f0, .bool f1, .bool f2] 23)).alloc (.cells #[.int .i64 0, .int .i64 0, .int .i64 0, .int .i64 0] 25)).alloc (.cells #[.int .i64 y0, .int .i64 y1, .int .i64 y2, .int .i64 y3] 25)) ∧
        ((j = 0 ∧ 0 ≤ y0 ∧ y0 ≤ n ∧ 0 ≤ y1 ∧ y1 ≤ n ∧ 0 ≤ y2 ∧ y2 ≤ n ∧ 0 ≤ y3 ∧ y3 ≤ n ∧ y1 ≤ y2 ∧ y2 ≤ y3 ∧ y0 ≤ y1) ∨ (j = 1 ∧ 0 ≤ y0 ∧ y0 ≤ n ∧ 0 ≤ y1 ∧ y1 ≤ n ∧ 0 ≤ y2 ∧ y2 ≤ n ∧ 0 ≤ y3 ∧ y3 ≤ n ∧ y0 ≤ y2 ∧ y2 ≤ y3 ∧ y1 ≤ y2) ∨ (j = 2 ∧ 0 ≤ y0 ∧ y0 ≤ n ∧ 0 ≤ y1 ∧ y1 ≤ n ∧ 0 ≤ y2 ∧ y2 ≤ n ∧ 0 ≤ y3 ∧ y3 ≤ n ∧ y0 ≤ y1 ∧ y1 ≤ y3 ∧ y2 ≤ y3) ∨ (j = 3 ∧ 0 ≤ y0 ∧ y0 ≤ n ∧ 0 ≤ y1 ∧ y1 ≤ n ∧ 0 ≤ y2 ∧ y2 ≤ n ∧ 0 ≤ y3 ∧ y3 ≤ n ∧ y0 ≤ y1 ∧ y1 ≤ y2))) (fun i _ => (intOf i).toNat)
      case atStart => exact ⟨3, x0, x1, x2, m, q, rfl, rfl, by omega⟩
      case round =>
        obtain ⟨j, y0, y1, y2, y3, q, rfl, rfl, hj⟩ := hrel
        rcases hj with ⟨rfl, hy⟩ | ⟨rfl, hy⟩ | ⟨rfl, hy⟩ | ⟨rfl, hy⟩
        · go_wp2
          go_region
          go_wp2
          go_roundw
          case rel => exact ⟨4, y0, y1, y2, y3, q + 1, rfl, rfl, by omega⟩
          case measure => simp [intOf]
        · by_cases hg : y1 < y0
          · have hg' : decide (y0 > y1) = true := by simpa using hg
            go_wp2
            go_region
            go_wp2
            go_region
            go_wp2
            go_roundw
            case rel => exact ⟨0, y1, y0, y2, y3, q + 2, rfl, rfl, by omega⟩
            case measure => simp [intOf]
          · have hg' : decide (y0 > y1) = false := by simpa using hg
            go_wp2
            go_region
            go_wp2
            go_roundw
            case rel => exact ⟨4, y0, y1, y2, y3, q + 1, rfl, rfl, by omega⟩
            case measure => simp [intOf]
        · by_cases hg : y2 < y1
          · have hg' : decide (y1 > y2) = true := by simpa using hg
            go_wp2
            go_region
            go_wp2
            go_region
            go_wp2
            go_roundw
            case rel => exact ⟨1, y0, y2, y1, y3, q + 2, rfl, rfl, by omega⟩
            case measure => simp [intOf]
          · have hg' : decide (y1 > y2) = false := by simpa using hg
            go_wp2
            go_region
            go_wp2
            go_roundw
            case rel => exact ⟨4, y0, y1, y2, y3, q + 1, rfl, rfl, by omega⟩
            case measure => simp [intOf]
        · by_cases hg : y3 < y2
          · have hg' : decide (y2 > y3) = true := by simpa using hg
            go_wp2
            go_region
            go_wp2
            go_region
            go_wp2
            go_roundw
            case rel => exact ⟨2, y0, y1, y3, y2, q + 2, rfl, rfl, by omega⟩
            case measure => simp [intOf]
          · have hg' : decide (y2 > y3) = false := by simpa using hg
            go_wp2
            go_region
            go_wp2
            go_roundw
            case rel => exact ⟨4, y0, y1, y2, y3, q + 1, rfl, rfl, by omega⟩
            case measure => simp [intOf]
    · obtain ⟨k0, rfl⟩ := Int.eq_ofNat_of_zero_le (show 0 ≤ x0 by omega)
      obtain ⟨k1, rfl⟩ := Int.eq_ofNat_of_zero_le (show 0 ≤ x1 by omega)
      obtain ⟨k2, rfl⟩ := Int.eq_ofNat_of_zero_le (show 0 ≤ x2 by omega)
      obtain ⟨k3, rfl⟩ := Int.eq_ofNat_of_zero_le (show 0 ≤ x3 by omega)
      go_wp2
      go_returns
      refine ⟨k0, k1, k2, k3, rfl, by omega, ?_⟩
      have b0 := below_drewN (Below.refl w.heap.size w) q
      have b1 := b0.alloc b0.size (.cells #[.int .i64 a, .int .i64 b, .int .i64 c, .int .i64 d, .bool f0, .bool f1, .bool f2] 23)
      have b2 := b1.alloc b1.size (.cells #[.int .i64 k0, .int .i64 k1, .int .i64 k2, .int .i64 k3] 25)
      exact b2.alloc b2.size _
end Go.Proofs.YtddliikhjilngaaGreatDoor
