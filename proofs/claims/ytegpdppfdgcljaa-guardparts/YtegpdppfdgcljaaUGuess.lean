/- Contracts of the document's guess, and of the program's first byte. -/
import Derived.Test.YtegpdppfdgcljaaULeaf
namespace Go.Proofs.Ytegpdppfdgcljaa
open Go.RowKit

/-- A text's bytes, as numbers. -/
def nums (t : ByteArray) : List Int := t.data.toList.map fun b => (b.toNat : Int)
theorem nums_length (t : ByteArray) : (nums t).length = t.size := by simp [nums]
theorem nums_bound (t : ByteArray) : ∀ x ∈ nums t, 0 ≤ x ∧ x < 256 := by
  intro x hx
  simp only [nums, List.mem_map] at hx
  obtain ⟨b, _, rfl⟩ := hx
  have := b.toNat_lt
  omega
theorem nums_at (t : ByteArray) (k : Nat) (h : k < t.size) : (nums t).getD k 0 = (t[k].toNat : Int) := by
  have h' : k < t.data.toList.length := by simpa using h
  simp [nums, List.getD, h]
  rfl
theorem getD_bound (l : List Int) (hb : ∀ x ∈ l, 0 ≤ x ∧ x < 256) (k : Nat) : 0 ≤ l.getD k 0 ∧ l.getD k 0 < 256 := by
  by_cases h : k < l.length
  · simp only [List.getD, List.getElem?_eq_getElem h, Option.getD_some]
    exact hb _ (List.getElem_mem h)
  · simp [List.getD, List.getElem?_eq_none (Nat.le_of_not_lt h)]

/-- What the first byte tells, by how many bytes there are. -/
def gBase (n : Nat) (a : Int) : Int := if n = 2 then a % 32 else if n = 3 then a % 16 else if n = 4 then a % 8 else a
/-- The number that the first k bytes would be. -/
def gF (l : List Int) (base : Int) : Nat → Int
  | 0 => base
  | k + 1 => 64 * gF l base k + l.getD (k + 1) 0 % 64
def guessOf (l : List Int) : Int := gF l (gBase l.length (l.getD 0 0)) (l.length - 1)

theorem gF_bound (l : List Int) (base : Int) (h0 : 0 ≤ base) (h1 : base < 256) (hb : ∀ x ∈ l, 0 ≤ x ∧ x < 256) :
    ∀ k, k ≤ 3 → 0 ≤ gF l base k ∧ gF l base k < 67108864 := by
  intro k hk
  have b1 := getD_bound l hb 1
  have b2 := getD_bound l hb 2
  have b3 := getD_bound l hb 3
  match k, hk with
  | 0, _ => simp only [gF]; omega
  | 1, _ => simp only [gF]; omega
  | 2, _ => simp only [gF]; omega
  | 3, _ => simp only [gF]; omega
theorem gBase_bound (n : Nat) (a : Int) (h0 : 0 ≤ a) (h1 : a < 256) : 0 ≤ gBase n a ∧ gBase n a < 256 := by
  unfold gBase
  split
  · omega
  · split
    · omega
    · split <;> omega

set_option maxRecDepth 100000 in
set_option maxHeartbeats 400000 in
theorem guess_any (t : ByteArray) (w : World) (h1 : 1 ≤ t.size) (h4 : t.size ≤ 4) :
    Calls Try.prog 31 #[.string t] w fun e w' => e = .returned (.int .i32 (guessOf (nums t))) ∧ w' = w := by
  have hb := nums_bound t
  have e0 := nums_at t 0 (by omega)
  have bb := getD_bound (nums t) hb 0
  rw [e0] at bb
  obtain ⟨bb0, bb1⟩ := bb
  have hq := gBase_bound t.size _ bb0 bb1
  have hg := gF_bound (nums t) _ hq.1 hq.2 hb
  have hgu : guessOf (nums t) = gF (nums t) (gBase t.size (t[0].toNat : Int)) (t.size - 1) := by unfold guessOf; rw [nums_length, e0]
  rw [hgu]
  have B2 : t.size = 2 → gBase t.size (t[0].toNat : Int) = (t[0].toNat : Int) % 32 := fun h => by unfold gBase; rw [if_pos h]
  have B3 : t.size = 3 → gBase t.size (t[0].toNat : Int) = (t[0].toNat : Int) % 16 := fun h => by unfold gBase; rw [if_neg (by omega), if_pos h]
  have B4 : t.size = 4 → gBase t.size (t[0].toNat : Int) = (t[0].toNat : Int) % 8 := fun h => by unfold gBase; rw [if_neg (by omega), if_neg (by omega), if_pos h]
  have B1 : t.size = 1 → gBase t.size (t[0].toNat : Int) = (t[0].toNat : Int) := fun h => by unfold gBase; rw [if_neg (by omega), if_neg (by omega), if_neg (by omega)]
  generalize gBase t.size (t[0].toNat : Int) = B at *
  have HB1 := hide B1
  have HB2 := hide B2
  have HB3 := hide B3
  have HB4 := hide B4
  have HG := hide hg
  have HN := hide e0
  clear hgu hq B1 B2 B3 B4 hg e0 hb bb0
  have hcase : (((t.size : Int) == 2) = true) ∨ (((t.size : Int) == 2) = false ∧ ((t.size : Int) == 3) = true) ∨ (((t.size : Int) == 2) = false ∧ ((t.size : Int) == 3) = false ∧ ((t.size : Int) == 4) = true) ∨ (((t.size : Int) == 2) = false ∧ ((t.size : Int) == 3) = false ∧ ((t.size : Int) == 4) = false) := by
    simp; omega
  rcases hcase with z2 | ⟨z2, z3⟩ | ⟨z2, z3, z4⟩ | ⟨z2, z3, z4⟩
  all_goals
    go_enter Try.func31, Try.ntmps31
    go_wp2
    go_loop [3, 4] (fun n i => ∃ k : Nat, k + 1 ≤ t.size ∧ i = .int .i64 (k + 1) ∧ n = .int .i64 (gF (nums t) B k)) (fun _ i => t.size - (intOf i).toNat)
    case atStart =>
      refine ⟨0, by omega, rfl, ?_⟩
      first
        | (have hz : ((t.size : Int) == 2) = true := by assumption
           rw [show gF (nums t) B 0 = B from rfl, unhide HB2 (by simp at hz; omega)])
        | (have hz : ((t.size : Int) == 3) = true := by assumption
           rw [show gF (nums t) B 0 = B from rfl, unhide HB3 (by simp at hz; omega)])
        | (have hz : ((t.size : Int) == 4) = true := by assumption
           rw [show gF (nums t) B 0 = B from rfl, unhide HB4 (by simp at hz; omega)])
        | (have hz2 : ((t.size : Int) == 2) = false := by assumption
           have hz3 : ((t.size : Int) == 3) = false := by assumption
           have hz4 : ((t.size : Int) == 4) = false := by assumption
           rw [show gF (nums t) B 0 = B from rfl, unhide HB1 (by simp at hz2 hz3 hz4; omega)])
    case round =>
      obtain ⟨k, hk, rfl, rfl⟩ := hrel
      have hgk := unhide HG k (by omega)
      obtain ⟨hg0, hg1⟩ := hgk
      by_cases hlt : k + 1 < t.size
      · have hz : (k : Int) + 1 < (t.size : Int) := by omega
        have hbk := (t[k + 1]).toNat_lt
        have hbk' : ((t[k + 1]).toNat : Int) < 256 := by omega
        have hs : gF (nums t) B (k + 1) = 64 * gF (nums t) B k + ((t[k + 1]).toNat : Int) % 64 := by
          show 64 * gF (nums t) B k + (nums t).getD (k + 1) 0 % 64 = _
          rw [nums_at t (k + 1) hlt]
        have HS := hide hs
        clear hs hbk
        go_wp2
        go_round
        case rel => exact ⟨k + 1, by omega, by go_num, by rw [unhide HS]⟩
        case measure => simp [intOf]; omega
      · have hz : ¬ (k : Int) + 1 < (t.size : Int) := by omega
        go_wp2
        go_ret
        exact ⟨ret_int (by rw [show t.size - 1 = k by omega]), rfl⟩
end Go.Proofs.Ytegpdppfdgcljaa
