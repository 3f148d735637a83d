/- strings.Split at one byte: the pieces, plainly. -/
import Derived.Test.YthbldkkjjjmegaaDoorM10
import Derived.Test.YthbldkkjjjmegaaDoorM06
namespace Go.Proofs.YthbldkkjjjmegaaDoor
set_option maxRecDepth 100000
open Go.RowKit

theorem ix_by (c : UInt8) (u : List UInt8) : (Lib.index u [c] = -1 ∧ ∀ x ∈ u.map (fun b : UInt8 => (b.toNat : Int)), x ≠ (c.toNat : Int)) ∨ ∃ k : Nat, Lib.index u [c] = (k : Int) ∧ k < u.length ∧ u.map (fun b : UInt8 => (b.toNat : Int)) = (u.take k).map (fun b : UInt8 => (b.toNat : Int)) ++ (c.toNat : Int) :: (u.drop (k + 1)).map (fun b : UInt8 => (b.toNat : Int)) ∧ ∀ x ∈ (u.take k).map (fun b : UInt8 => (b.toNat : Int)), x ≠ (c.toNat : Int) := by
  rw [Lib.index_one]
  induction u with
  | nil => exact .inl ⟨rfl, by simp⟩
  | cons b l ih =>
    by_cases hb : b = c
    · subst hb
      exact .inr ⟨0, by simp [Lib.indexByte], by simp, by simp, by simp⟩
    · have h1 : (b == c) = false := by rw [beq_eq_false_iff_ne]; exact hb
      have h2 : ¬ (b.toNat : Int) = (c.toNat : Int) := fun h => hb (UInt8.toNat_inj.1 (by omega))
      rcases ih with ⟨h3, h4⟩ | ⟨k, h3, h4, h5, h6⟩
      · refine .inl ⟨by simp [Lib.indexByte, h1, h3], ?_⟩
        intro x hx
        rw [List.map_cons] at hx
        rcases List.mem_cons.1 hx with rfl | hx
        · exact h2
        · exact h4 x hx
      · refine .inr ⟨k + 1, ?_, by simp; omega, ?_, ?_⟩
        · have : ¬ ((k : Int) == -1) = true := by rw [beq_iff_eq]; omega
          rw [Lib.indexByte, h1, h3, if_neg (by decide), if_neg this]
          omega
        · rw [List.map_cons, h5]
          simp
        · intro x hx
          rw [List.take_succ_cons, List.map_cons] at hx
          rcases List.mem_cons.1 hx with rfl | hx
          · exact h2
          · exact h6 x hx
theorem split_doc24 (c : UInt8) : ∀ (k : Nat) (l : List UInt8), Lib.count l [c] = k → (Lib.splitK [c] 0 k l).map (List.map fun b : UInt8 => (b.toNat : Int)) = splitL (c.toNat : Int) (l.map fun b : UInt8 => (b.toNat : Int))
  | 0, l, h => by
    rcases ix_by c l with ⟨h1, h2⟩ | ⟨k, h1, -, -, -⟩
    · rw [split_none _ _ h2]
      rfl
    · have := Lib.count_hit (sub := [c]) (by simp) h1
      omega
  | k + 1, l, h => by
    rcases ix_by c l with ⟨h1, h2⟩ | ⟨i, h1, h2, h3, h4⟩
    · rw [Lib.count_miss h1] at h; omega
    · have hc := Lib.count_hit (sub := [c]) (by simp) h1
      have hm : ¬ (Lib.index l [c] == -1) = true := fun e => by have := beq_iff_eq.1 e; omega
      have e : (Lib.index l [c]).toNat = i := by omega
      have ih := split_doc24 c k (l.drop (i + 1)) (by simp only [List.length_cons, List.length_nil, Nat.zero_add] at hc; omega)
      rw [h3, split_at _ _ _ h4, ← ih, Lib.splitK, if_neg hm, e]
      simp
theorem split_land (s : ByteArray) (c : UInt8) (hs : s.size ≤ 4000) : ∃ ps : List ByteArray, ps.map nums = splitL (c.toNat : Int) (nums s) ∧ ∀ w : World, Ly w → Calls Tryd.prog 57 #[.string s, .string ⟨#[c]⟩] w fun e w' => e = .returned (.slice (some ⟨w.heap.size, 0, none⟩) ps.length ps.length) ∧ w' = w.alloc (.cells (ps.map Value.string).toArray 9) := by
  have hlen := Lib.splitB_all ⟨#[c]⟩ (Nat.le_refl 1) 0 _ s rfl
  have hd := Lib.splitB_data ⟨#[c]⟩ 0 (Lib.countB s ⟨#[c]⟩) s
  have hq := split_doc24 c (Lib.countB s ⟨#[c]⟩) s.data.toList rfl
  rw [show (⟨#[c]⟩ : ByteArray).data.toList = [c] from rfl] at hd
  rw [← hd, List.map_map] at hq
  refine ⟨Lib.splitB ⟨#[c]⟩ 0 (Lib.countB s ⟨#[c]⟩) s, hq, fun w hL => ?_⟩
  refine (split_any24 s c w hL hs).mono ?_
  rintro e w' ⟨h1, h2⟩
  exact ⟨by rw [h1, hlen], h2⟩
end Go.Proofs.YthbldkkjjjmegaaDoor
