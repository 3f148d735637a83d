/- The document's digits and Text of layer 14. -/
import Derived.Test.YtpaenieafkmmeaaGreatDoorM21
import Derived.Test.YtpaenieafkmmeaaGreatDoorM22
import Derived.Deep.RegionWith
namespace Go.Proofs.YtpaenieafkmmeaaGreatDoor.S14
set_option maxRecDepth 100000
open Go.RowKit

theorem conv_gr {w w2 : World} {z : Int} (hg : Gr ((w.alloc (.cells #[.int .u8 z] 5)).drew) w2) : (convert 79 9 (.slice (some ⟨w.heap.size, 0, none⟩) 1 1)).run Tryz.prog w2 = .ok (.string (strOfNums [z])) w2 := conv_one (hg.cell (box1 w _ _))
theorem str_lit (a : ByteArray) (l : List Int) (h : a = strOfNums l) (t : List Int) : strOfNums t ++ a = strOfNums (t ++ l) := by rw [h, strOfNums_app]
end Go.Proofs.YtpaenieafkmmeaaGreatDoor.S14
/- The document's Parts, Show and Norm of layer 14. -/
namespace Go.Proofs.YtpaenieafkmmeaaGreatDoor.S14
set_option maxRecDepth 100000
open Go.RowKit

/-- Two floats, as the document's number. -/
abbrev zz (x y : Nat) : Value := .agg #[.float .f64 x, .float .f64 y]
end Go.Proofs.YtpaenieafkmmeaaGreatDoor.S14
/- The document's Show, Norm, Turn and Times of layer 14. -/
namespace Go.Proofs.YtpaenieafkmmeaaGreatDoor.S14
set_option maxRecDepth 100000
open Go.RowKit

/-- The text of a number. -/
def shZ (p : Option (Int × Int)) : ByteArray := match p with | some q => strOfNums (txt q.1 q.2) | none => strOfNums []
theorem ret_iii {a b a' b' c d : Int} (h : a = b) (h2 : a' = b') (h' : c = d) : Ending.returned (.tuple #[.int .i64 a, .int .i64 a', .int .i64 c]) = .returned (.tuple #[.int .i64 b, .int .i64 b', .int .i64 d]) := by rw [h, h2, h']
theorem tmod_four (n : Int) : (n.tmod 4 < 0 ∧ n.tmod 4 + 4 = n % 4) ∨ (¬ n.tmod 4 < 0 ∧ n.tmod 4 = n % 4) := by
  rcases Int.le_total 0 n with h | h
  · right
    rw [Int.tmod_eq_emod_of_nonneg h]
    omega
  · have e := Int.tmod_eq_emod (a := n) (b := 4)
    rw [e]
    split <;> simp <;> omega
end Go.Proofs.YtpaenieafkmmeaaGreatDoor.S14
/- The document's Times of layer 14. -/
namespace Go.Proofs.YtpaenieafkmmeaaGreatDoor.S14
set_option maxRecDepth 100000
open Go.RowKit

theorem inZ_yes {a : Int} (h1 : -999999 ≤ a) (h2 : a ≤ 999999) : inZ a = true := decide_eq_true ⟨h1, h2⟩
theorem inZ_lo {a : Int} (h : a < -999999) : inZ a = false := decide_eq_false (by omega)
theorem inZ_hi {a : Int} (h : 999999 < a) : inZ a = false := decide_eq_false (by omega)
/-- Two boxes of two cells. -/
theorem two_gr {w w1 : World} {a b c d : Value} {T : TypeId} (g : Gr ((w.alloc (.cells #[a, b] T)).alloc (.cells #[c, d] T)) w1) :
    w1.cell? ⟨w.heap.size + 1, 0, none⟩ = some c ∧ w1.cell? ⟨w.heap.size + 1, 1, none⟩ = some d ∧ w1.cell? ⟨w.heap.size, 0, none⟩ = some a ∧ w1.cell? ⟨w.heap.size, 1, none⟩ = some b := by
  have e : (w.alloc (.cells #[a, b] T)).heap.size = w.heap.size + 1 := by simp
  have p1 : (w.alloc (.cells #[a, b] T)).cell? ⟨w.heap.size, 0, none⟩ = some a := by rw [World.cell?_alloc_mark]; rfl
  have p2 : (w.alloc (.cells #[a, b] T)).cell? ⟨w.heap.size, 1, none⟩ = some b := by rw [World.cell?_alloc_mark]; rfl
  have q1 : ((w.alloc (.cells #[a, b] T)).alloc (.cells #[c, d] T)).cell? ⟨w.heap.size + 1, 0, none⟩ = some c := by rw [← e, World.cell?_alloc_mark]; rfl
  have q2 : ((w.alloc (.cells #[a, b] T)).alloc (.cells #[c, d] T)).cell? ⟨w.heap.size + 1, 1, none⟩ = some d := by rw [← e, World.cell?_alloc_mark]; rfl
  exact ⟨g.cell q1, g.cell q2, g.cell ((Gr.one _ _).cell p1), g.cell ((Gr.one _ _).cell p2)⟩
theorem tim_none_r (p : Option (Int × Int)) : tim p none = (0, 0) ∧ timE p none = 140 := by cases p <;> exact ⟨rfl, rfl⟩
theorem tim_out (a b c d : Int) (h : (inZ (a * c - b * d) && inZ (a * d + b * c)) = false) : tim (some (a, b)) (some (c, d)) = (0, 0) ∧ timE (some (a, b)) (some (c, d)) = 3 := by
  have hn : ¬ ((inZ (prod (a, b) (c, d)).1 && inZ (prod (a, b) (c, d)).2) = true) := fun e => Bool.noConfusion (h.symm.trans e)
  exact ⟨if_neg hn, if_neg hn⟩
theorem tim_in (a b c d : Int) (h : (inZ (a * c - b * d) && inZ (a * d + b * c)) = true) : tim (some (a, b)) (some (c, d)) = (a * c - b * d, a * d + b * c) ∧ timE (some (a, b)) (some (c, d)) = 0 := by
  have hn : (inZ (prod (a, b) (c, d)).1 && inZ (prod (a, b) (c, d)).2) = true := h
  exact ⟨if_pos hn, if_pos hn⟩
end Go.Proofs.YtpaenieafkmmeaaGreatDoor.S14
/- The document's Cmp of layer 14. -/
namespace Go.Proofs.YtpaenieafkmmeaaGreatDoor.S14
set_option maxRecDepth 100000
open Go.RowKit

end Go.Proofs.YtpaenieafkmmeaaGreatDoor.S14
/- The document's take and Parse of layer 14. (By gen_par.py.) -/
namespace Go.Proofs.YtpaenieafkmmeaaGreatDoor.S14
set_option maxRecDepth 100000
open Go.RowKit

theorem goD_step (s : List Int) (x : Int) (k : Nat) (h : k < s.length) : goD (s.drop k) x = if 48 ≤ s.getD k 0 ∧ s.getD k 0 ≤ 57 ∧ x < 1000000 then goD (s.drop (k + 1)) (10 * x + s.getD k 0 - 48) else (x, s.drop k) := by
  rw [List.drop_eq_getElem_cons h]
  simp [goD, List.getD, h]
theorem goD_end (s : List Int) (x : Int) (k : Nat) (h : ¬ k < s.length) : goD (s.drop k) x = (x, s.drop k) := by
  rw [List.drop_eq_nil_of_le (by omega)]
  rfl
theorem drop_head (s : List Int) (k : Nat) : (s.drop k).getD 0 0 = s.getD k 0 := by simp [List.getD]
theorem ret_ii {a b c d : Int} (h : a = b) (h' : c = d) : Ending.returned (.tuple #[.int .i64 a, .int .i64 c]) = .returned (.tuple #[.int .i64 b, .int .i64 d]) := by rw [h, h']
theorem takeL_neg {s : List Int} (h : s.getD 0 0 = 45) {v : Int} {r : List Int} (e : goD (s.drop 1) 0 = (v, r)) : takeL s = (-v, r) := by unfold takeL; rw [if_pos h, e]
theorem takeL_pos {s : List Int} (h : ¬ s.getD 0 0 = 45) {v : Int} {r : List Int} (e : goD s 0 = (v, r)) : takeL s = (v, r) := by unfold takeL; rw [if_neg h, e]
end Go.Proofs.YtpaenieafkmmeaaGreatDoor.S14
/- The document's Parse of layer 14. (By gen_parse.py.) -/
namespace Go.Proofs.YtpaenieafkmmeaaGreatDoor.S14
set_option maxRecDepth 100000
open Go.RowKit

theorem goD_spec : ∀ (s : List Int) (n : Int), 0 ≤ n → n ≤ 9999999 → (∃ k, k ≤ s.length ∧ (goD s n).2 = s.drop k) ∧ 0 ≤ (goD s n).1 ∧ (goD s n).1 ≤ 9999999
  | [], n, h1, h2 => ⟨⟨0, Nat.le_refl _, rfl⟩, h1, h2⟩
  | c :: s, n, h1, h2 => by
    simp only [goD]
    split
    · rename_i h
      obtain ⟨⟨k, hk, e⟩, b⟩ := goD_spec s (10 * n + c - 48) (by omega) (by omega)
      exact ⟨⟨k + 1, by simp; omega, e⟩, b⟩
    · exact ⟨⟨0, Nat.zero_le _, rfl⟩, h1, h2⟩
theorem takeL_spec (s : List Int) : (∃ k, k ≤ s.length ∧ (takeL s).2 = s.drop k) ∧ -9999999 ≤ (takeL s).1 ∧ (takeL s).1 ≤ 9999999 := by
  unfold takeL
  split
  · rename_i h
    have hl : 1 ≤ s.length := by
      cases s with
      | nil => simp at h
      | cons => simp
    obtain ⟨⟨k, hk, e⟩, b⟩ := goD_spec (s.drop 1) 0 (Int.le_refl _) (by omega)
    refine ⟨⟨k + 1, by rw [List.length_drop] at hk; omega, ?_⟩, by simp only; omega, by simp only; omega⟩
    simp only
    rw [e, List.drop_drop, Nat.add_comm]
  · obtain ⟨⟨k, hk, e⟩, b⟩ := goD_spec s 0 (Int.le_refl _) (by omega)
    exact ⟨⟨k, hk, e⟩, by omega, by omega⟩
theorem ok_of (s : List Int) (a b : Int) (h : cutG s = (a, b)) : okG s = (inZ a && inZ b && decide (txt a b = s)) := by unfold okG; rw [h]
theorem par_no {s : List Int} (h : okG s = false) : parG s = (0, 0) ∧ parF s = 140 := by unfold parG parF; rw [h]; exact ⟨rfl, rfl⟩
theorem par_yes {s : List Int} (h : okG s = true) : parG s = cutG s ∧ parF s = 0 := by unfold parG parF; rw [h]; exact ⟨rfl, rfl⟩
end Go.Proofs.YtpaenieafkmmeaaGreatDoor.S14
