/- The document's hex and Value of layer 24. (By gen_rv.py.) -/
import Derived.Test.YthbldkkjjjmegaaDoorM15
import Derived.Test.YthbldkkjjjmegaaDoorM13
import Derived.Test.YthbldkkjjjmegaaDoorM06
import Derived.Test.YthbldkkjjjmegaaDoorM09
namespace Go.Proofs.YthbldkkjjjmegaaDoor
set_option maxRecDepth 100000
open Go.RowKit

theorem vTxt_step (l : List Int) (k : Nat) (h : k < l.length) : vTxt (l.drop k) = vByte (l.getD k 0) ++ vTxt (l.drop (k + 1)) := by
  rw [List.drop_eq_getElem_cons h, vTxt]
  simp [List.getD, h]
end Go.Proofs.YthbldkkjjjmegaaDoor
/- The document's starry, text and Show of layer 24. (By gen_rt.py.) -/
namespace Go.Proofs.YthbldkkjjjmegaaDoor
set_option maxRecDepth 100000
open Go.RowKit

theorem app_as (a b c : ByteArray) : a ++ b ++ c = a ++ (b ++ c) := ByteArray.append_assoc
theorem sn_app (a b : List Int) : strOfNums (a ++ b) = strOfNums a ++ strOfNums b := (strOfNums_app a b).symm
theorem sn_cons (c : Int) (b : List Int) : strOfNums (c :: b) = strOfNums [c] ++ strOfNums b := sn_app [c] b
theorem sn_size (l : List Int) : (strOfNums l).size = l.length := by unfold strOfNums; show (List.toArray _).size = _; simp
theorem vTxt_size (l : List Int) : l.length ≤ (vTxt l).length := by
  induction l with
  | nil => simp [vTxt]
  | cons c t ih =>
    rw [vTxt, List.length_append, List.length_cons]
    have : 1 ≤ (vByte c).length := by unfold vByte; split <;> simp
    omega
theorem sn_emp (b : ByteArray) : strOfNums [] ++ b = b := by rw [← strOfNums_nums b, strOfNums_app]; rfl
theorem ret_st {a b : ByteArray} (h : a = b) : Ending.returned (.string a) = .returned (.string b) := by rw [h]
theorem keep5 {W : World} {B : Nat} {a0 a1 a2 a3 a4 : Value} {T : TypeId} (h : W.heap[B]? = some (.cells #[a0, a1, a2, a3, a4] T)) : W.cell? ⟨B, 0, none⟩ = some a0 ∧ W.cell? ⟨B, 1, none⟩ = some a1 ∧ W.cell? ⟨B, 2, none⟩ = some a2 ∧ W.cell? ⟨B, 3, none⟩ = some a3 ∧ W.cell? ⟨B, 4, none⟩ = some a4 := by
  refine ⟨?_, ?_, ?_, ?_, ?_⟩ <;> simp [World.cell?, h]
theorem any_len : ∀ a : List ByteArray, a.length ≤ (anyT a).length
  | [] => Nat.le_refl _
  | x :: t => by have := any_len t; rw [anyT, List.length_append, List.length_cons, List.length_cons]; omega
theorem any_drop (a : List ByteArray) (j : Nat) (h : j < a.length) : anyT (a.drop j) = vTxt (nums (a.getD j ⟨#[]⟩)) ++ 42 :: anyT (a.drop (j + 1)) := by
  rw [List.drop_eq_getElem_cons h, anyT]
  simp [List.getD, h]
theorem textL_drop (l : List Fl) (j : Nat) (h : j < l.length) : textF.L (l.drop j) = textF (l.getD j fl0) ++ textF.L (l.drop (j + 1)) := by rw [drop_consF l j h]; simp only [textF.L]
end Go.Proofs.YthbldkkjjjmegaaDoor
