/- The document's extended of layer 24. (By gen_re.py.) -/
import Derived.Test.YthbldkkjjjmegaaDoorM27
import Derived.Test.YthbldkkjjjmegaaDoorM09
import Derived.Deep.CutRange
namespace Go.Proofs.YthbldkkjjjmegaaDoor
set_option maxRecDepth 100000
open Go.RowKit

theorem froz11 {W : World} {B : Nat} {cs : Array Value} {T : TypeId} (h : W.heap[B]? = some (.cells cs T)) (j : Nat) : W.frozen? ⟨B, j, none⟩ = false := by simp [World.frozen?, h]
theorem dn_no {q : ByteArray} (h : ¬ q = dnT) : (q.toList == [100, 110]) = false := by
  have e : (⟨#[100, 110]⟩ : ByteArray).toList = [100, 110] := by rw [Lib.toList_data]
  rw [← e]
  exact txt_no h
/-- Eleven cells, stored one behind the other. -/
theorem put11h {W : World} {g : Nat} {a0 a1 a2 a3 a4 a5 a6 a7 a8 a9 a10 b0 b1 b2 b3 b4 b5 b6 b7 b8 b9 b10 : Value} {T : TypeId} (h : W.heap[g]? = some (.cells #[a0, a1, a2, a3, a4, a5, a6, a7, a8, a9, a10] T)) : (((((((((((W.setCell ⟨g, 0, none⟩ b0).setCell ⟨g, 1, none⟩ b1).setCell ⟨g, 2, none⟩ b2).setCell ⟨g, 3, none⟩ b3).setCell ⟨g, 4, none⟩ b4).setCell ⟨g, 5, none⟩ b5).setCell ⟨g, 6, none⟩ b6).setCell ⟨g, 7, none⟩ b7).setCell ⟨g, 8, none⟩ b8).setCell ⟨g, 9, none⟩ b9).setCell ⟨g, 10, none⟩ b10).heap[g]? = some (.cells #[b0, b1, b2, b3, b4, b5, b6, b7, b8, b9, b10] T) := by
  simp [World.setCell, Array.getElem?_modify, h]
theorem res_fil2 {fn : Func} {p q : Tmp} (h : fn.results = #[.cell p 27, .tmp q]) (tmps : Array Value) (w : World) (g : Nat) (a0 a1 a2 a3 a4 a5 a6 a7 a8 a9 a10 : Value) (hp : tmps.getD p undef = .pointer (some ⟨g, 0, none⟩)) (hg : w.heap[g]? = some (.cells #[a0, a1, a2, a3, a4, a5, a6, a7, a8, a9, a10] 27)) :
    (results fn tmps).run Tryd.prog w = .ok (.tuple #[.agg #[a0, a1, a2, a3, a4, a5, a6, a7, a8, a9, a10], tmps.getD q undef]) w := by
  have hp' : tmps[p]?.getD undef = .pointer (some ⟨g, 0, none⟩) := by simpa using hp
  have hl := run_loadVar_row (P := Tryd.prog) w g 27 27 #[a0, a1, a2, a3, a4, a5, a6, a7, a8, a9, a10] (0, 0) _ hg Tryd.underlying27 rfl (by kernel_rfl)
  simp [results, h, hp', asAddr, hl]
theorem map_eq1 {ps : List ByteArray} {a : List Int} (h : ps.map nums = [a]) : ∃ p, ps = [p] ∧ nums p = a := by
  cases ps with
  | nil => cases h
  | cons p t =>
    cases t with
    | nil => simp at h; exact ⟨p, rfl, h⟩
    | cons q u => simp at h
def exF (n r : ByteArray) (d : Bool) : Fl := .mk 9 n ⟨#[]⟩ ⟨#[]⟩ [] ⟨#[]⟩ false false r d []
theorem flv_ex (w : World) (n r : ByteArray) (d : Bool) : FlV w (exF n r d) (.agg #[.int .i64 9, .string n, .string ⟨#[]⟩, .string ⟨#[]⟩, .slice none 0 0, .string ⟨#[]⟩, .bool false, .bool false, .string r, .bool d, .slice none 0 0]) := by
  unfold exF
  simp only [FlV]
  exact ⟨none, 0, none, 0, rfl, TxC.nil _ _, by decide, .inl rfl⟩
/-- What extended tells of the pieces between the colons. -/
def exB (l : List (List Int)) : Bool := (extP l).isSome
end Go.Proofs.YthbldkkjjjmegaaDoor
