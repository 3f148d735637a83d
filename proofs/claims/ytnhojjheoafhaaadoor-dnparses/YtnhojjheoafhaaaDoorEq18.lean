/- Pairs, held against each other. -/
import Derived.Test.YtnhojjheoafhaaaDoorNm18
import Derived.Laws.StructEq
namespace Go.Proofs.YtnhojjheoafhaaaDoor
set_option maxRecDepth 100000
open Go.RowKit

theorem pair_under : Tryd.prog.underlying 44 = some (.struct (Tryd.prog.fieldsOf 44)) := by kernel_rfl
theorem pair_held : Tryd.prog.stoodInHeld 44 = false := by kernel_rfl
theorem pair_guard : Tryd.prog.eqGuardType Tryd.prog.depth 44 = false := by kernel_rfl
/-- Are two texts the same, two pairs? -/
def eqT (a b : ByteArray) : Bool := a.toList == b.toList
def eqP (x y : Pr) : Bool := eqT x.nam y.nam && eqT x.val y.val
theorem eqT_iff (a b : ByteArray) : eqT a b = true ↔ a = b := by
  unfold eqT
  rw [beq_iff_eq]
  constructor
  · intro h
    apply ByteArray.ext
    apply Array.toList_inj.1
    rw [← ByteArray.toList_eq, ← ByteArray.toList_eq]
    exact h
  · intro h; rw [h]
theorem eqP_iff (x y : Pr) : eqP x y = true ↔ x = y := by
  obtain ⟨a, b⟩ := x
  obtain ⟨c, d⟩ := y
  unfold eqP
  simp [eqT_iff]
theorem eqIn_pair (a b c d : ByteArray) (w : World) : (Op.equalIn 10000 44 (.agg #[.string a, .string b]) (.agg #[.string c, .string d])).run Tryd.prog w = .ok (eqT a c && eqT b d) w := by
  have u3 := Tryd.underlying9
  have a3 := Tryd.isAgg9
  have z3 := Tryd.sizeOf9
  rw [show (10000 : Nat) = 9999 + 1 from rfl, run_equalIn_agg w 9999 44 _ _ pair_under pair_held]
  simp only [Program.fieldsOf, Tryd.underlying44]
  go_simp
  unfold eqT
  cases h1 : (a.toList == c.toList) <;> cases h2 : (b.toList == d.toList) <;> simp_all
theorem neq_pair (a b c d : ByteArray) (w : World) : (binOp .neq 44 (.agg #[.string a, .string b]) (.agg #[.string c, .string d])).run Tryd.prog w = .ok (.bool (!(eqT a c && eqT b d))) w := by
  rw [run_neq_struct, eqIn_pair]; rfl
theorem eql_pair (a b c d : ByteArray) (w : World) : (binOp .eql 44 (.agg #[.string a, .string b]) (.agg #[.string c, .string d])).run Tryd.prog w = .ok (.bool (eqT a c && eqT b d)) w := by
  rw [run_eql_struct, eqIn_pair]; rfl
end Go.Proofs.YtnhojjheoafhaaaDoor
