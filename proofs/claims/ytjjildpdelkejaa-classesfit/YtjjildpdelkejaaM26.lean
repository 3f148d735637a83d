/- The probe of layer 20's laws. -/
import Derived.Test.YtjjildpdelkejaaM21
namespace Go.Proofs.Ytjjildpdelkejaa
open Go.RowKit

/-- The cells of types. -/
def flatT : List Ty → List Value
  | [] => []
  | a :: t => .string a.nam :: .string a.abv :: .int .i64 a.syn :: .int .i64 a.rul :: .bool a.sgl :: .bool a.cls :: flatT t
theorem flat_at : ∀ (l : List Ty) (j : Nat), j < l.length → (flatT l)[j * 6]? = some (.string (l.getD j ty0).nam) ∧ (flatT l)[j * 6 + 1]? = some (.string (l.getD j ty0).abv) ∧ (flatT l)[j * 6 + 2]? = some (.int .i64 (l.getD j ty0).syn) ∧ (flatT l)[j * 6 + 3]? = some (.int .i64 (l.getD j ty0).rul) ∧ (flatT l)[j * 6 + 4]? = some (.bool (l.getD j ty0).sgl) ∧ (flatT l)[j * 6 + 5]? = some (.bool (l.getD j ty0).cls)
  | [], j, h => by simp at h
  | p :: t, 0, _ => by simp [flatT]
  | p :: t, j + 1, h => by
    have := flat_at t j (by simpa using h)
    rw [show (j + 1) * 6 = j * 6 + 6 by omega]
    simpa [flatT] using this
theorem tys_of {W : World} {l : List Ty} {cs : Array Value} {T : TypeId} {v : Value} (hv : v = .slice (some ⟨W.heap.size, 0, none⟩) l.length l.length) (hl : l.length ≤ 9223372036854775807) (hcs : cs.toList = flatT l) : TysV (W.alloc (.cells cs T)) v l := by
  subst hv
  refine ⟨_, _, rfl, ⟨Nat.le_refl _, hl⟩, fun _ => ⟨W.heap.size, 0, rfl, fun j hj => ?_⟩⟩
  have hc : ∀ o, (W.alloc (.cells cs T)).cell? ⟨W.heap.size, o, none⟩ = (flatT l)[o]? := fun o => by
    rw [World.cell?_alloc_mark, ← hcs]
    simp
  obtain ⟨h0, h1, h2, h3, h4, h5⟩ := flat_at l j hj
  rw [Nat.zero_add]
  exact ⟨(hc _).trans h0, (hc _).trans h1, (hc _).trans h2, (hc _).trans h3, (hc _).trans h4, (hc _).trans h5⟩
theorem ts_of {W : World} {l : List ByteArray} {cs : Array Value} {T : TypeId} {v : Value} (hv : v = .slice (some ⟨W.heap.size, 0, none⟩) l.length l.length) (hl : l.length ≤ 9223372036854775807) (hcs : cs.toList = l.map Value.string) : TsV (W.alloc (.cells cs T)) v l := by
  subst hv
  refine ⟨_, _, rfl, ⟨Nat.le_refl _, hl⟩, fun _ => ⟨W.heap.size, 0, rfl, fun j hj => ?_⟩⟩
  rw [World.cell?_alloc_mark, Nat.zero_add]
  have : cs.toList[j]? = some (.string (l.getD j te)) := by rw [hcs]; simp [List.getD, hj]
  simpa using this
def tcn : ByteArray := ⟨#[99, 110]⟩
def tnm : ByteArray := ⟨#[110, 97, 109, 101]⟩
def tsn : ByteArray := ⟨#[115, 110]⟩
def ta : ByteArray := ⟨#[97]⟩
/-- The law's three types; one above itself. -/
def ty3 : List Ty := [⟨tcn, tnm, 1, 2, false, false⟩, ⟨tnm, te, 1, 2, false, false⟩, ⟨tsn, tnm, 1, 1, false, false⟩]
def ty1 : List Ty := [⟨ta, ta, 1, 0, false, false⟩]
theorem aw_chk : chkT ty3 = 0 ∧ chkT ty1 = 190 := ⟨by kernel_rfl, by kernel_rfl⟩
theorem aw_few : fewT ty3 = true ∧ fewT ty1 = true := ⟨by kernel_rfl, by kernel_rfl⟩
theorem aw_fnd : ((fndA ty3 tcn).abv.toList == [110, 97, 109, 101]) = true ∧ fndB ty3 tcn = true := ⟨by kernel_rfl, by kernel_rfl⟩
theorem aw_lin : decide (lineT ty3 tcn = [tcn, tnm]) = true := by kernel_rfl
theorem aw_bel : (belT ty3 [tnm]).length = 3 := by kernel_rfl
theorem aw_is : isT ty3 tsn tnm = true ∧ isT ty3 tnm tsn = false := ⟨by kernel_rfl, by kernel_rfl⟩
theorem aw_rul : (rulL 10).length = 3 := by kernel_rfl
end Go.Proofs.Ytjjildpdelkejaa
