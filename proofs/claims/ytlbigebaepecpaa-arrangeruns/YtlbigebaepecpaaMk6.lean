/- Marks in memory; how near the marks are that are looked at next, and which belongs ahead. -/
import Derived.Test.YtlbigebaepecpaaRn
import Derived.Test.YtlbigebaepecpaaComb6
namespace Go.Proofs.Ytlbigebaepecpaa
open Go.RowKit

def Mk.vals (m : Mk) : List Value := [.int .i32 m.r, .int .i64 m.c, .int .i64 m.p]
def Mk.val (m : Mk) : Value := .agg #[.int .i32 m.r, .int .i64 m.c, .int .i64 m.p]
def mflat (d : List Mk) : List Value := d.flatMap Mk.vals
theorem mflat_len : ∀ d : List Mk, (mflat d).length = d.length * 3
  | [] => rfl
  | m :: t => by
    have := mflat_len t
    unfold mflat at this ⊢
    rw [List.flatMap_cons, List.length_append, this]
    simp [Mk.vals]
    omega
theorem mflat_cons (m : Mk) (t : List Mk) : mflat (m :: t) = .int .i32 m.r :: .int .i64 m.c :: .int .i64 m.p :: mflat t := by
  unfold mflat
  rw [List.flatMap_cons]; rfl
theorem mflat_get : ∀ (d : List Mk) (i : Nat), i < d.length → (mflat d)[i * 3]? = some (.int .i32 (d.getD i mk0).r) ∧ (mflat d)[i * 3 + 1]? = some (.int .i64 (d.getD i mk0).c) ∧ (mflat d)[i * 3 + 2]? = some (.int .i64 (d.getD i mk0).p)
  | [], _, h => by simp at h
  | m :: t, 0, _ => by rw [mflat_cons]; exact ⟨rfl, rfl, rfl⟩
  | m :: t, i + 1, h => by
    have ih := mflat_get t i (by simpa using h)
    rw [mflat_cons]
    have e1 : (i + 1) * 3 = i * 3 + 3 := by omega
    rw [e1]
    exact ih
theorem mflat_set : ∀ (d : List Mk) (i : Nat) (x : Mk), i < d.length → (((mflat d).set (i * 3) (.int .i32 x.r)).set (i * 3 + 1) (.int .i64 x.c)).set (i * 3 + 2) (.int .i64 x.p) = mflat (d.set i x)
  | [], _, _, h => by simp at h
  | m :: t, 0, x, _ => by
    show _ = mflat (x :: t)
    rw [mflat_cons, mflat_cons]; rfl
  | m :: t, i + 1, x, h => by
    have ih := mflat_set t i x (by simpa using h)
    rw [mflat_cons, List.set_cons_succ, mflat_cons, ← ih]
    have e1 : (i + 1) * 3 = i * 3 + 3 := by omega
    rw [e1]
    rfl
/-- A row of marks of the call's own. -/
def Mr (B : Nat) (v : Value) (d : List Mk) (w : World) : Prop := w.ownsRow B 41 3 v d.length (mflat d)
theorem Mr.cell {B g n cap : Nat} {d : List Mk} {w : World} (h : Mr B (.slice (some ⟨g, 0, none⟩) n cap) d w) (hn : n = d.length) (i : Nat) (hi : i < n) :
    w.cell? ⟨g, i * 3, none⟩ = some (.int .i32 (d.getD i mk0).r) ∧ w.cell? ⟨g, i * 3 + 1, none⟩ = some (.int .i64 (d.getD i mk0).c) ∧ w.cell? ⟨g, i * 3 + 2, none⟩ = some (.int .i64 (d.getD i mk0).p) := by
  subst hn
  obtain ⟨h1, h2, h3⟩ := mflat_get d i hi
  exact ⟨(World.ownsRow.cellAt h _ (by omega)).trans h1, (World.ownsRow.cellAt h _ (by omega)).trans h2, (World.ownsRow.cellAt h _ (by omega)).trans h3⟩
theorem Mr.free {B g n cap : Nat} {d : List Mk} {w : World} (h : Mr B (.slice (some ⟨g, 0, none⟩) n cap) d w) (hn : n = d.length) (o : Nat) : w.frozen? ⟨g, o, none⟩ = false := by
  subst hn
  exact World.ownsRow.frozenAt h o
theorem Mr.below {B : Nat} {v : Value} {d : List Mk} {w w2 : World} (h : Mr B v d w) (hb : Below w.heap.size w w2) : Mr B v d w2 := own_below h hb
theorem Mr.lt {B g n cap : Nat} {d : List Mk} {w : World} (h : Mr B (.slice (some ⟨g, 0, none⟩) n cap) d w) : B ≤ g ∧ g < w.heap.size := World.ownsRow.lt h g rfl
theorem Mr.base {B C : Nat} {v : Value} {d : List Mk} {w : World} (h : Mr B v d w) (hc : C ≤ B) : Mr C v d w := by
  refine ⟨h.1, ?_⟩
  rcases h.2 with h' | ⟨g, cap, cur, hv, hB, rest⟩
  · exact .inl h'
  · exact .inr ⟨g, cap, cur, hv, Nat.le_trans hc hB, rest⟩
theorem grownBy_trans {a b c : World} {row : Option Nat} (h : a.grownBy b row) (k : b.grownBy c row) : a.grownBy c row := by
  obtain ⟨h1, h2, h3, h4, h5⟩ := h
  obtain ⟨k1, k2, k3, k4, k5⟩ := k
  exact ⟨k1.trans h1, k2.trans h2, k3.trans h3, by omega, fun i hi hne => (k5 i (by omega) hne).trans (h5 i hi hne)⟩
/-- A mark is written. -/
theorem Mr.put {B g n cap : Nat} {d : List Mk} {w : World} (h : Mr B (.slice (some ⟨g, 0, none⟩) n cap) d w) (hn : n = d.length) (i : Nat) (hi : i < n) (x : Mk) :
    Mr B (.slice (some ⟨g, 0, none⟩) n cap) (d.set i x) (((w.setCell ⟨g, i * 3, none⟩ (.int .i32 x.r)).setCell ⟨g, i * 3 + 1, none⟩ (.int .i64 x.c)).setCell ⟨g, i * 3 + 2, none⟩ (.int .i64 x.p)) ∧
      w.grownBy (((w.setCell ⟨g, i * 3, none⟩ (.int .i32 x.r)).setCell ⟨g, i * 3 + 1, none⟩ (.int .i64 x.c)).setCell ⟨g, i * 3 + 2, none⟩ (.int .i64 x.p)) (some g) := by
  subst hn
  obtain ⟨a1, a2⟩ := World.ownsRow.stored h (i * 3) (.int .i32 x.r)
  obtain ⟨b1, b2⟩ := World.ownsRow.stored a1 (i * 3 + 1) (.int .i64 x.c)
  obtain ⟨c1, c2⟩ := World.ownsRow.stored b1 (i * 3 + 2) (.int .i64 x.p)
  refine ⟨?_, grownBy_trans (grownBy_trans a2 b2) c2⟩
  unfold Mr
  rw [← mflat_set d i x hi, List.length_set]
  exact c1

set_option maxHeartbeats 400000 in
theorem nearer_any (n : Nat) (h : 1 ≤ n) (hn : n ≤ 1000) (w : World) : Calls Try.prog 24 #[.int .i64 n] w fun e w' => (∃ m : Nat, e = .returned (.int .i64 m) ∧ 1 ≤ m ∧ m ≤ n ∧ (m < n ∨ m = 1)) ∧ w' = w := by
  go_enter Try.func24, Try.ntmps24
  go_wp2
  · go_ret
    exact ⟨⟨n - n / 4 - 1, ret_int (by omega), by omega, by omega, by omega⟩, rfl⟩
  · go_ret
    exact ⟨⟨1, ret_int (by omega), by omega, by omega, by omega⟩, rfl⟩
set_option maxHeartbeats 800000 in
theorem ahead_any (a b : Mk) (w : World) : Calls Try.prog 25 #[a.val, b.val] w fun e w' => e = .returned (.bool (a.ahead b)) ∧ Gr w w' := by
  obtain ⟨r1, c1, p1⟩ := a
  obtain ⟨r2, c2, p2⟩ := b
  unfold Mk.val
  dsimp only
  generalize hm : Mk.ahead ⟨r1, c1, p1⟩ ⟨r2, c2, p2⟩ = m
  have HM := hide hm
  clear hm
  by_cases h : c1 = c2
  · subst h
    go_enter Try.func25, Try.ntmps25
    go_wp2
    go_ret
    exact ⟨ret_bool (by rw [← unhide HM]; simp [Mk.ahead]), ((Gr.refl _).alloc _).alloc _⟩
  · have hz : (c1 == c2) = false := by simpa using h
    go_enter Try.func25, Try.ntmps25
    go_wp2
    go_ret
    exact ⟨ret_bool (by rw [← unhide HM]; simp [Mk.ahead, h]), ((Gr.refl _).alloc _).alloc _⟩
end Go.Proofs.Ytlbigebaepecpaa
