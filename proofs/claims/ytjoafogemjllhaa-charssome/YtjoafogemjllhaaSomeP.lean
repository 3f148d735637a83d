/- The first numbers of a kind: plain lists; a row of runes of the call's own. -/
import Derived.Test.YtjoafogemjllhaaRTbl
namespace Go.Proofs.Ytjoafogemjllhaa
open Go.RowKit

/-- The numbers from f on, j of them. -/
def rng (f : Int) (j : Nat) : List Int := (List.range j).map fun (i : Nat) => f + (i : Int)
theorem rng_succ (f : Int) (j : Nat) : rng f (j + 1) = rng f j ++ [f + (j : Int)] := by simp [rng, List.range_succ]
theorem rng_len (f : Int) (j : Nat) : (rng f j).length = j := by simp [rng]
theorem rng_more (f : Int) (j d : Nat) : ∃ r, rng f (j + d) = rng f j ++ r := by
  induction d with
  | zero => exact ⟨[], by simp⟩
  | succ d ih =>
    obtain ⟨r, hr⟩ := ih
    exact ⟨r ++ [f + ((j + d : Nat) : Int)], by rw [← Nat.add_assoc, rng_succ, hr, List.append_assoc]⟩
theorem take_push (A : List Int) (f : Int) (j N : Nat) (h : ((A ++ rng f j).take N).length < N) : (A ++ rng f (j + 1)).take N = (A ++ rng f j).take N ++ [f + (j : Int)] := by
  have h2 : (A ++ rng f j).length < N := by rw [List.length_take] at h; omega
  rw [List.take_of_length_le (Nat.le_of_lt h2), rng_succ, ← List.append_assoc]
  exact List.take_of_length_le (by rw [List.length_append]; simp only [List.length_cons, List.length_nil]; omega)
theorem take_full (A : List Int) (f : Int) (j m N : Nat) (hj : j ≤ m) (h : ¬ ((A ++ rng f j).take N).length < N) : (A ++ rng f m).take N = (A ++ rng f j).take N := by
  obtain ⟨r, hr⟩ := rng_more f j (m - j)
  rw [show j + (m - j) = m by omega] at hr
  rw [hr, ← List.append_assoc]
  exact List.take_append_of_le_length (by rw [List.length_take] at h; omega)
/-- What a row gives; what some rows give, of a kind. -/
def ofS (q : Int) (s : Sp) : List Int := if s.h = q then rng s.f (s.t - s.f + 1).toNat else []
def allK (q : Int) (T : List Sp) : List Int := T.flatMap (ofS q)
theorem allK_succ (q : Int) (k : Nat) (h : k < 106) : allK q (rowsT.take (k + 1)) = allK q (rowsT.take k) ++ ofS q (rowsT.getD k sp0) := by
  rw [takeT k h]; simp [allK]
theorem allK_none (q : Int) (h : 7 < q) : allK q rowsT = [] := by
  rw [allK, List.flatMap_eq_nil_iff]
  intro s hs
  have h4 := List.all_eq_true.1 rowsT_all s hs
  simp at h4
  unfold ofS
  rw [if_neg (by omega)]
/-- What Some tells. -/
def someL (q n : Int) : List Int := if 1 ≤ n ∧ n ≤ 500 ∧ 1 ≤ q ∧ q ≤ 7 then (allK q rowsT).take n.toNat else []

/-- A slice that holds the runes l. -/
def Row (w : World) (v : Value) (l : List Int) : Prop :=
  ∃ a cap, v = .slice a l.length cap ∧ (0 < l.length → ∃ b off, a = some ⟨b, off, none⟩ ∧ ∀ j, j < l.length → w.cell? ⟨b, off + j, none⟩ = some (.int .i32 (l.getD j 0)))
theorem Row.below {w w2 : World} {v : Value} {l : List Int} (h : Row w v l) (hb : Below w.heap.size w w2) : Row w2 v l := by
  obtain ⟨a, cap, rfl, hc⟩ := h
  refine ⟨a, cap, rfl, fun hi => ?_⟩
  obtain ⟨b, off, rfl, hcc⟩ := hc hi
  exact ⟨b, off, rfl, fun j hj => (hb.cell (p := ⟨b, off + j, none⟩) (cell_lt (hcc j hj))).trans (hcc j hj)⟩
/-- A row of runes of the call's own. -/
def Rn (B : Nat) (v : Value) (l : List Int) (w : World) : Prop := w.ownsRow B 21 1 v l.length (l.map (Value.int .i32))
theorem Rn.nil (B : Nat) (w : World) : Rn B (.slice none 0 0) [] w := ⟨rfl, .inl ⟨rfl, rfl⟩⟩
theorem Rn.row {w : World} {B : Nat} {v : Value} {l : List Int} (h : Rn B v l w) : Row w v l := by
  rcases h.2 with ⟨hv, h0⟩ | ⟨g, cap, cur, hv, _⟩
  · exact ⟨none, 0, by rw [hv, h0], fun hi => by omega⟩
  · refine ⟨some ⟨g, 0, none⟩, cap, hv, fun hi => ⟨g, 0, rfl, fun j hj => ?_⟩⟩
    have := World.ownsRow.cells h (g := g) (by rw [hv]; rfl) j (.int .i32 (l.getD j 0)) (by simp [List.getD, hj])
    rw [add_zero3 g j] at this
    rw [Nat.zero_add]
    exact this
theorem Rn.shape {w : World} {B : Nat} {v : Value} {l : List Int} (h : Rn B v l w) : ∃ a c, v = .slice a l.length c := by
  rcases h.2 with ⟨hv, h0⟩ | ⟨g, cap, cur, hv, _⟩
  · exact ⟨none, 0, by rw [hv, h0]⟩
  · exact ⟨_, cap, hv⟩
theorem Rn.lt {w : World} {B : Nat} {v : Value} {l : List Int} (h : Rn B v l w) : v.ownBlock ≠ some w.heap.size := by
  rcases h.2 with ⟨hv, h0⟩ | ⟨g, cap, cur, hv, _, hg, _⟩
  · rw [hv]; simp [Value.ownBlock]
  · rw [hv]
    have := (Array.getElem?_eq_some_iff.1 hg).1
    simp only [Value.ownBlock, ne_eq, Option.some.injEq]
    omega
theorem Rn.base {w : World} {B C : Nat} {v : Value} {l : List Int} (h : Rn B v l w) (hc : C ≤ B) : Rn C v l w := by
  refine ⟨h.1, ?_⟩
  rcases h.2 with h' | ⟨g, cap, cur, hv, hB, rest⟩
  · exact .inl h'
  · exact .inr ⟨g, cap, cur, hv, Nat.le_trans hc hB, rest⟩
theorem elem_info : (Try.prog.info? 21).map (fun i => (i.zero, i.size, i.bytes)) = some (some (.int .i32 0), 1, 4) := by kernel_rfl
theorem Rn.push {wa w1 : World} {B g1 cap1 : Nat} {v : Value} {es : List Int} {z : Int} (h : w1.ownsRow B 21 1 (.slice (some ⟨g1, 0, none⟩) (es.length + 1) cap1) (es.length + 1) (es.map (Value.int .i32) ++ [.int .i32 z])) (_ : Rn B v es wa) : Rn B (.slice (some ⟨g1, 0, none⟩) (es.length + 1) cap1) (es ++ [z]) w1 := by
  unfold Rn
  simpa using h
end Go.Proofs.Ytjoafogemjllhaa
