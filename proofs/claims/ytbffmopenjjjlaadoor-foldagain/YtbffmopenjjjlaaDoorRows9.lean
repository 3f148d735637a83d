/- The document's rows of layer 9. -/
import Derived.Test.YtbffmopenjjjlaaDoorRn
import Derived.Test.YtbffmopenjjjlaaDoorPlane
import Derived.Test.YtbffmopenjjjlaaDoorFold9
namespace Go.Proofs.YtbffmopenjjjlaaDoor
open Go.RowKit

def foc (o : Fo) : List Value := [.int .i32 o.f, .int .i32 o.t, .int .i32 o.s, .int .i32 o.u]
def focs (l : List Fo) : List Value := l.flatMap foc
theorem focs_get (l : List Fo) (k : Nat) (h : k < l.length) : (focs l)[k * 4]? = some (.int .i32 (l.getD k fo0).f) ∧ (focs l)[k * 4 + 1]? = some (.int .i32 (l.getD k fo0).t) ∧ (focs l)[k * 4 + 2]? = some (.int .i32 (l.getD k fo0).s) ∧ (focs l)[k * 4 + 3]? = some (.int .i32 (l.getD k fo0).u) := by
  induction l generalizing k with
  | nil => simp at h
  | cons s l ih =>
    cases k with
    | zero => simp [focs, foc]
    | succ k =>
      have := ih k (by simpa using h)
      have e : focs (s :: l) = foc s ++ focs l := by simp [focs]
      rw [e, show (k + 1) * 4 = 4 + k * 4 by omega, show 4 + k * 4 + 1 = 4 + (k * 4 + 1) by omega, show 4 + k * 4 + 2 = 4 + (k * 4 + 2) by omega, show 4 + k * 4 + 3 = 4 + (k * 4 + 3) by omega]
      have hl : (foc s).length = 4 := rfl
      rw [List.getElem?_append_right (by omega), List.getElem?_append_right (by omega), List.getElem?_append_right (by omega), List.getElem?_append_right (by omega), hl]
      simpa using this
def cells9 : Array Value := (focs rows9).toArray
def frame9 : Act := { tmps := (.slice none 0 0 :: ((rows9.map fun s => Value.agg (foc s).toArray) ++ [undef])).toArray, defers := [] }
def frame9' (x v : Value) : Act := { tmps := (x :: ((rows9.map fun s => Value.agg (foc s).toArray) ++ [v])).toArray, defers := [] }

set_option maxRecDepth 1000000 in
set_option maxHeartbeats 4000000 in
theorem rows9_any (w : World) : Calls Tryd.prog 18 #[] w fun e w' => e = .returned (.slice (some ⟨w.heap.size, 0, none⟩) 25 25) ∧ w' = w.alloc (.cells cells9 37) := by
  go_enter Tryd.func18, Tryd.ntmps18
  apply wp_seq_k; intro K0 hK0
  apply wp_region_lit
  refine Great.wpList_readTo rfl (some 0) rfl (.slice none 0 0) (by kernel_rfl) ?_
  apply wpList_nil
  refine hK0 _ _ ?_
  clear hK0 K0
  apply wp_seq_k; intro K0 hK0
  apply wp_region_lit
  refine wpList_buildsN 25 frame9 _ (by kernel_rfl) rfl ?_
  simp only [List.drop_succ_cons, List.drop_zero]
  refine Great.wpList_buildSliceTo rfl 34 37 25 _ rfl w.heap.size rfl (some 26) rfl Tryd.underlying34 cells9 (by kernel_rfl) ?_
  refine wpList_frame (a' := frame9' (.slice none 0 0) (.slice (some ⟨w.heap.size, 0, none⟩) 25 25)) (by kernel_rfl) ?_
  refine Great.wpList_readTo rfl (some 0) rfl (.slice (some ⟨w.heap.size, 0, none⟩) 25 25) (by kernel_rfl) ?_
  refine wpList_frame (a' := frame9' (.slice (some ⟨w.heap.size, 0, none⟩) 25 25) (.slice (some ⟨w.heap.size, 0, none⟩) 25 25)) (by kernel_rfl) ?_
  apply wpList_nil
  refine hK0 _ _ ?_
  clear hK0 K0
  refine wp_ret ?_
  exact bodyPost_ret (results_tmp Tryd.results18 _ _ _) rfl ⟨rfl, rfl⟩
theorem rows9_cell (w : World) (k : Nat) (h : k < 25) : (w.alloc (.cells cells9 37)).cell? ⟨w.heap.size, k * 4, none⟩ = some (.int .i32 (rows9.getD k fo0).f) ∧ (w.alloc (.cells cells9 37)).cell? ⟨w.heap.size, k * 4 + 1, none⟩ = some (.int .i32 (rows9.getD k fo0).t) ∧ (w.alloc (.cells cells9 37)).cell? ⟨w.heap.size, k * 4 + 2, none⟩ = some (.int .i32 (rows9.getD k fo0).s) ∧ (w.alloc (.cells cells9 37)).cell? ⟨w.heap.size, k * 4 + 3, none⟩ = some (.int .i32 (rows9.getD k fo0).u) := by
  obtain ⟨h1, h2, h3, h4⟩ := focs_get rows9 k h
  refine ⟨?_, ?_, ?_, ?_⟩ <;> rw [World.cell?_alloc_mark]
  · rw [← h1]; simp [cells9]
  · rw [← h2]; simp [cells9]
  · rw [← h3]; simp [cells9]
  · rw [← h4]; simp [cells9]
end Go.Proofs.YtbffmopenjjjlaaDoor
