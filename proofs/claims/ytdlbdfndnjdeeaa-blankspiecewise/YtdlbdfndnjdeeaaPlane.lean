/- The rows of the first plane's table, and firstPlane: it hands them back, whatever the world. -/
import Derived.Test.YtdlbdfndnjdeeaaProg
import Derived.Test.YtdlbdfndnjdeeaaBase
import Derived.Test.YtdlbdfndnjdeeaaPlain
import Derived.WalkKit
import Derived.Great.Walk
import Derived.Deep.WholeRow
namespace Go.Proofs.Ytdlbdfndnjdeeaa
open Go.RowKit

def rowsL : List Sp := [
  ⟨0, 8, 6⟩, ⟨9, 13, 5⟩, ⟨14, 31, 6⟩, ⟨32, 32, 5⟩, ⟨33, 47, 4⟩, ⟨48, 57, 2⟩, ⟨58, 64, 4⟩, ⟨65, 90, 1⟩, ⟨91, 96, 4⟩, ⟨97, 122, 1⟩,
  ⟨123, 126, 4⟩, ⟨127, 132, 6⟩, ⟨133, 133, 5⟩, ⟨134, 159, 6⟩, ⟨160, 160, 5⟩, ⟨161, 169, 4⟩, ⟨170, 170, 1⟩, ⟨171, 172, 4⟩, ⟨173, 173, 6⟩, ⟨174, 177, 4⟩,
  ⟨178, 179, 2⟩, ⟨180, 180, 4⟩, ⟨181, 181, 1⟩, ⟨182, 184, 4⟩, ⟨185, 185, 2⟩, ⟨186, 186, 1⟩, ⟨187, 191, 4⟩, ⟨192, 214, 1⟩, ⟨215, 215, 4⟩, ⟨216, 246, 1⟩,
  ⟨247, 247, 4⟩, ⟨248, 383, 1⟩, ⟨700, 700, 1⟩, ⟨768, 772, 3⟩, ⟨774, 776, 3⟩, ⟨778, 780, 3⟩, ⟨803, 803, 3⟩, ⟨807, 808, 3⟩, ⟨832, 833, 7⟩, ⟨847, 847, 6⟩,
  ⟨902, 902, 1⟩, ⟨904, 906, 1⟩, ⟨908, 908, 1⟩, ⟨910, 929, 1⟩, ⟨931, 974, 1⟩]
def rowsU : List Sp := [
  ⟨1025, 1025, 1⟩, ⟨1040, 1103, 1⟩, ⟨1105, 1105, 1⟩, ⟨1488, 1514, 1⟩, ⟨1632, 1641, 2⟩, ⟨4352, 4370, 1⟩, ⟨4449, 4469, 1⟩, ⟨4520, 4546, 1⟩, ⟨8192, 8202, 5⟩, ⟨8203, 8207, 6⟩,
  ⟨8208, 8209, 4⟩, ⟨8232, 8233, 5⟩, ⟨8234, 8238, 6⟩, ⟨8239, 8239, 5⟩, ⟨8260, 8260, 4⟩, ⟨8287, 8287, 5⟩, ⟨8288, 8291, 6⟩, ⟨8298, 8303, 6⟩, ⟨8304, 8304, 2⟩, ⟨8308, 8313, 2⟩,
  ⟨8320, 8329, 2⟩, ⟨8486, 8486, 1⟩, ⟨8490, 8491, 1⟩, ⟨8544, 8555, 1⟩, ⟨8560, 8571, 1⟩, ⟨8722, 8722, 4⟩, ⟨12288, 12288, 5⟩, ⟨12353, 12436, 1⟩, ⟨12441, 12442, 3⟩, ⟨19968, 20223, 1⟩,
  ⟨44032, 55203, 1⟩, ⟨57344, 63743, 7⟩, ⟨64256, 64261, 1⟩, ⟨64976, 65007, 7⟩, ⟨65024, 65039, 6⟩, ⟨65279, 65279, 6⟩, ⟨65281, 65295, 4⟩, ⟨65296, 65305, 2⟩, ⟨65306, 65312, 4⟩, ⟨65313, 65338, 1⟩,
  ⟨65339, 65344, 4⟩, ⟨65345, 65370, 1⟩, ⟨65371, 65374, 4⟩, ⟨65529, 65532, 6⟩, ⟨65533, 65535, 7⟩]
/-- The first plane's rows. -/
def rowsA : List Sp := rowsL ++ rowsU

/-- A span's three cells; those of many. -/
def spc (s : Sp) : List Value := [.int .i32 s.f, .int .i32 s.t, .int .i64 s.h]
def spcs (l : List Sp) : List Value := l.flatMap spc
theorem spcs_length (l : List Sp) : (spcs l).length = l.length * 3 := by
  induction l with
  | nil => rfl
  | cons s l ih => simp [spcs, spc] at ih ⊢; omega
theorem spcs_append (a b : List Sp) : spcs (a ++ b) = spcs a ++ spcs b := by simp [spcs]
theorem spcs_get (l : List Sp) (k : Nat) (h : k < l.length) : (spcs l)[k * 3]? = some (.int .i32 (l.getD k sp0).f) ∧ (spcs l)[k * 3 + 1]? = some (.int .i32 (l.getD k sp0).t) ∧ (spcs l)[k * 3 + 2]? = some (.int .i64 (l.getD k sp0).h) := by
  induction l generalizing k with
  | nil => simp at h
  | cons s l ih =>
    cases k with
    | zero => simp [spcs, spc]
    | succ k =>
      have := ih k (by simpa using h)
      have e : spcs (s :: l) = spc s ++ spcs l := by simp [spcs]
      rw [e, show (k + 1) * 3 = 3 + k * 3 by omega, show 3 + k * 3 + 1 = 3 + (k * 3 + 1) by omega, show 3 + k * 3 + 2 = 3 + (k * 3 + 2) by omega]
      have hl : (spc s).length = 3 := rfl
      rw [List.getElem?_append_right (by omega), List.getElem?_append_right (by omega), List.getElem?_append_right (by omega), hl]
      simpa using this

/-- Builds, one behind the other: what the frame is behind them. -/
def runB (P : Program) : List Oper → Act → Option Act
  | [], a => some a
  | o :: rest, a =>
    match o.guard, o.op with
    | none, .build t parts =>
      match P.built t (parts.map fun (i, x) => (i, a.eval x)).toList with
      | some cells => runB P rest (a.put o.dst (.agg cells))
      | none => none
    | _, _ => none

theorem wpList_builds {P : Program} {ops : Array Oper} {Q : Exit → Act → World → Prop} {w : World} (l2 : List Oper) (a' : Act) : ∀ (l1 : List Oper) (a : Act), runB P l1 a = some a' → wpList P ops Q l2 a' w → wpList P ops Q (l1 ++ l2) a w
  | [], a, h, k => by
    simp only [runB, Option.some.injEq] at h
    subst h
    exact k
  | o :: rest, a, h, k => by
    unfold runB at h
    split at h
    · rename_i t parts hg ho
      split at h
      · rename_i cells hc
        exact wpList_buildTo hg t parts ho _ rfl cells hc (wpList_builds l2 a' rest _ h k)
      · cases h
    · cases h
theorem wpList_buildsN {P : Program} {ops : Array Oper} {Q : Exit → Act → World → Prop} {w : World} (n : Nat) {l : List Oper} {a : Act} (a' : Act) (l2 : List Oper) (h : runB P (l.take n) a = some a') (h2 : l.drop n = l2) (k : wpList P ops Q l2 a' w) : wpList P ops Q l a w := by
  subst h2
  have := wpList_builds (P := P) (ops := ops) (Q := Q) (w := w) (l.drop n) a' (l.take n) a h k
  rwa [List.take_append_drop] at this

def cellsA : Array Value := (spcs rowsA).toArray
def zerosA : Array Value := (spcs (List.replicate 90 ⟨0, 0, 0⟩)).toArray
def aggsA : List Value := rowsA.map fun s => .agg (spc s).toArray
def frameA (p : Value) : Act := { tmps := (p :: (aggsA ++ [.agg cellsA])).toArray, defers := [] }


set_option maxRecDepth 1000000 in
set_option maxHeartbeats 4000000 in
theorem firstPlane_any (w : World) : Calls Try.prog 42 #[] w fun e w' => e = .returned (.agg cellsA) ∧ w' = w.alloc (.cells cellsA 45) := by
  go_enter Try.func42, Try.ntmps42
  apply wp_seq_k; intro K0 hK0
  apply wp_region_lit
  refine Great.wpList_allocTo rfl (some 0) rfl (.pointer (some ⟨w.heap.size, 0, none⟩)) (.cells zerosA 45) (by kernel_rfl) ?_
  apply wpList_nil
  refine hK0 _ _ ?_
  clear hK0 K0
  apply wp_seq_k; intro K0 hK0
  apply wp_region_lit
  refine wpList_buildsN 91 (frameA (.pointer (some ⟨w.heap.size, 0, none⟩))) _ (by kernel_rfl) rfl ?_
  simp only [List.append_eq, List.cons_append, List.nil_append, List.drop_succ_cons, List.drop_zero]
  refine wpList_store_rowTo rfl 45 (.tmp 0) (.tmp 91) rfl rfl w.heap.size cellsA (by kernel_rfl) (by kernel_rfl) 45 zerosA (heap_alloc_last w _) (by kernel_rfl) (by kernel_rfl) (by kernel_rfl) ?_
  apply wpList_nil
  refine hK0 _ _ ?_
  clear hK0 K0
  rw [World.setRow_alloc_new]
  refine wp_ret ?_
  refine bodyPost_ret (results_cell_row (p := 0) (ty := 45) Try.results42 _ _ w.heap.size 45 cellsA (0, 0) _ (by kernel_rfl) (heap_alloc_last w _) Try.underlying45 rfl (by kernel_rfl)) rfl ⟨rfl, rfl⟩
end Go.Proofs.Ytdlbdfndnjdeeaa
