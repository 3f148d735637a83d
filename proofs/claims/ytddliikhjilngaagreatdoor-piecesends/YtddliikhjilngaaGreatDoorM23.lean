/- Pieces as they lie; formed. -/
import Derived.Test.YtddliikhjilngaaGreatDoorM01
import Derived.WalkKit
import Derived.WalkMore
import Derived.Laws.Strings3
import Derived.Test.YtddliikhjilngaaGreatDoorM22
namespace Go.Proofs.YtddliikhjilngaaGreatDoor
set_option maxRecDepth 100000
open Go.RowKit

def bts (s : ByteArray) : List UInt8 := s.data.toList
theorem bts_len (s : ByteArray) : (bts s).length = s.size := (Lib.size_eq s).symm
theorem bts_toList (s : ByteArray) : s.toList = bts s := Lib.toList_data s
theorem bts_empty {s : ByteArray} : (bts s).isEmpty = (s.toList == []) := by
  rw [bts_toList]
  cases bts s <;> rfl
/-- A slice that holds the texts ss. -/
def Txs (w : World) (v : Value) (ss : List ByteArray) : Prop :=
  ∃ a cap, v = .slice a ss.length cap ∧ ss.length ≤ 9223372036854775807 ∧ (0 < ss.length → ∃ b off, a = some ⟨b, off, none⟩ ∧ ∀ j, j < ss.length → w.cell? ⟨b, off + j, none⟩ = some (.string (ss.getD j ByteArray.empty)))
theorem Txs.below {w w2 : World} {v : Value} {ss : List ByteArray} (h : Txs w v ss) (hb : Below w.heap.size w w2) : Txs w2 v ss := by
  obtain ⟨a, cap, rfl, hn, hc⟩ := h
  refine ⟨a, cap, rfl, hn, fun i => ?_⟩
  obtain ⟨b, off, rfl, hcc⟩ := hc i
  exact ⟨b, off, rfl, fun j hj => (hb.cell (p := ⟨b, off + j, none⟩) (cell_lt (hcc j hj))).trans (hcc j hj)⟩
theorem Txs.nil (w : World) (a : Option Addr) (c : Nat) : Txs w (.slice a 0 c) [] := ⟨a, c, rfl, by simp, fun h => absurd h (Nat.lt_irrefl _)⟩

theorem emp_cases (a : ByteArray) : (a.toList = [] ∧ a.toList.isEmpty = true) ∨ (¬ a.toList = [] ∧ a.toList.isEmpty = false) := by
  cases h : a.toList
  · exact .inl ⟨rfl, rfl⟩
  · exact .inr ⟨by simp, rfl⟩
set_option maxHeartbeats 1000000 in
theorem formed_any (a b : ByteArray) (ad : Option Addr) (n cap : Nat) (hi hf : Bool) (w : World) (hn : n ≤ 9223372036854775807) :
    Calls Tryz.prog 13 #[.agg #[.string a, .slice ad n cap, .string b, .bool hi, .bool hf]] w fun e w' => e = .returned (.bool (fmd (bts a) (bts b) n hi hf)) ∧ Below w.heap.size w w' := by
  have e : fmd (bts a) (bts b) n hi hf = ((hi || a.toList.isEmpty) && (hf || b.toList.isEmpty) && (hi || hf || decide (0 < n)) && decide (n ≤ 6)) := by unfold fmd; rw [bts_toList, bts_toList]
  rw [e]
  clear e
  have e6 : decide ((n : Int) ≤ 6) = decide (n ≤ 6) := by rw [decide_eq_decide]; omega
  have h0 : (0 < n ∧ decide (0 < n) = true) ∨ (¬ 0 < n ∧ decide (0 < n) = false) := by
    by_cases h : 0 < n
    · exact .inl ⟨h, decide_eq_true h⟩
    · exact .inr ⟨h, decide_eq_false h⟩
  rcases emp_cases a with ⟨ha, ha'⟩ | ⟨ha, ha'⟩ <;> rcases emp_cases b with ⟨hb, hb'⟩ | ⟨hb, hb'⟩ <;> rcases h0 with ⟨h0, h0'⟩ | ⟨h0, h0'⟩ <;> rw [ha', hb', h0'] <;> cases hi <;> cases hf
  all_goals
    go_enter Tryz.func13, Tryz.ntmps13
    go_wp2
    go_ret
    exact ⟨ret_bool (by first | rfl | (rw [e6]; rfl) | simp [e6]), Below.one _ _⟩
/-- The five cells of a box, and behind a call. -/
theorem box13 (w : World) (a0 a1 a2 a3 a4 : Value) (T : TypeId) : (w.alloc (.cells #[a0, a1, a2, a3, a4] T)).cell? ⟨w.heap.size, 0, none⟩ = some a0 ∧ (w.alloc (.cells #[a0, a1, a2, a3, a4] T)).cell? ⟨w.heap.size, 1, none⟩ = some a1 ∧ (w.alloc (.cells #[a0, a1, a2, a3, a4] T)).cell? ⟨w.heap.size, 2, none⟩ = some a2 ∧ (w.alloc (.cells #[a0, a1, a2, a3, a4] T)).cell? ⟨w.heap.size, 3, none⟩ = some a3 ∧ (w.alloc (.cells #[a0, a1, a2, a3, a4] T)).cell? ⟨w.heap.size, 4, none⟩ = some a4 := by
  refine ⟨?_, ?_, ?_, ?_, ?_⟩ <;> rw [World.cell?_alloc_mark] <;> rfl
theorem kept13 {W W2 : World} {g : Nat} {a0 a1 a2 a3 a4 : Value} (hb : Below W.heap.size W W2) (h0 : W.cell? ⟨g, 0, none⟩ = some a0) (h1 : W.cell? ⟨g, 1, none⟩ = some a1) (h2 : W.cell? ⟨g, 2, none⟩ = some a2) (h3 : W.cell? ⟨g, 3, none⟩ = some a3) (h4 : W.cell? ⟨g, 4, none⟩ = some a4) :
    W2.cell? ⟨g, 0, none⟩ = some a0 ∧ W2.cell? ⟨g, 1, none⟩ = some a1 ∧ W2.cell? ⟨g, 2, none⟩ = some a2 ∧ W2.cell? ⟨g, 3, none⟩ = some a3 ∧ W2.cell? ⟨g, 4, none⟩ = some a4 :=
  ⟨(hb.cell (cell_lt h0)).trans h0, (hb.cell (cell_lt h1)).trans h1, (hb.cell (cell_lt h2)).trans h2, (hb.cell (cell_lt h3)).trans h3, (hb.cell (cell_lt h4)).trans h4⟩
/-- A box of five cells, none of them frozen. -/
structure B5 (w : World) (g : Nat) (a0 a1 a2 a3 a4 : Value) : Prop where
  c0 : w.cell? ⟨g, 0, none⟩ = some a0
  c1 : w.cell? ⟨g, 1, none⟩ = some a1
  c2 : w.cell? ⟨g, 2, none⟩ = some a2
  c3 : w.cell? ⟨g, 3, none⟩ = some a3
  c4 : w.cell? ⟨g, 4, none⟩ = some a4
  f0 : w.frozen? ⟨g, 0, none⟩ = false
  f1 : w.frozen? ⟨g, 1, none⟩ = false
  f2 : w.frozen? ⟨g, 2, none⟩ = false
  f3 : w.frozen? ⟨g, 3, none⟩ = false
  f4 : w.frozen? ⟨g, 4, none⟩ = false
theorem fresh_frozen (w : World) (cs : Array Value) (T : TypeId) (i : Nat) : (w.alloc (.cells cs T)).frozen? ⟨w.heap.size, i, none⟩ = false := by
  unfold World.frozen? World.alloc
  simp
theorem B5.new (w : World) (a0 a1 a2 a3 a4 : Value) (T : TypeId) : B5 (w.alloc (.cells #[a0, a1, a2, a3, a4] T)) w.heap.size a0 a1 a2 a3 a4 := by
  obtain ⟨c0, c1, c2, c3, c4⟩ := box13 w a0 a1 a2 a3 a4 T
  exact ⟨c0, c1, c2, c3, c4, fresh_frozen _ _ _ _, fresh_frozen _ _ _ _, fresh_frozen _ _ _ _, fresh_frozen _ _ _ _, fresh_frozen _ _ _ _⟩
theorem B5.keep {w w2 : World} {g : Nat} {a0 a1 a2 a3 a4 : Value} (h : B5 w g a0 a1 a2 a3 a4) (hb : Below w.heap.size w w2) : B5 w2 g a0 a1 a2 a3 a4 := by
  have hlt : g < w.heap.size := cell_lt h.c0
  obtain ⟨c0, c1, c2, c3, c4⟩ := kept13 hb h.c0 h.c1 h.c2 h.c3 h.c4
  exact ⟨c0, c1, c2, c3, c4, (hb.frozen (p := ⟨g, 0, none⟩) hlt).trans h.f0, (hb.frozen (p := ⟨g, 1, none⟩) hlt).trans h.f1, (hb.frozen (p := ⟨g, 2, none⟩) hlt).trans h.f2, (hb.frozen (p := ⟨g, 3, none⟩) hlt).trans h.f3, (hb.frozen (p := ⟨g, 4, none⟩) hlt).trans h.f4⟩
end Go.Proofs.YtddliikhjilngaaGreatDoor
