/- Rows of bytes of the call's own. -/
import Derived.Test.YthbldkkjjjmegaaGreatDoorM05
import Derived.Maps.AppendAt
import Derived.Lib.AppendStr
import Derived.OwnWalk
import Derived.Deep.AppendLies
namespace Go.Proofs.YthbldkkjjjmegaaGreatDoor
set_option maxRecDepth 100000
open Go.RowKit

/-- A row of bytes of the call's own. -/
def Ob (B : Nat) (v : Value) (X : List Int) (w : World) : Prop := w.ownsRow B 5 1 v X.length (X.map (Value.int .u8))
theorem Ob.below {w w2 : World} {B : Nat} {v : Value} {X : List Int} (h : Ob B v X w) (hb : Below w.heap.size w w2) : Ob B v X w2 := own_below h hb
theorem Ob.own {w : World} {B N : Nat} {v : Value} {X : List Int} (hN : N = X.length) (h : Ob B v X w) : w.ownsRow B 5 1 v N (X.map (Value.int .u8)) := by subst hN; exact h
theorem Ob.push {w : World} {B N m : Nat} {v : Value} {X Z : List Int} (hN : N = X.length) (hm : m = Z.length) (h : w.ownsRow B 5 1 v (N + m) (X.map (Value.int .u8) ++ Z.map (Value.int .u8))) : Ob B v (X ++ Z) w := by
  subst hN hm
  unfold Ob
  rw [List.length_append, List.map_append]
  exact h
theorem u8_info : (Tryz.prog.info? 5).map (fun i => (i.zero, i.size, i.bytes)) = some (some (.int .u8 0), 1, 1) := by kernel_rfl
theorem grown_new {w w2 : World} {row : Option Nat} {o : Obj} (h : (w.alloc o).grownBy w2 row) : w.grownBy w2 row := (World.grownBy_alloc w o row).trans h
theorem Ob.conv {B : Nat} {v : Value} {X : List Int} {w : World} (h : Ob B v X w) : (convert 44 9 v).run Tryz.prog w = .ok (.string (strOfNums X)) w := by
  rcases h.2 with ⟨hv, h0⟩ | ⟨g, cap, cur, hv, _⟩
  · have hX : X = [] := List.eq_nil_of_length_eq_zero h0
    subst hX
    rw [hv]
    exact run_convert_bytes_nil w 44 5 Tryz.underlying44 Tryz.underlying5 0 0 9 Tryz.underlying9
  · rw [hv]
    refine run_convert_bytes_arg w 44 5 Tryz.underlying44 Tryz.underlying5 g 0 X.length cap X rfl ?_ 9 Tryz.underlying9
    intro i hi
    have := World.ownsRow.cells h (g := g) (by rw [hv]; rfl) i (.int .u8 (X.getD i 0)) (by simp [List.getD, hi])
    rw [add_zero3] at this
    rwa [Nat.zero_add]
theorem strCells_nums (s : ByteArray) : Lib.strCells s = (nums s).map (Value.int .u8) := by
  unfold Lib.strCells nums
  rw [List.map_map]
  rfl
theorem at_of {v : Value} {W : World} {g9 H n c : Nat} (hH : W.heap.size ≤ H) (hat : v.ownBlock = some g9 ∨ g9 = H) : ∀ g, (Value.slice (some ⟨g9, 0, none⟩) n c).ownBlock = some g → v.ownBlock = some g ∨ W.heap.size ≤ g := fun g e => by
  have e2 : g9 = g := Option.some.inj e
  subst e2
  rcases hat with h | h
  · exact .inl h
  · exact .inr (by omega)
theorem at_of2 {v : Value} {W : World} {g9 n c : Nat} (hat : v.ownBlock = some g9 ∨ W.heap.size ≤ g9) : ∀ g, (Value.slice (some ⟨g9, 0, none⟩) n c).ownBlock = some g → v.ownBlock = some g ∨ W.heap.size ≤ g := fun g e => by
  have e2 : g9 = g := Option.some.inj e
  subst e2
  exact hat
theorem Ob.push_str {w : World} {B N : Nat} {v : Value} {X : List Int} {s : ByteArray} (hN : N = X.length) (h : w.ownsRow B 5 1 v (N + s.size) (X.map (Value.int .u8) ++ Lib.strCells s)) : Ob B v (X ++ nums s) w := by
  rw [strCells_nums] at h
  exact Ob.push hN (nums_length s).symm h
theorem blk_lt {w : World} {b : Nat} {o : Obj} (h : w.heap[b]? = some o) : b < w.heap.size := (Array.getElem?_eq_some_iff.1 h).1
theorem blk_cell {w : World} {b : Nat} {cs : Array Value} {T : TypeId} (h : w.heap[b]? = some (.cells cs T)) (o : Nat) : w.cell? ⟨b, o, none⟩ = cs[o]? := by
  unfold World.cell?
  rw [show w.heap[(⟨b, o, none⟩ : Addr).block]? = w.heap[b]? from rfl, h]
  rfl
/-- A row of bytes lies in no box of pairs. -/
theorem Ob.ne {B b : Nat} {w : World} {v : Value} {Y : List Int} {cs : Array Value} {T : TypeId} (h : Ob B v Y w) (hb : w.heap[b]? = some (.cells cs T)) (hT : T ≠ 5) : v.ownBlock ≠ some b := by
  rcases h.2 with ⟨hv, _⟩ | ⟨g, cap, cur, hv, hB, hg, _⟩
  · rw [hv]; simp [Value.ownBlock]
  · rw [hv]
    intro e
    have e2 : g = b := Option.some.inj e
    subst e2
    rw [hb] at hg
    have := Option.some.inj hg
    injection this with _ h2
    exact hT h2
/-- Of a row that grew: its block is the old one, or a new one. -/
def Nx (v v2 : Value) (w : World) : Prop := ∀ g, v2.ownBlock = some g → v.ownBlock = some g ∨ w.heap.size ≤ g
end Go.Proofs.YthbldkkjjjmegaaGreatDoor
