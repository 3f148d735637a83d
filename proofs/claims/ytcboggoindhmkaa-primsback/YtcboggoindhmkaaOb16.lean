/- Rows of bytes of the call's own. -/
import Derived.Test.YtcboggoindhmkaaOwn15
import Derived.Maps.AppendAt
import Derived.Lib.AppendStr
import Derived.OwnWalk
import Derived.Deep.AppendLies
namespace Go.Proofs.Ytcboggoindhmkaa
open Go.RowKit

/-- A row of bytes of the call's own. -/
def Ob (B : Nat) (v : Value) (X : List Int) (w : World) : Prop := w.ownsRow B 5 1 v X.length (X.map (Value.int .u8))
theorem Ob.below {w w2 : World} {B : Nat} {v : Value} {X : List Int} (h : Ob B v X w) (hb : Below w.heap.size w w2) : Ob B v X w2 := own_below h hb
theorem Ob.own {w : World} {B N : Nat} {v : Value} {X : List Int} (hN : N = X.length) (h : Ob B v X w) : w.ownsRow B 5 1 v N (X.map (Value.int .u8)) := by subst hN; exact h
theorem Ob.push {w : World} {B N m : Nat} {v : Value} {X Z : List Int} (hN : N = X.length) (hm : m = Z.length) (h : w.ownsRow B 5 1 v (N + m) (X.map (Value.int .u8) ++ Z.map (Value.int .u8))) : Ob B v (X ++ Z) w := by
  subst hN hm
  unfold Ob
  rw [List.length_append, List.map_append]
  exact h
theorem u8_info : (Try.prog.info? 5).map (fun i => (i.zero, i.size, i.bytes)) = some (some (.int .u8 0), 1, 1) := by kernel_rfl
theorem grown_new {w w2 : World} {row : Option Nat} {o : Obj} (h : (w.alloc o).grownBy w2 row) : w.grownBy w2 row := (World.grownBy_alloc w o row).trans h
theorem Ob.conv {B : Nat} {v : Value} {X : List Int} {w : World} (h : Ob B v X w) : (convert 71 9 v).run Try.prog w = .ok (.string (strOfNums X)) w := by
  rcases h.2 with ⟨hv, h0⟩ | ⟨g, cap, cur, hv, _⟩
  · have hX : X = [] := List.eq_nil_of_length_eq_zero h0
    subst hX
    rw [hv]
    exact run_convert_bytes_nil w 71 5 Try.underlying71 Try.underlying5 0 0 9 Try.underlying9
  · rw [hv]
    refine run_convert_bytes_arg w 71 5 Try.underlying71 Try.underlying5 g 0 X.length cap X rfl ?_ 9 Try.underlying9
    intro i hi
    have := World.ownsRow.cells h (g := g) (by rw [hv]; rfl) i (.int .u8 (X.getD i 0)) (by simp [List.getD, hi])
    rw [add_zero3] at this
    rwa [Nat.zero_add]
end Go.Proofs.Ytcboggoindhmkaa
