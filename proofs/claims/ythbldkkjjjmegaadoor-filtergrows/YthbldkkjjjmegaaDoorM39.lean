/- A region that draws, whose own operations only read, and whose callees leave all that lay as it lay: one walk. -/
import Derived.Test.YthbldkkjjjmegaaDoorM01
namespace Go.Proofs.YthbldkkjjjmegaaDoor
set_option maxRecDepth 100000
open Go.RowKit

/-- A world in which all that lay in w lies as it lay. -/
structure BB (w : World) where
  W : World
  b : Below w.heap.size w W
theorem wp_region_below {P : Program} {id : Nat} {Q : Exit → Act → World → Prop} {a : Act} {w : World} {l : List Oper} (hm : P.follows .mixedOrders = true) (hB : Region.lexB .any l.toArray = true)
    (h : Nonempty (BB w) → wpQuiet P l.toArray (fun w' => ∃ p : BB w, w' = p.W) (fun a' => ∀ w', (∃ p : BB w, w' = p.W) → Q .normal a' w') l a) : (Code.region id l.toArray true).wp P Q a w :=
  wp_region_quiet (C := fun w' => ∃ p : BB w, w' = p.W) hm hB ⟨⟨w.drewN 1, ((Gr.refl w).drewN 1).below⟩, rfl⟩ (by simpa using h ⟨⟨w, Below.refl _ _⟩⟩)
theorem callsBB {P : Program} {f : FuncId} {args : Array Value} {w : World} {p : BB w} {v : Value} (h : Calls P f args p.W fun e w' => e = .returned v ∧ Below p.W.heap.size p.W w') : Calls P f args p.W fun e w'' => e = .returned v ∧ ∃ q : BB w, w'' = q.W :=
  h.mono fun _ w' ⟨he, hb⟩ => ⟨he, ⟨w', p.b.trans (hb.mono p.b.size)⟩, rfl⟩
theorem cell_bb {w : World} {a : Addr} {v : Value} (h : w.cell? a = some v) (p : BB w) : p.W.cell? a = some v := (p.b.cell (cell_lt h)).trans h
end Go.Proofs.YthbldkkjjjmegaaDoor
