/- Elements in boxes of the laws' own. -/
import Derived.Test.YtcboggoindhmkaaLaw16a
import Derived.Test.YtcboggoindhmkaaRSam15
namespace Go.Proofs.Ytcboggoindhmkaa
open Go.RowKit

/-- The box g holds an element. -/
structure Held (w : World) (g : Nat) (e : El) (ad : Option Addr) (cap : Nat) : Prop where
  bx : Bx g (.int .i64 e.cls) (.bool e.made) (.int .i64 e.num) (.string e.con) (.slice ad e.els.length cap) w
  ev : ElV w e (.agg #[.int .i64 e.cls, .bool e.made, .int .i64 e.num, .string e.con, .slice ad e.els.length cap])
theorem Held.below {w w2 : World} {g : Nat} {e : El} {ad : Option Addr} {cap : Nat} (h : Held w g e ad cap) (hb : Below w.heap.size w w2) : Held w2 g e ad cap := ⟨h.bx.below hb, h.ev.grow hb⟩
theorem Held.new {w : World} {e : El} {ad : Option Addr} {cap : Nat} (h : ElV w e (.agg #[.int .i64 e.cls, .bool e.made, .int .i64 e.num, .string e.con, .slice ad e.els.length cap])) : Held (w.alloc (bxE e ad cap)) w.heap.size e ad cap := ⟨Bx.new w _ _ _ _ _ _, h.grow (Below.one w _)⟩
theorem ElV.shape {w : World} {e : El} {v : Value} (h : ElV w e v) : ∃ ad cap, v = .agg #[.int .i64 e.cls, .bool e.made, .int .i64 e.num, .string e.con, .slice ad e.els.length cap] := by
  obtain ⟨ad, cap, hv, _⟩ := h.open
  exact ⟨ad, cap, hv⟩
/-- The box of a class and a number. -/
abbrev bxT (c n : Int) : Obj := .cells #[.int .i64 c, .int .i64 n] 23
theorem bxT_cells (w : World) (c n : Int) : (w.alloc (bxT c n)).cell? ⟨w.heap.size, 0, none⟩ = some (.int .i64 c) ∧ (w.alloc (bxT c n)).cell? ⟨w.heap.size, 1, none⟩ = some (.int .i64 n) := by
  refine ⟨?_, ?_⟩ <;> rw [World.cell?_alloc_mark] <;> rfl
end Go.Proofs.Ytcboggoindhmkaa
