/- Boxes of two floats; calls in regions that draw. (By gen_laws.py.) -/
import Derived.Test.YtpkofpgdnbkknaaDoorLaw14a
import Derived.Test.YtpkofpgdnbkknaaDoorQuietB
namespace Go.Proofs.YtpkofpgdnbkknaaDoor
open Go.RowKit

/-- A box of two floats. -/
def Bx (w : World) (g x y : Nat) : Prop := w.cell? ⟨g, 0, none⟩ = some (.float .f64 x) ∧ w.cell? ⟨g, 1, none⟩ = some (.float .f64 y)
theorem Bx.below {w w' : World} {g x y : Nat} (h : Bx w g x y) (hb : Below w.heap.size w w') : Bx w' g x y := ⟨(hb.cell (cell_lt h.1)).trans h.1, (hb.cell (cell_lt h.2)).trans h.2⟩
theorem Bx.bb {w : World} {g x y : Nat} (h : Bx w g x y) : (∀ p : BB w, p.W.cell? ⟨g, 0, none⟩ = some (.float .f64 x)) ∧ (∀ p : BB w, p.W.cell? ⟨g, 1, none⟩ = some (.float .f64 y)) := ⟨cell_bb h.1, cell_bb h.2⟩
theorem lyBB {w : World} {p : BB w} (h : Ly w) : Ly p.W := h.keep p.b
theorem bx1 (w : World) (x y : Nat) (T : TypeId) : Bx (w.alloc (.cells #[.float .f64 x, .float .f64 y] T)) w.heap.size x y := ⟨by rw [World.cell?_alloc_mark]; rfl, by rw [World.cell?_alloc_mark]; rfl⟩
theorem bxn (w : World) (x y n : Nat) (T : TypeId) (h : n = w.heap.size) : Bx (w.alloc (.cells #[.float .f64 x, .float .f64 y] T)) n x y := by rw [h]; exact bx1 w x y T
theorem lz_b (x y : Nat) (w : World) : Calls Tryd.prog 10 #[tt x y] w fun e w' => e = .returned (cc x y) ∧ Below w.heap.size w w' := (lz_any x y w).mono fun _ _ ⟨he, hg⟩ => ⟨he, hg.below⟩
theorem lr_b (x y : Nat) (w : World) : Calls Tryd.prog 12 #[tt x y] w fun e w' => e = .returned (zz x y) ∧ Below w.heap.size w w' := (lr_any x y w).mono fun _ _ ⟨he, hg⟩ => ⟨he, hg.below⟩
theorem lis_b (x y : Nat) (p : Int × Int) (hz : IsZ x y p) (h1 : -999999 ≤ p.1 ∧ p.1 ≤ 999999 ∧ -999999 ≤ p.2 ∧ p.2 ≤ 999999) (w : World) : Calls Tryd.prog 16 #[cc x y, .int .i64 p.1, .int .i64 p.2] w fun e w' => e = .returned (.bool true) ∧ Below w.heap.size w w' :=
  (lis_any x y p hz h1.1 h1.2.1 h1.2.2.1 h1.2.2.2 w).mono fun _ _ ⟨he, hw⟩ => ⟨he, hw ▸ Below.refl _ _⟩
theorem rshow_b (x y : Nat) (w : World) : Calls Tryd.prog 11 #[zz x y] w fun e w' => e = .returned (.tuple #[.string (shZ (pz x y)), .int .i64 (errZ (pz x y))]) ∧ Below w.heap.size w w' := (rshow14_any x y w).mono fun _ _ ⟨he, hg⟩ => ⟨he, hg.below⟩
theorem rturn_b (x y : Nat) (n : Int) (w : World) : Calls Tryd.prog 14 #[zz x y, .int .i64 n] w fun e w' => e = .returned (.tuple #[.int .i64 (trn n (pz x y)).1, .int .i64 (trn n (pz x y)).2, .int .i64 (errZ (pz x y))]) ∧ Below w.heap.size w w' := (rturn_any x y n w).mono fun _ _ ⟨he, hg⟩ => ⟨he, hg.below⟩
theorem rparts_b (x y : Nat) (w : World) : Calls Tryd.prog 15 #[zz x y] w fun e w' => e = .returned (.tuple #[.int .i64 (reZ (pz x y)), .int .i64 (imZ (pz x y)), .bool (pz x y).isSome]) ∧ Below w.heap.size w w' := (rparts_any x y w).mono fun _ _ ⟨he, hg⟩ => ⟨he, hg.below⟩
theorem rnorm_b (x y : Nat) (w : World) : Calls Tryd.prog 19 #[zz x y] w fun e w' => e = .returned (.int .i64 (nrm (pz x y))) ∧ Below w.heap.size w w' := (rnorm_any x y w).mono fun _ _ ⟨he, hg⟩ => ⟨he, hg.below⟩
theorem rtimes_b (x y u v : Nat) (w : World) : Calls Tryd.prog 24 #[zz x y, zz u v] w fun e w' => e = .returned (.tuple #[.int .i64 (tim (pz x y) (pz u v)).1, .int .i64 (tim (pz x y) (pz u v)).2, .int .i64 (timE (pz x y) (pz u v))]) ∧ Below w.heap.size w w' := (rtimes_any x y u v w).mono fun _ _ ⟨he, hg⟩ => ⟨he, hg.below⟩
theorem rcmp_b (x y u v : Nat) (w : World) : Calls Tryd.prog 26 #[zz x y, zz u v] w fun e w' => e = .returned (.int .i64 (cmpG (pz x y) (pz u v))) ∧ Below w.heap.size w w' := (rcmp14_any x y u v w).mono fun _ _ ⟨he, hg⟩ => ⟨he, hg.below⟩
theorem rparse_b (s : ByteArray) (w : World) (hs : s.size ≤ 9223372036854775806) : Calls Tryd.prog 22 #[.string s] w fun e w' => e = .returned (.tuple #[.int .i64 (parG (nums s)).1, .int .i64 (parG (nums s)).2, .int .i64 (parF (nums s))]) ∧ Below w.heap.size w w' := (rparse14_any s w hs).mono fun _ _ ⟨he, hg⟩ => ⟨he, hg.below⟩
end Go.Proofs.YtpkofpgdnbkknaaDoor
