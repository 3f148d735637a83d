/- The contracts of package gauss. -/
import Derived.Test.YtpkofpgdnbkknaaDoorDd14
namespace Go.Proofs.YtpkofpgdnbkknaaDoor
open Go.RowKit

/-- A float is stored as any cell. -/
theorem st_float (a : Addr) (k : FloatKind) (x : Nat) (m : Mode) (W : World) : (store a (.float k x) m).run Tryd.prog W = stored Tryd.prog W a (.float k x) m := run_store Tryd.prog W a _ m rfl
theorem bel_same {f : FuncId} {args : Array Value} {w : World} {v : Value} (h : Calls Tryd.prog f args w fun e w' => e = .returned v ∧ w' = w) : Calls Tryd.prog f args w fun e w' => e = .returned v ∧ Below w.heap.size w w' :=
  h.mono fun _ _ ⟨he, hw⟩ => ⟨he, by rw [hw]; exact Below.refl _ _⟩
theorem bel_gr {f : FuncId} {args : Array Value} {w : World} {v : Value} (h : Calls Tryd.prog f args w fun e w' => e = .returned v ∧ Gr w w') : Calls Tryd.prog f args w fun e w' => e = .returned v ∧ Below w.heap.size w w' :=
  h.mono fun _ _ ⟨he, hw⟩ => ⟨he, hw.below⟩
theorem gfits_any (x y : Nat) (w : World) (_ : Ly w) : Calls Tryd.prog 17 #[cc x y] w fun e w' => e = .returned (.bool (pz x y).isSome) ∧ Below w.heap.size w w' := bel_same (gfits_w x y w)
theorem gshow_any (x y : Nat) (w : World) (hL : Ly w) : Calls Tryd.prog 9 #[cc x y] w fun e w' => e = .returned (.tuple #[.string (shZ (pz x y)), .int .i64 (errZ (pz x y))]) ∧ Below w.heap.size w w' := gshow_w x y w hL
theorem gnorm_any (x y : Nat) (w : World) (_ : Ly w) : Calls Tryd.prog 18 #[cc x y] w fun e w' => e = .returned (.int .i64 (nrm (pz x y))) ∧ Below w.heap.size w w' := bel_same (gnorm_w x y w)
theorem gturn_any (x y : Nat) (n : Int) : ∃ x' y', IsZ x' y' (trn n (pz x y)) ∧ ∀ w, Ly w → Calls Tryd.prog 13 #[cc x y, .int .i64 n] w fun e w' => e = .returned (.tuple #[cc x' y', .int .i64 (errZ (pz x y))]) ∧ Below w.heap.size w w' := by
  have hi := trn_in n x y
  exact ⟨_, _, isZ_of (trn n (pz x y)).1 (trn n (pz x y)).2 hi.1 hi.2.1 hi.2.2.1 hi.2.2.2, fun w _ => bel_same (gturn_w x y n w)⟩
theorem gtimes_any (x y u v : Nat) : ∃ x' y', IsZ x' y' (tim (pz x y) (pz u v)) ∧ ∀ w, Ly w → Calls Tryd.prog 23 #[cc x y, cc u v] w fun e w' => e = .returned (.tuple #[cc x' y', .int .i64 (timE (pz x y) (pz u v))]) ∧ Below w.heap.size w w' := by
  have hi := tim_bnd x y u v
  exact ⟨_, _, isZ_of (tim (pz x y) (pz u v)).1 (tim (pz x y) (pz u v)).2 hi.1 hi.2.1 hi.2.2.1 hi.2.2.2, fun w _ => bel_same (gtimes_w x y u v w)⟩
theorem gcmp_any (x y u v : Nat) (w : World) (_ : Ly w) : Calls Tryd.prog 25 #[cc x y, cc u v] w fun e w' => e = .returned (.int .i64 (cmpG (pz x y) (pz u v))) ∧ Below w.heap.size w w' := bel_same (gcmp_w x y u v w)
theorem gparse_any (s : ByteArray) (hs : s.size ≤ 9223372036854775806) : ∃ x' y', IsZ x' y' (parG (nums s)) ∧ ∀ w, Ly w → Calls Tryd.prog 21 #[.string s] w fun e w' => e = .returned (.tuple #[cc x' y', .int .i64 (parF (nums s))]) ∧ Below w.heap.size w w' := by
  have hi := parG_in (nums s)
  exact ⟨_, _, isZ_of (parG (nums s)).1 (parG (nums s)).2 hi.1 hi.2.1 hi.2.2.1 hi.2.2.2, fun w _ => bel_gr (gparse_w s w hs)⟩
end Go.Proofs.YtpkofpgdnbkknaaDoor
