/- The sort of runes: reverseRange. -/
import Derived.Test.YtnlkefdicpeemaaIns
namespace Go.Proofs.Ytnlkefdicpeemaa
open Go.RowKit
open Go.Sort (Holds ltInt swp PermIn SortedIn)

theorem Hid.perm {a b : Nat} {d dk : Array Int} (h : Hid (PermIn a b d dk)) : PermIn a b d dk := h

set_option maxHeartbeats 1600000 in
theorem rev_any (blk off cap a b : Nat) (d : Array Int) (w0 w : World) (hR : Rw w0 blk off d w) (hab : a < b) (hb : b ≤ d.size) (hsz : d.size ≤ 60000) :
    Calls Try.prog 41 #[.slice (some ⟨blk, off, none⟩) d.size cap, .int .i64 a, .int .i64 b] w fun e w' => e = .returned (.tuple #[]) ∧ ∃ d', Rw w0 blk off d' w' ∧ PermIn a b d d' := by
  have RR := hide hR
  have PP := hide (Go.Sort.permIn_refl d a b)
  clear hR
  generalize hsn : d.size = sz at *
  have SN := hide hsn
  clear hsn
  have hw0 : IntKind.i64.wrap ((b : Int) - 1) = (b : Int) - 1 := by rw [IntKind.wrap_i64]; omega
  go_enter Try.func41, Try.ntmps41
  go_wp2
  go_loopw [6, 7] (fun x y wr => ∃ (i j : Nat) (dk : Array Int), x = .int .i64 i ∧ y = .int .i64 j ∧ a ≤ i ∧ j < b ∧ i ≤ b ∧ Hid (dk.size = sz) ∧ Hid (Rw w0 blk off dk wr) ∧ Hid (PermIn a b d dk)) (fun x y _ => (intOf y - intOf x).toNat)
  case atStart => exact ⟨a, b - 1, d, rfl, by congr 1; omega, Nat.le_refl _, by omega, by omega, SN, RR, PP⟩
  case round =>
    obtain ⟨i, j, dk, rfl, rfl, hai, hjb, hib, SK, RK, PK⟩ := hrel
    by_cases hlt : i < j
    · have hltz : (i : Int) < (j : Int) := by omega
      have h1 : (0 : Int) ≤ (i : Int) := by omega
      have h2 : (i : Int) < (sz : Int) := by omega
      have h3 : (0 : Int) ≤ (j : Int) := by omega
      have h4 : (j : Int) < (sz : Int) := by omega
      have hw1 : IntKind.i64.wrap ((j : Int) - 1) = (j : Int) - 1 := by rw [IntKind.wrap_i64]; omega
      have sk := unhide SK
      have k1 := (unhide RK).cell (i := i) (by omega)
      have k2 := (unhide RK).cell (i := j) (by omega)
      have f1 := (unhide RK).fro (i := i) (by omega)
      have f2 := (unhide RK).fro (i := j) (by omega)
      have HSW := hide (fun n x y => ((unhide RK).drewN n).swap (i := i) (j := j) (by omega) (by omega) (x := x) (y := y))
      have HP := hide (Go.Sort.permIn_trans _ _ _ _ _ (unhide PK) (Go.Sort.swp_permIn dk a b i j hai (by omega) (by omega) hjb (by omega)))
      clear sk
      generalize dk[i]! = x at *
      generalize dk[j]! = y at *
      go_wp2
      go_region
      go_wp2
      go_roundw
      case rel => exact ⟨i + 1, j - 1, swp dk i j, by go_num, by congr 1; omega, by omega, by omega, by omega, by show (swp dk i j).size = sz; rw [Go.Sort.swp_size]; exact unhide SK, unhide HSW 1 y x rfl rfl, HP⟩
      case measure => simp [intOf]; omega
    · have hltz : ¬ (i : Int) < (j : Int) := by omega
      go_wp2
      go_end0
      exact ⟨rfl, dk, unhide RK, unhide PK⟩
end Go.Proofs.Ytnlkefdicpeemaa
