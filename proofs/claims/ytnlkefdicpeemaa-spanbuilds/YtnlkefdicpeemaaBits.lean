/- math/bits.Len of small numbers, as far as the sort asks; nextPowerOfTwo, the sort's random numbers. -/
import Derived.Test.YtnlkefdicpeemaaLeaf
import Derived.Deep.Cut
namespace Go.Proofs.Ytnlkefdicpeemaa
open Go.RowKit

/-- How many bits the numbers below 256 have. -/
def lens : ByteArray := ⟨#[
    0, 1, 2, 2, 3, 3, 3, 3, 4, 4, 4, 4, 4, 4, 4, 4, 5, 5, 5, 5, 5, 5, 5, 5, 5, 5, 5, 5, 5, 5, 5, 5,
    6, 6, 6, 6, 6, 6, 6, 6, 6, 6, 6, 6, 6, 6, 6, 6, 6, 6, 6, 6, 6, 6, 6, 6, 6, 6, 6, 6, 6, 6, 6, 6,
    7, 7, 7, 7, 7, 7, 7, 7, 7, 7, 7, 7, 7, 7, 7, 7, 7, 7, 7, 7, 7, 7, 7, 7, 7, 7, 7, 7, 7, 7, 7, 7,
    7, 7, 7, 7, 7, 7, 7, 7, 7, 7, 7, 7, 7, 7, 7, 7, 7, 7, 7, 7, 7, 7, 7, 7, 7, 7, 7, 7, 7, 7, 7, 7,
    8, 8, 8, 8, 8, 8, 8, 8, 8, 8, 8, 8, 8, 8, 8, 8, 8, 8, 8, 8, 8, 8, 8, 8, 8, 8, 8, 8, 8, 8, 8, 8,
    8, 8, 8, 8, 8, 8, 8, 8, 8, 8, 8, 8, 8, 8, 8, 8, 8, 8, 8, 8, 8, 8, 8, 8, 8, 8, 8, 8, 8, 8, 8, 8,
    8, 8, 8, 8, 8, 8, 8, 8, 8, 8, 8, 8, 8, 8, 8, 8, 8, 8, 8, 8, 8, 8, 8, 8, 8, 8, 8, 8, 8, 8, 8, 8,
    8, 8, 8, 8, 8, 8, 8, 8, 8, 8, 8, 8, 8, 8, 8, 8, 8, 8, 8, 8, 8, 8, 8, 8, 8, 8, 8, 8, 8, 8, 8, 8]⟩

set_option maxRecDepth 100000 in
theorem lens_all : ∀ x : Fin 256, (lens.data.getD x.1 0).toNat ≤ 8 ∧ 2 ^ (lens.data.getD x.1 0).toNat ≤ 2 * x.1 + (if x.1 = 0 then 1 else 0) := by decide +kernel
theorem lens_size : lens.size = 256 := by kernel_rfl
theorem lens_ok (x : Nat) (h : x < lens.size) : (lens[x]).toNat ≤ 8 ∧ 2 ^ (lens[x]).toNat ≤ 2 * x + (if x = 0 then 1 else 0) := by
  have h1 := lens_all ⟨x, by rw [lens_size] at h; exact h⟩
  have h2 : lens.data.getD x 0 = lens[x] := by
    simp only [Array.getD]
    rw [dif_pos (show x < lens.data.size from h)]
    rfl
  rwa [h2] at h1

set_option maxRecDepth 1000000 in
set_option maxHeartbeats 800000 in
theorem len64_small (x : Nat) (w : World) (hx : x < 256) :
    Calls Try.prog 47 #[.int .u64 x] w fun e w' => ∃ k : Nat, e = .returned (.int .i64 k) ∧ k ≤ 16 ∧ 2 ^ k ≤ 2 * x + 1 ∧ w' = w := by
  have h1 : ¬ (4294967296 : Int) ≤ (x : Int) := by omega
  have h2 : ¬ (65536 : Int) ≤ (x : Int) := by omega
  have h3 : ¬ (256 : Int) ≤ (x : Int) := by omega
  have h4 : (x : Int) % 256 = x := by omega
  have hx9 : x < lens.size := by rw [lens_size]; exact hx
  obtain ⟨k1, k2⟩ := lens_ok x hx9
  go_enter Try.func47, Try.ntmps47
  go_wp2
  go_ret
  refine ⟨(lens[x]'hx9).toNat, ?_, by omega, Nat.le_trans k2 (by split <;> omega), rfl⟩
  have h5 : wrap64 (wrap64 ((lens[x]'hx9).toNat : Int)) = ((lens[x]'hx9).toNat : Int) := by simp [wrap64]; omega
  exact ret_int h5

set_option maxRecDepth 1000000 in
set_option maxHeartbeats 800000 in
theorem len64_more (x : Nat) (w : World) (hx : 256 ≤ x) (hx2 : x < 65536) :
    Calls Try.prog 47 #[.int .u64 x] w fun e w' => ∃ k : Nat, e = .returned (.int .i64 k) ∧ k ≤ 16 ∧ 2 ^ k ≤ 2 * x + 1 ∧ w' = w := by
  have h1 : ¬ (4294967296 : Int) ≤ (x : Int) := by omega
  have h2 : ¬ (65536 : Int) ≤ (x : Int) := by omega
  have h3 : (256 : Int) ≤ (x : Int) := by omega
  obtain ⟨y, hy⟩ : ∃ y, y = x / 256 := ⟨_, rfl⟩
  have h4 : ((x : Int) / 256) % 256 = y := by omega
  have h5 : (x : Int) / 256 = y := by omega
  have hy2 : y < 256 := by omega
  have hy9 : y < lens.size := by rw [lens_size]; exact hy2
  obtain ⟨k1, k2⟩ := lens_ok y hy9
  have hxy : 256 * y ≤ x := by omega
  have HY := hide hy
  clear hy
  go_enter Try.func47, Try.ntmps47
  go_upto_region 10 with fail
  clear h1 h2 h3 h4 h5
  have h6 : (y : Int) % 256 = y := by omega
  go_wp2
  go_ret
  have hp : 2 ^ (8 + (lens[y]'hy9).toNat) = 256 * 2 ^ (lens[y]'hy9).toNat := by rw [Nat.pow_add]
  rw [if_neg (by have := unhide HY; omega)] at k2
  have hp2 : 256 * 2 ^ (lens[y]'hy9).toNat ≤ 256 * (2 * y) := Nat.mul_le_mul_left _ k2
  refine ⟨8 + (lens[y]'hy9).toNat, ?_, by omega, ?_, rfl⟩
  · have h5 : wrap64 (8 + wrap64 ((lens[y]'hy9).toNat : Int)) = ((8 + (lens[y]'hy9).toNat : Nat) : Int) := by simp [wrap64]; omega
    exact ret_int h5
  · rw [hp]
    omega

set_option maxRecDepth 1000000 in
set_option maxHeartbeats 400000 in
/-- bits.Len of a small number. -/
theorem len_any (x : Nat) (w : World) (hx : x < 65536) :
    Calls Try.prog 36 #[.int .u64 x] w fun e w' => ∃ k : Nat, e = .returned (.int .i64 k) ∧ k ≤ 16 ∧ 2 ^ k ≤ 2 * x + 1 ∧ w' = w := by
  have h64 : Calls Try.prog 47 #[.int .u64 x] w fun e w' => ∃ k : Nat, e = .returned (.int .i64 k) ∧ k ≤ 16 ∧ 2 ^ k ≤ 2 * x + 1 ∧ w' = w := by
    by_cases h : x < 256
    · exact len64_small x w h
    · exact len64_more x w (by omega) hx
  have hx1 : (x : Int) < 18446744073709551616 := by omega
  have H64 := hide h64
  clear h64 hx1 hx
  go_enter Try.func36, Try.ntmps36
  go_wp2_with (go_at_call 47; refine (unhide H64).mono ?_; rintro e w' ⟨k, rfl, h1, h2, rfl⟩)
  go_ret
  exact ⟨k, rfl, h1, h2, rfl⟩

set_option maxRecDepth 1000000 in
set_option maxHeartbeats 400000 in
theorem pow2_any (x : Nat) (w : World) (hx : x < 65536) :
    Calls Try.prog 49 #[.int .i64 x] w fun e w' => ∃ k : Nat, e = .returned (.int .u64 ((2 ^ k : Nat) : Int)) ∧ k ≤ 16 ∧ 2 ^ k ≤ 2 * x + 1 ∧ w' = w := by
  have hx1 : (x : Int) < 18446744073709551616 := by omega
  have hx2 : (x : Int) % 18446744073709551616 = x := by omega
  go_enter Try.func49, Try.ntmps49
  go_wp2_with (go_at_call 36; refine (len_any x _ hx).mono ?_; rintro e w' ⟨k, rfl, h1, h2, rfl⟩)
  go_ret
  refine ⟨k, ?_, h1, h2, rfl⟩
  have h3 : 2 ^ k ≤ 2 ^ 16 := Nat.pow_le_pow_right (by omega) h1
  have h4 : ((2 ^ k : Nat) : Int) = (2 : Int) ^ k := Int.natCast_pow 2 k
  have h5 : IntKind.u64.wrap ((2 : Int) ^ k) = ((2 ^ k : Nat) : Int) := by
    rw [← h4]
    generalize 2 ^ k = z at *
    simp [IntKind.wrap, IntKind.bits, IntKind.signed]
    omega
  exact ret_int h5
end Go.Proofs.Ytnlkefdicpeemaa
