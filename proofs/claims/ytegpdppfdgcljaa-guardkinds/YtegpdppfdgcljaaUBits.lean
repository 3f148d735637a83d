/- Bits of small numbers, and the contract of the first byte's bits. -/
import Derived.Test.YtegpdppfdgcljaaULeaf
import Derived.Laws.DeepBits32
namespace Go.Proofs.Ytegpdppfdgcljaa
open Go.RowKit

theorem ofInt_i32 (a : Nat) (ha : a < 2147483648) : (BitVec.ofInt 32 (a : Int)).toNat = a := by
  rw [BitVec.ofInt_natCast, BitVec.toNat_ofNat]; exact Nat.mod_eq_of_lt (by omega)
theorem i32_and63 (x : Int) (h0 : 0 ≤ x) (h1 : x < 2147483648) : bits .and .i32 x 63 = x % 64 := by
  obtain ⟨a, rfl⟩ := Int.eq_ofNat_of_zero_le h0
  have ha : a < 2147483648 := by omega
  show IntKind.i32.wrap ((BitVec.ofInt 32 (a : Int) &&& BitVec.ofInt 32 ((63 : Nat) : Int)).toNat : Int) = _
  rw [BitVec.toNat_and, ofInt_i32 a ha, ofInt_i32 63 (by omega), nat_mask6, wrap_i32_small _ (by omega) (by omega)]
  omega
theorem i32_or64 (x y : Int) (h0 : 0 ≤ x) (h1 : x < 16777216) (h2 : 0 ≤ y) (h3 : y < 64) : bits .or .i32 (x * 64) y = 64 * x + y := by
  obtain ⟨a, rfl⟩ := Int.eq_ofNat_of_zero_le h0
  obtain ⟨b, rfl⟩ := Int.eq_ofNat_of_zero_le h2
  have e : (a : Int) * 64 = ((64 * a : Nat) : Int) := by omega
  rw [e]
  show IntKind.i32.wrap ((BitVec.ofInt 32 ((64 * a : Nat) : Int) ||| BitVec.ofInt 32 (b : Int)).toNat : Int) = _
  rw [BitVec.toNat_or, ofInt_i32 _ (by omega), ofInt_i32 b (by omega), nat_join 6 (64 * a) b (by omega) (by omega), wrap_i32_small _ (by omega) (by omega)]
  omega
theorem u8_or128 (y : Int) (h2 : 0 ≤ y) (h3 : y < 64) : bits .or .u8 128 y = 128 + y := by
  obtain ⟨b, rfl⟩ := Int.eq_ofNat_of_zero_le h2
  have := u8_or_nat 128 b (by omega) (by omega)
  rw [nat_join 6 128 b (by decide) (by omega)] at this
  simpa using this
theorem u8_or192 (y : Int) (h2 : 0 ≤ y) (h3 : y < 32) : bits .or .u8 192 y = 192 + y := by
  obtain ⟨b, rfl⟩ := Int.eq_ofNat_of_zero_le h2
  have := u8_or_nat 192 b (by omega) (by omega)
  rw [nat_join 5 192 b (by decide) (by omega)] at this
  simpa using this
theorem u8_or224 (y : Int) (h2 : 0 ≤ y) (h3 : y < 16) : bits .or .u8 224 y = 224 + y := by
  obtain ⟨b, rfl⟩ := Int.eq_ofNat_of_zero_le h2
  have := u8_or_nat 224 b (by omega) (by omega)
  rw [nat_join 4 224 b (by decide) (by omega)] at this
  simpa using this
theorem u8_or240 (y : Int) (h2 : 0 ≤ y) (h3 : y < 8) : bits .or .u8 240 y = 240 + y := by
  obtain ⟨b, rfl⟩ := Int.eq_ofNat_of_zero_le h2
  have := u8_or_nat 240 b (by omega) (by omega)
  rw [nat_join 3 240 b (by decide) (by omega)] at this
  simpa using this
theorem u8_or0 (y : Int) (h2 : 0 ≤ y) (h3 : y < 256) : bits .or .u8 0 y = y := by
  obtain ⟨b, rfl⟩ := Int.eq_ofNat_of_zero_le h2
  have := u8_or_nat 0 b (by omega) (by omega)
  simpa using this
theorem u8_and63 (y : Int) (h2 : 0 ≤ y) (h3 : y < 256) : bits .and .u8 y 63 = y % 64 := by
  obtain ⟨b, rfl⟩ := Int.eq_ofNat_of_zero_le h2
  have := u8_and_nat b 63 (by omega) (by omega)
  rw [nat_mask6] at this
  simpa using this
theorem u8_and31 (y : Int) (h2 : 0 ≤ y) (h3 : y < 256) : bits .and .u8 y 31 = y % 32 := by
  obtain ⟨b, rfl⟩ := Int.eq_ofNat_of_zero_le h2
  have := u8_and_nat b 31 (by omega) (by omega)
  rw [nat_mask5] at this
  simpa using this
theorem u8_and15 (y : Int) (h2 : 0 ≤ y) (h3 : y < 256) : bits .and .u8 y 15 = y % 16 := by
  obtain ⟨b, rfl⟩ := Int.eq_ofNat_of_zero_le h2
  have := u8_and_nat b 15 (by omega) (by omega)
  rw [nat_mask4] at this
  simpa using this
theorem u8_and7 (y : Int) (h2 : 0 ≤ y) (h3 : y < 256) : bits .and .u8 y 7 = y % 8 := by
  obtain ⟨b, rfl⟩ := Int.eq_ofNat_of_zero_le h2
  have := u8_and_nat b 7 (by omega) (by omega)
  rw [nat_mask3] at this
  simpa using this
theorem and192 : ∀ b : Fin 256, b.val &&& 192 = b.val / 64 * 64 := by decide +kernel
theorem u8_andNot63 (y : Int) (h2 : 0 ≤ y) (h3 : y < 256) : bits .andNot .u8 y 63 = y / 64 * 64 := by
  obtain ⟨b, rfl⟩ := Int.eq_ofNat_of_zero_le h2
  have := u8_andNot_nat b 63 (by omega) (by omega)
  have h := and192 ⟨b, by omega⟩
  simp only at h
  rw [show 255 - 63 = 192 from rfl, h] at this
  rw [show (63 : Int) = ((63 : Nat) : Int) from rfl, this]
  omega

/-- What the first byte holds, and how many bytes it begins. -/
def headR (b : Int) : Int := if b < 128 then b else if b < 192 ∨ 248 ≤ b then 0 else if b < 224 then b % 32 else if b < 240 then b % 16 else b % 8
def headN (b : Int) : Int := if b < 128 then 1 else if b < 192 ∨ 248 ≤ b then 0 else if b < 224 then 2 else if b < 240 then 3 else 4

theorem ret_two {k k' : IntKind} {a b c d : Int} (h : a = b) (h' : c = d) : Ending.returned (.tuple #[.int k a, .int k' c]) = .returned (.tuple #[.int k b, .int k' d]) := by rw [h, h']

set_option maxHeartbeats 400000 in
theorem head_any (b : Int) (w : World) (h0 : 0 ≤ b) (h1 : b < 256) :
    Calls Try.prog 43 #[.int .u8 b] w fun e w' => e = .returned (.tuple #[.int .i32 (headR b), .int .i64 (headN b)]) ∧ w' = w := by
  have e31 := u8_and31 b h0 h1
  have e15 := u8_and15 b h0 h1
  have e7 := u8_and7 b h0 h1
  unfold headR headN
  by_cases a1 : b < 128
  · go_enter Try.func43, Try.ntmps43
    go_wp2
    go_ret2
    exact ⟨ret_two (by simp) (by simp), rfl⟩
  have a1' : 128 ≤ b := by omega
  by_cases a2 : b < 192
  · go_enter Try.func43, Try.ntmps43
    go_wp2
    go_ret2
    exact ⟨ret_two (by simp [*]) (by simp [*]), rfl⟩
  have a2' : 192 ≤ b := by omega
  by_cases a3 : 248 ≤ b
  · go_enter Try.func43, Try.ntmps43
    go_wp2
    go_ret2
    exact ⟨ret_two (by simp [*]) (by simp [*]), rfl⟩
  have a3' : b < 248 := by omega
  have a4 : ¬ (b < 192 ∨ 248 ≤ b) := by omega
  rw [if_neg a1, if_neg a4, if_neg a1, if_neg a4]
  clear a4 a1 a2 a3
  go_enter Try.func43, Try.ntmps43
  go_wp2
  all_goals (go_ret2; exact ⟨ret_two (by simp [*]) (by simp [*]), rfl⟩)
end Go.Proofs.Ytegpdppfdgcljaa
