/- Plain mathematics of UTF-8: code points, their bytes, and what bytes are read as. Nothing of the program. -/
import Derived.Test.YtefobkgifigclaaGreatDoorM01
import Derived.WalkKit
import Derived.Test.YtefobkgifigclaaGreatDoorProg
import Derived.WalkSpells
import Derived.WalkLawsBesides
import Derived.Laws.DeepBits32
namespace Go.Proofs.YtefobkgifigclaaGreatDoor
set_option maxRecDepth 100000
open Go.RowKit

/-- A code point. -/
def isPt (r : Int) : Bool := decide ((0 ≤ r ∧ r < 55296) ∨ (57343 < r ∧ r ≤ 1114111))

theorem isPt_iff (r : Int) : isPt r = true ↔ (0 ≤ r ∧ r < 55296) ∨ (57343 < r ∧ r ≤ 1114111) := by unfold isPt; simp
theorem isPt_not (r : Int) : isPt r = false ↔ (r < 0 ∨ (55296 ≤ r ∧ r ≤ 57343) ∨ 1114111 < r) := by
  unfold isPt; rw [decide_eq_false_iff_not]; omega
theorem isPt_lo {r : Int} (h : isPt r = true) : 0 ≤ r ∧ r ≤ 1114111 := by rw [isPt_iff] at h; omega

/-- How many bytes. -/
def lenOf (r : Int) : Int := if isPt r then (if r < 128 then 1 else if r < 2048 then 2 else if r < 65536 then 3 else 4) else 0

/-- The bytes of a code point. -/
def enc1 (r : Int) : List Int :=
  if r < 128 then [r] else if r < 2048 then [192 + r / 64, 128 + r % 64]
  else if r < 65536 then [224 + r / 4096, 128 + r / 64 % 64, 128 + r % 64]
  else [240 + r / 262144, 128 + r / 4096 % 64, 128 + r / 64 % 64, 128 + r % 64]

theorem enc1_len {r : Int} (h : isPt r = true) : ((enc1 r).length : Int) = lenOf r := by
  unfold enc1 lenOf
  rw [if_pos h]
  split
  · rfl
  · split
    · rfl
    · split <;> rfl

/-- The bytes of several. -/
def encL : List Int → List Int
  | [] => []
  | r :: l => enc1 r ++ encL l

theorem encL_append (a b : List Int) : encL (a ++ b) = encL a ++ encL b := by
  induction a with
  | nil => rfl
  | cons r a ih => simp [encL, ih, List.append_assoc]
theorem enc1_bound (r : Int) : (enc1 r).length ≤ 4 := by
  unfold enc1
  split
  · simp
  · split
    · simp
    · split <;> simp
theorem encL_bound (l : List Int) : (encL l).length ≤ 4 * l.length := by
  induction l with
  | nil => simp [encL]
  | cons r l ih => have := enc1_bound r; simp [encL]; omega

def okL (l : List Int) : Bool := l.all isPt

end Go.Proofs.YtefobkgifigclaaGreatDoor
/- Contracts of the small functions: Point, Length, headMark, head, and the document's Point. -/
namespace Go.Proofs.YtefobkgifigclaaGreatDoor
set_option maxRecDepth 100000
open Go.RowKit

set_option maxHeartbeats 400000 in
theorem point_yes (r : Int) (w : World) (h : isPt r = true) :
    Calls Tryz.prog 166 #[.int .i32 r] w fun e w' => e = .returned (.bool true) ∧ w' = w := by
  rw [isPt_iff] at h
  rcases h with ⟨h1, h2⟩ | ⟨h1, h2⟩
  · go_enter Tryz.func166, Tryz.ntmps166
    go_wp2
    go_ret
    exact ⟨rfl, rfl⟩
  · have h3 : 0 ≤ r := by omega
    have h4 : ¬ r < 55296 := by omega
    go_enter Tryz.func166, Tryz.ntmps166
    go_wp2
    go_ret
    exact ⟨rfl, rfl⟩

set_option maxHeartbeats 400000 in
theorem point_no (r : Int) (w : World) (h : isPt r = false) :
    Calls Tryz.prog 166 #[.int .i32 r] w fun e w' => e = .returned (.bool false) ∧ w' = w := by
  rw [isPt_not] at h
  rcases h with h1 | ⟨h1, h2⟩ | h1
  · have h3 : ¬ 57343 < r := by omega
    go_enter Tryz.func166, Tryz.ntmps166
    go_wp2
    go_ret
    exact ⟨rfl, rfl⟩
  · have h3 : 0 ≤ r := by omega
    go_enter Tryz.func166, Tryz.ntmps166
    go_wp2
    go_ret
    exact ⟨ret_bool (by simp; omega), rfl⟩
  · have h3 : 0 ≤ r := by omega
    have h4 : 57343 < r := by omega
    have h5 : ¬ r < 55296 := by omega
    go_enter Tryz.func166, Tryz.ntmps166
    go_wp2
    go_ret
    exact ⟨ret_bool (by simp; omega), rfl⟩

theorem point_any (r : Int) (w : World) :
    Calls Tryz.prog 166 #[.int .i32 r] w fun e w' => e = .returned (.bool (isPt r)) ∧ w' = w := by
  cases h : isPt r
  · exact point_no r w h
  · exact point_yes r w h

set_option maxHeartbeats 400000 in
theorem length_any (r : Int) (w : World) :
    Calls Tryz.prog 125 #[.int .i32 r] w fun e w' => e = .returned (.int .i64 (lenOf r)) ∧ w' = w := by
  cases h : isPt r
  · have hl : lenOf r = 0 := by unfold lenOf; simp [h]
    rw [hl]
    clear hl
    go_enter Tryz.func125, Tryz.ntmps125
    go_wp2_with (go_at_call 166; refine (point_no _ _ h).mono ?_; rintro e w' ⟨rfl, rfl⟩)
    go_ret
    exact ⟨rfl, rfl⟩
  · have hl : lenOf r = (if r < 128 then 1 else if r < 2048 then 2 else if r < 65536 then 3 else 4) := by unfold lenOf; simp [h]
    rw [hl]
    clear hl
    go_enter Tryz.func125, Tryz.ntmps125
    go_wp2_with (go_at_call 166; refine (point_yes _ _ h).mono ?_; rintro e w' ⟨rfl, rfl⟩)
    all_goals (go_ret; exact ⟨ret_int (by simp; try omega), rfl⟩)

/-- What the first of n bytes holds beside bits of its code point. -/
def markOf (n : Int) : Int := if n = 2 then 192 else if n = 3 then 224 else if n = 4 then 240 else 0

set_option maxHeartbeats 400000 in
theorem headMark_any (n : Int) (w : World) :
    Calls Tryz.prog 126 #[.int .i64 n] w fun e w' => e = .returned (.int .u8 (markOf n)) ∧ w' = w := by
  unfold markOf
  go_enter Tryz.func126, Tryz.ntmps126
  go_wp2
  all_goals (go_ret; exact ⟨ret_int (by simp_all), rfl⟩)

end Go.Proofs.YtefobkgifigclaaGreatDoor
/- Contracts of the document's bytes of a code point, and its length. -/
namespace Go.Proofs.YtefobkgifigclaaGreatDoor
set_option maxRecDepth 100000
open Go.RowKit

theorem ret_str {a b : ByteArray} (h : a = b) : Ending.returned (.string a) = .returned (.string b) := by rw [h]

theorem conv_new (w : World) (xs : List Int) (C : Array Value) (n c : Nat) (hC : C = (xs.map (Value.int .u8)).toArray) (hn : xs.length = n) :
    (convert 84 9 (.slice (some ⟨w.heap.size, 0, none⟩) n c)).run Tryz.prog (w.alloc (.cells C 5)) = .ok (.string (strOfNums xs)) (w.alloc (.cells C 5)) := by
  subst hC
  refine run_convert_bytes_arg (w.alloc _) 84 5 Tryz.underlying84 Tryz.underlying5 w.heap.size 0 n c xs hn ?_ 9 Tryz.underlying9
  intro i hi
  have hi' : i < xs.length := by omega
  rw [World.cell?_alloc_mark]
  simp [List.getD, hi']

end Go.Proofs.YtefobkgifigclaaGreatDoor
/- Contracts of the document's guess, and of the program's first byte. -/
namespace Go.Proofs.YtefobkgifigclaaGreatDoor
set_option maxRecDepth 100000
open Go.RowKit

/-- A text's bytes, as numbers. -/
def nums (t : ByteArray) : List Int := t.data.toList.map fun b => (b.toNat : Int)
theorem nums_length (t : ByteArray) : (nums t).length = t.size := by simp [nums]
theorem nums_bound (t : ByteArray) : ∀ x ∈ nums t, 0 ≤ x ∧ x < 256 := by
  intro x hx
  simp only [nums, List.mem_map] at hx
  obtain ⟨b, _, rfl⟩ := hx
  have := b.toNat_lt
  omega
theorem nums_at (t : ByteArray) (k : Nat) (h : k < t.size) : (nums t).getD k 0 = (t[k].toNat : Int) := by
  have h' : k < t.data.toList.length := by simpa using h
  simp [nums, List.getD, h]
  rfl
theorem getD_bound (l : List Int) (hb : ∀ x ∈ l, 0 ≤ x ∧ x < 256) (k : Nat) : 0 ≤ l.getD k 0 ∧ l.getD k 0 < 256 := by
  by_cases h : k < l.length
  · simp only [List.getD, List.getElem?_eq_getElem h, Option.getD_some]
    exact hb _ (List.getElem_mem h)
  · simp [List.getD, List.getElem?_eq_none (Nat.le_of_not_lt h)]

/-- What the first byte tells, by how many bytes there are. -/
def gBase (n : Nat) (a : Int) : Int := if n = 2 then a % 32 else if n = 3 then a % 16 else if n = 4 then a % 8 else a
/-- The number that the first k bytes would be. -/
def gF (l : List Int) (base : Int) : Nat → Int
  | 0 => base
  | k + 1 => 64 * gF l base k + l.getD (k + 1) 0 % 64
def guessOf (l : List Int) : Int := gF l (gBase l.length (l.getD 0 0)) (l.length - 1)

theorem gF_bound (l : List Int) (base : Int) (h0 : 0 ≤ base) (h1 : base < 256) (hb : ∀ x ∈ l, 0 ≤ x ∧ x < 256) :
    ∀ k, k ≤ 3 → 0 ≤ gF l base k ∧ gF l base k < 67108864 := by
  intro k hk
  have b1 := getD_bound l hb 1
  have b2 := getD_bound l hb 2
  have b3 := getD_bound l hb 3
  match k, hk with
  | 0, _ => simp only [gF]; omega
  | 1, _ => simp only [gF]; omega
  | 2, _ => simp only [gF]; omega
  | 3, _ => simp only [gF]; omega
theorem gBase_bound (n : Nat) (a : Int) (h0 : 0 ≤ a) (h1 : a < 256) : 0 ≤ gBase n a ∧ gBase n a < 256 := by
  unfold gBase
  split
  · omega
  · split
    · omega
    · split <;> omega

end Go.Proofs.YtefobkgifigclaaGreatDoor
/- Bits of small numbers, and the contract of the first byte's bits. -/
namespace Go.Proofs.YtefobkgifigclaaGreatDoor
set_option maxRecDepth 100000
open Go.RowKit

theorem ofInt_i32 (a : Nat) (ha : a < 2147483648) : (BitVec.ofInt 32 (a : Int)).toNat = a := by
  rw [BitVec.ofInt_natCast, BitVec.toNat_ofNat]; exact Nat.mod_eq_of_lt (by omega)
theorem i32_and63 (x : Int) (h0 : 0 ≤ x) (h1 : x < 2147483648) : bits .and .i32 x 63 = x % 64 := by
  obtain ⟨a, rfl⟩ := Int.eq_ofNat_of_zero_le h0
  have ha : a < 2147483648 := by omega
  show IntKind.i32.wrap ((BitVec.ofInt 32 (a : Int) &&& BitVec.ofInt 32 ((63 : Nat) : Int)).toNat : Int) = _
  rw [BitVec.toNat_and, ofInt_i32 a ha, ofInt_i32 63 (by omega), nat_mask6, wrap_i32_small _ (by omega) (by omega)]
  omega
theorem i32_or64 (x y : Int) (h0 : 0 ≤ x) (h1 : x < 16777216) (h2 : 0 ≤ y) (h3 : y < 64) : bits .or .i32 (x * 64) y = 64 * x + y := by
  obtain ⟨a, rfl⟩ := Int.eq_ofNat_of_zero_le h0
  obtain ⟨b, rfl⟩ := Int.eq_ofNat_of_zero_le h2
  have e : (a : Int) * 64 = ((64 * a : Nat) : Int) := by omega
  rw [e]
  show IntKind.i32.wrap ((BitVec.ofInt 32 ((64 * a : Nat) : Int) ||| BitVec.ofInt 32 (b : Int)).toNat : Int) = _
  rw [BitVec.toNat_or, ofInt_i32 _ (by omega), ofInt_i32 b (by omega), nat_join 6 (64 * a) b (by omega) (by omega), wrap_i32_small _ (by omega) (by omega)]
  omega
theorem u8_or128 (y : Int) (h2 : 0 ≤ y) (h3 : y < 64) : bits .or .u8 128 y = 128 + y := by
  obtain ⟨b, rfl⟩ := Int.eq_ofNat_of_zero_le h2
  have := u8_or_nat 128 b (by omega) (by omega)
  rw [nat_join 6 128 b (by decide) (by omega)] at this
  simpa using this
theorem u8_or192 (y : Int) (h2 : 0 ≤ y) (h3 : y < 32) : bits .or .u8 192 y = 192 + y := by
  obtain ⟨b, rfl⟩ := Int.eq_ofNat_of_zero_le h2
  have := u8_or_nat 192 b (by omega) (by omega)
  rw [nat_join 5 192 b (by decide) (by omega)] at this
  simpa using this
theorem u8_or224 (y : Int) (h2 : 0 ≤ y) (h3 : y < 16) : bits .or .u8 224 y = 224 + y := by
  obtain ⟨b, rfl⟩ := Int.eq_ofNat_of_zero_le h2
  have := u8_or_nat 224 b (by omega) (by omega)
  rw [nat_join 4 224 b (by decide) (by omega)] at this
  simpa using this
theorem u8_or240 (y : Int) (h2 : 0 ≤ y) (h3 : y < 8) : bits .or .u8 240 y = 240 + y := by
  obtain ⟨b, rfl⟩ := Int.eq_ofNat_of_zero_le h2
  have := u8_or_nat 240 b (by omega) (by omega)
  rw [nat_join 3 240 b (by decide) (by omega)] at this
  simpa using this
theorem u8_or0 (y : Int) (h2 : 0 ≤ y) (h3 : y < 256) : bits .or .u8 0 y = y := by
  obtain ⟨b, rfl⟩ := Int.eq_ofNat_of_zero_le h2
  have := u8_or_nat 0 b (by omega) (by omega)
  simpa using this
theorem u8_and63 (y : Int) (h2 : 0 ≤ y) (h3 : y < 256) : bits .and .u8 y 63 = y % 64 := by
  obtain ⟨b, rfl⟩ := Int.eq_ofNat_of_zero_le h2
  have := u8_and_nat b 63 (by omega) (by omega)
  rw [nat_mask6] at this
  simpa using this
theorem u8_and31 (y : Int) (h2 : 0 ≤ y) (h3 : y < 256) : bits .and .u8 y 31 = y % 32 := by
  obtain ⟨b, rfl⟩ := Int.eq_ofNat_of_zero_le h2
  have := u8_and_nat b 31 (by omega) (by omega)
  rw [nat_mask5] at this
  simpa using this
theorem u8_and15 (y : Int) (h2 : 0 ≤ y) (h3 : y < 256) : bits .and .u8 y 15 = y % 16 := by
  obtain ⟨b, rfl⟩ := Int.eq_ofNat_of_zero_le h2
  have := u8_and_nat b 15 (by omega) (by omega)
  rw [nat_mask4] at this
  simpa using this
theorem u8_and7 (y : Int) (h2 : 0 ≤ y) (h3 : y < 256) : bits .and .u8 y 7 = y % 8 := by
  obtain ⟨b, rfl⟩ := Int.eq_ofNat_of_zero_le h2
  have := u8_and_nat b 7 (by omega) (by omega)
  rw [nat_mask3] at this
  simpa using this
theorem and192 : ∀ b : Fin 256, b.val &&& 192 = b.val / 64 * 64 := by decide +kernel
theorem u8_andNot63 (y : Int) (h2 : 0 ≤ y) (h3 : y < 256) : bits .andNot .u8 y 63 = y / 64 * 64 := by
  obtain ⟨b, rfl⟩ := Int.eq_ofNat_of_zero_le h2
  have := u8_andNot_nat b 63 (by omega) (by omega)
  have h := and192 ⟨b, by omega⟩
  simp only at h
  rw [show 255 - 63 = 192 from rfl, h] at this
  rw [show (63 : Int) = ((63 : Nat) : Int) from rfl, this]
  omega

/-- What the first byte holds, and how many bytes it begins. -/
def headR (b : Int) : Int := if b < 128 then b else if b < 192 ∨ 248 ≤ b then 0 else if b < 224 then b % 32 else if b < 240 then b % 16 else b % 8
def headN (b : Int) : Int := if b < 128 then 1 else if b < 192 ∨ 248 ≤ b then 0 else if b < 224 then 2 else if b < 240 then 3 else 4

theorem ret_two {k k' : IntKind} {a b c d : Int} (h : a = b) (h' : c = d) : Ending.returned (.tuple #[.int k a, .int k' c]) = .returned (.tuple #[.int k b, .int k' d]) := by rw [h, h']

set_option maxHeartbeats 400000 in
theorem head_any (b : Int) (w : World) (h0 : 0 ≤ b) (h1 : b < 256) :
    Calls Tryz.prog 155 #[.int .u8 b] w fun e w' => e = .returned (.tuple #[.int .i32 (headR b), .int .i64 (headN b)]) ∧ w' = w := by
  have e31 := u8_and31 b h0 h1
  have e15 := u8_and15 b h0 h1
  have e7 := u8_and7 b h0 h1
  unfold headR headN
  by_cases a1 : b < 128
  · go_enter Tryz.func155, Tryz.ntmps155
    go_wp2
    go_ret2
    exact ⟨ret_two (by simp) (by simp), rfl⟩
  have a1' : 128 ≤ b := by omega
  by_cases a2 : b < 192
  · go_enter Tryz.func155, Tryz.ntmps155
    go_wp2
    go_ret2
    exact ⟨ret_two (by simp [*]) (by simp [*]), rfl⟩
  have a2' : 192 ≤ b := by omega
  by_cases a3 : 248 ≤ b
  · go_enter Tryz.func155, Tryz.ntmps155
    go_wp2
    go_ret2
    exact ⟨ret_two (by simp [*]) (by simp [*]), rfl⟩
  have a3' : b < 248 := by omega
  have a4 : ¬ (b < 192 ∨ 248 ≤ b) := by omega
  rw [if_neg a1, if_neg a4, if_neg a1, if_neg a4]
  clear a4 a1 a2 a3
  go_enter Tryz.func155, Tryz.ntmps155
  go_wp2
  all_goals (go_ret2; exact ⟨ret_two (by simp [*]) (by simp [*]), rfl⟩)
end Go.Proofs.YtefobkgifigclaaGreatDoor
