/- The landed padded of layer 22: a number in so many digits. -/
import Derived.Test.YtefobkgifigclaaGreatDoorM41
import Derived.Test.YtefobkgifigclaaGreatDoorM01
import Derived.Test.YtefobkgifigclaaGreatDoorM25
import Derived.Test.YtefobkgifigclaaGreatDoorM27
import Derived.Test.YtefobkgifigclaaGreatDoorM26
import Derived.Test.YtefobkgifigclaaGreatDoorM24
import Derived.Laws.ComplexArith
namespace Go.Proofs.YtefobkgifigclaaGreatDoor
set_option maxRecDepth 100000
open Go.RowKit

theorem dgB_zero : ∀ k, dgB k 0 = List.replicate k 48
  | 0 => rfl
  | k + 1 => by
    rw [dgB, Nat.zero_div, dgB_zero k, List.replicate_succ']
    rfl
/-- The digits of a number, with 0 ahead. -/
theorem dgB_dec : ∀ (k u : Nat), u < 10 ^ (k + 1) → (Lib.decDigits u).length ≤ k + 1 ∧ List.replicate (k + 1 - (Lib.decDigits u).length) 48 ++ Lib.decDigits u = dgB (k + 1) u
  | k, u, h => by
    by_cases h10 : u < 10
    · have e : Lib.decDigits u = [UInt8.ofNat (48 + u)] := by rw [Lib.decDigits, dif_pos h10]
      rw [e, dgB, Nat.div_eq_of_lt h10, Nat.mod_eq_of_lt h10, dgB_zero]
      exact ⟨by simp, by simp⟩
    · cases k with
      | zero => omega
      | succ k =>
        have e : Lib.decDigits u = Lib.decDigits (u / 10) ++ [UInt8.ofNat (48 + u % 10)] := by rw [Lib.decDigits, dif_neg h10]
        obtain ⟨i1, i2⟩ := dgB_dec k (u / 10) (by rw [Nat.pow_succ] at h; omega)
        rw [e, dgB, ← i2, List.length_append, List.length_singleton]
        refine ⟨by omega, ?_⟩
        rw [show k + 1 + 1 - ((Lib.decDigits (u / 10)).length + 1) = k + 1 - (Lib.decDigits (u / 10)).length by omega, List.append_assoc]
theorem dec_pos22 (u : Nat) : 1 ≤ (Lib.decDigits u).length := by
  rw [Lib.decDigits_length]
  exact Lib.nDigits_pos u
set_option maxHeartbeats 1600000 in
theorem mul64_22 (k : Nat) (h0 : 2 ≤ k) (h1 : k ≤ 18) (w : World) : Calls Tryz.prog 146 #[.int .u64 1, .int .u64 (k : Int)] w fun e w' => e = .returned (.tuple #[.int .u64 0, .int .u64 (k : Int)]) ∧ w' = w := by
  have hn : k = 2 ∨ k = 3 ∨ k = 4 ∨ k = 5 ∨ k = 6 ∨ k = 7 ∨ k = 8 ∨ k = 9 ∨ k = 10 ∨ k = 11 ∨ k = 12 ∨ k = 13 ∨ k = 14 ∨ k = 15 ∨ k = 16 ∨ k = 17 ∨ k = 18 := by omega
  clear h0 h1
  rcases hn with rfl | rfl | rfl | rfl | rfl | rfl | rfl | rfl | rfl | rfl | rfl | rfl | rfl | rfl | rfl | rfl | rfl
  all_goals
    go_enter Tryz.func146, Tryz.ntmps146
    go_wp2
    refine bodyPost_ret (results_tmp2 rfl _ _ _) rfl ?_
    exact ⟨rfl, rfl⟩
theorem mul_22 (k : Nat) (h0 : 2 ≤ k) (h1 : k ≤ 18) (w : World) : Calls Tryz.prog 109 #[.int .u64 1, .int .u64 (k : Int)] w fun e w' => e = .returned (.tuple #[.int .u64 0, .int .u64 (k : Int)]) ∧ w' = w := by
  have C := hide (mul64_22 k h0 h1 w)
  go_enter Tryz.func109, Tryz.ntmps109
  go_wp2_with (go_at_call 146; refine (unhide C).mono ?_; rintro e w2 ⟨rfl, rfl⟩)
  refine bodyPost_ret (results_tmp2 rfl _ _ _) rfl ?_
  exact ⟨rfl, rfl⟩
theorem has22 (s p : ByteArray) (b : Bool) (h : Lib.hasPrefix s.data.toList p.data.toList = b) (w : World) : Calls Tryz.prog 50 #[.string s, .string p] w fun e w' => e = .returned (.bool b) ∧ w' = w := by
  have H := S14.haspre14 s p w
  rw [h] at H
  exact H
set_option maxHeartbeats 6400000 in
theorem rep22 (k : Nat) (h1 : k ≤ 18) (w : World) : Calls Tryz.prog 82 #[.string ⟨#[48]⟩, .int .i64 (k : Int)] w fun e w' => e = .returned (.string ⟨(List.replicate k (48 : UInt8)).toArray⟩) ∧ w' = w := by
  by_cases h0 : 2 ≤ k
  · have C := hide (mul_22 k h0 h1 w)
    have hn : k = 2 ∨ k = 3 ∨ k = 4 ∨ k = 5 ∨ k = 6 ∨ k = 7 ∨ k = 8 ∨ k = 9 ∨ k = 10 ∨ k = 11 ∨ k = 12 ∨ k = 13 ∨ k = 14 ∨ k = 15 ∨ k = 16 ∨ k = 17 ∨ k = 18 := by omega
    clear h0 h1
    rcases hn with rfl | rfl | rfl | rfl | rfl | rfl | rfl | rfl | rfl | rfl | rfl | rfl | rfl | rfl | rfl | rfl | rfl
    all_goals
      go_enter Tryz.func82, Tryz.ntmps82
      go_wp2_with (first
        | (go_at_call 50; have M := F2; refine (has22 _ _ true (by kernel_rfl) _).mono ?_; rintro e w2 ⟨rfl, rfl⟩)
        | (go_at_call 50; have M := F1; refine (has22 _ _ false (by kernel_rfl) _).mono ?_; rintro e w2 ⟨rfl, rfl⟩; have F2 := trivial)
        | (go_at_call 50; refine (has22 _ _ false (by kernel_rfl) _).mono ?_; rintro e w2 ⟨rfl, rfl⟩; have F1 := trivial)
        | (go_at_call 109; refine (unhide C).mono ?_; rintro e w2 ⟨rfl, rfl⟩))
      go_ret
      exact ⟨by kernel_rfl, rfl⟩
  · have hn : k = 0 ∨ k = 1 := by omega
    clear h0 h1
    rcases hn with rfl | rfl
    all_goals
      go_enter Tryz.func82, Tryz.ntmps82
      go_wp2
      go_ret
      exact ⟨rfl, rfl⟩
end Go.Proofs.YtefobkgifigclaaGreatDoor
/- The landed padded, wholeKey, placeKey of layer 22: keys of numbers. -/
namespace Go.Proofs.YtefobkgifigclaaGreatDoor
set_option maxRecDepth 100000
open Go.RowKit

theorem ba_app (a b : List UInt8) : (⟨a.toArray⟩ : ByteArray) ++ ⟨b.toArray⟩ = ⟨(a ++ b).toArray⟩ := by
  apply ByteArray.ext
  rw [ByteArray.data_append]
  simp
theorem ret_st {a b : ByteArray} (h : a = b) : Ending.returned (.string a) = .returned (.string b) := by rw [h]
theorem ret_se22 {a b : ByteArray} {c : Int} (h : a = b) : Ending.returned (.tuple #[.string a, .int .i64 c]) = .returned (.tuple #[.string b, .int .i64 c]) := by rw [h]
set_option maxHeartbeats 1600000 in
theorem pad22 (n k : Nat) (w : World) (hL : S17.Ly w) (hk : k ≤ 18) (h : n < 10 ^ (k + 1)) (h63 : (n : Int) ≤ 9223372036854775807) :
    Calls Tryz.prog 54 #[.int .i64 (n : Int), .int .i64 ((k + 1 : Nat) : Int)] w fun e w' => e = .returned (.string ⟨(dgB (k + 1) n).toArray⟩) ∧ Below w.heap.size w w' := by
  have CF := fmt19 (n : Int) w (by omega) h63 hL
  rw [Lib.itoa_nonneg] at CF
  obtain ⟨e1, e2⟩ := dgB_dec k n h
  have e3 := dec_pos22 n
  obtain ⟨m, hm⟩ : ∃ m, m = k + 1 - (Lib.decDigits n).length := ⟨_, rfl⟩
  rw [← hm] at e2
  have CR := rep22 m (by omega)
  have HE : Hid ((⟨(List.replicate m (48 : UInt8)).toArray⟩ : ByteArray) ++ ⟨(Lib.decDigits n).toArray⟩ = ⟨(dgB (k + 1) n).toArray⟩) := by
    show _ = _
    rw [ba_app, e2]
  obtain ⟨a, ha⟩ : ∃ a : ByteArray, a = ⟨(List.replicate m (48 : UInt8)).toArray⟩ := ⟨_, rfl⟩
  obtain ⟨b, hb⟩ : ∃ b : ByteArray, b = ⟨(Lib.decDigits n).toArray⟩ := ⟨_, rfl⟩
  have sa : a.size = m := by rw [ha]; show (List.replicate m (48 : UInt8)).toArray.size = m; simp
  have sb : b.size = (Lib.decDigits n).length := by rw [hb]; show (Lib.decDigits n).toArray.size = _; simp
  rw [← ha] at CR HE
  rw [← hb] at CF HE
  have HF := hide CF
  have HR := hide CR
  have hd : (((k + 1 : Nat) : Int)) - (b.size : Int) = (m : Int) := by omega
  have hs : a.size + b.size ≤ 9223372036854775807 := by omega
  have hw : IntKind.i64.wrap (m : Int) = (m : Int) := S14.wrap_in (by omega) (by omega)
  generalize dgB (k + 1) n = out at *
  generalize ((k + 1 : Nat) : Int) = d at *
  generalize (n : Int) = z at *
  clear CF CR ha hb sa sb hm e1 e2 e3 h hk h63
  go_enter Tryz.func54, Tryz.ntmps54
  go_wp2_with (first
    | (go_at_call 82; refine (unhide HR _).mono ?_; rintro e w2 ⟨rfl, rfl⟩)
    | (go_at_call 25; refine (unhide HF).mono ?_; rintro e w2 ⟨rfl, b1⟩))
  go_ret
  exact ⟨ret_st (unhide HE), b1⟩
theorem pz22 (l : List Int) : S14.pz (floatOfInt .f64 (S14.parG l).1) (floatOfInt .f64 (S14.parG l).2) = some (S14.parG l) := by
  have hi := S14.parG_in l
  exact S14.pz_of (S14.S_ofInt _ (by omega)) (S14.S_ofInt _ (by omega)) hi.1 hi.2.1 hi.2.2.1 hi.2.2.2
theorem intP_in {s : ByteArray} {n : Int} (h : intP s = some n) : -999999999999999999 ≤ n ∧ n ≤ 999999999999999999 := by
  unfold intP at h
  split at h
  · split at h
    · rename_i hq
      cases h
      exact ⟨hq.1, hq.2.1⟩
    · cases h
  · cases h
set_option maxHeartbeats 1600000 in
theorem whole22 (s : ByteArray) (w : World) (hL : S17.Ly w) (hs : s.size ≤ 281474976710656) :
    Calls Tryz.prog 33 #[.string s] w fun e w' => ∃ k g, e = .returned (.tuple #[.string k, .int .i64 g]) ∧ (intE s = 0 → g = 0 ∧ k = ⟨(keyI (intN s)).toArray⟩) ∧ Below w.heap.size w w' := by
  have CI := hide (int_any s w hL hs)
  cases hp : intP s with
  | none =>
    obtain ⟨e1, e2⟩ := int_none hp
    rw [e1, e2] at CI
    rw [e2]
    clear hp e1 e2
    go_enter Tryz.func33, Tryz.ntmps33
    go_wp2_with (go_at_call 14; refine (unhide CI).mono ?_; rintro e w2 ⟨rfl, b2⟩)
    refine bodyPost_ret (results_tmp2 rfl _ _ _) rfl ?_
    exact ⟨_, _, rfl, fun h => absurd h (by decide), b2⟩
  | some n =>
    obtain ⟨e1, e2⟩ := int_some hp
    obtain ⟨i1, i2⟩ := intP_in hp
    rw [e1, e2] at CI
    rw [e1, e2]
    obtain ⟨m, hm⟩ : ∃ m : Nat, n + 1000000000000000000 = (m : Int) := ⟨(n + 1000000000000000000).toNat, by omega⟩
    have hk : keyI n = dgB 19 m := by unfold keyI; rw [hm]; rfl
    have CP := hide (fun W (h : S17.Ly W) => pad22 m 18 W h (by omega) (by omega) (by omega))
    have HK : Hid ((⟨(dgB 19 m).toArray⟩ : ByteArray) = ⟨(keyI n).toArray⟩) := by show _ = _; rw [hk]
    have hw : IntKind.i64.wrap (m : Int) = (m : Int) := S14.wrap_in (by omega) (by omega)
    have HL := hide hL
    clear hp e1 e2 hk hL i1 i2
    go_enter Tryz.func33, Tryz.ntmps33
    go_wp2_with (first
      | (go_at_call 54; refine (unhide CP _ ((unhide HL).keep b2)).mono ?_; rintro e w3 ⟨rfl, b3⟩)
      | (go_at_call 14; refine (unhide CI).mono ?_; rintro e w2 ⟨rfl, b2⟩))
    refine bodyPost_ret (results_tmp2 rfl _ _ _) rfl ?_
    exact ⟨_, _, rfl, fun _ => ⟨rfl, unhide HK⟩, b2.trans (b3.mono b2.size)⟩
/-- The int of a float that is a whole number. -/
theorem toInt_big {x : Nat} {p : Int} (h : S14.S x = some (p * S14.K)) (h1 : -9223372036854775808 ≤ p) (h2 : p ≤ 9223372036854775807) : floatToIntVal .f64 x .i64 = some p := by
  cases hr : Ieee.double.read x with
  | nan s f => unfold S14.S at h; rw [hr] at h; cases h
  | infinity s => unfold S14.S at h; rw [hr] at h; cases h
  | number s m e =>
    obtain ⟨t, t1, t2, _⟩ := S14.trunc_num s m e (S14.read_place hr)
    have hS : S14.S x = some (Ieee.signed s m (e + 1074).toNat) := by unfold S14.S; rw [hr]; rfl
    rw [hS] at h
    obtain rfl := t2 p (Option.some.inj h)
    unfold floatToIntVal
    have : (FloatKind.f64.decode x).toInt .zero = some t := by
      show (Ieee.double.read x).toInt .zero = some t
      rw [hr]; exact t1
    rw [this]
    simp only
    rw [if_pos (by constructor <;> simp [IntKind.min, IntKind.max, IntKind.signed, IntKind.bits] <;> omega)]
theorem conv22 {x : Nat} {t : Int} (h : floatToIntVal .f64 x .i64 = some t) (W : World) : (convert 70 2 (.float .f64 x)).run Tryz.prog W = .ok (.int .i64 t) W :=
  run_convert_float_int W 70 2 .f64 .i64 x t (by rw [Tryz.underlying70]; rfl) Tryz.underlying2 h
theorem S_mil : S14.S 4696837146684686336 = some (1000000 * S14.K) := by kernel_rfl
set_option maxHeartbeats 3200000 in
theorem place22 (s : ByteArray) (near : Bool) (w : World) (hL : S17.Ly w) (hs : s.size ≤ 9223372036854775806) :
    Calls Tryz.prog 36 #[.string s, .bool near] w fun e w' => ∃ k g, e = .returned (.tuple #[.string k, .int .i64 g]) ∧ (S14.parF (S14.nums s) = 0 → g = 0 ∧ k = if near then ⟨(keyN (S14.parG (S14.nums s)).1 (S14.parG (S14.nums s)).2).toArray⟩ else ⟨(keyG (S14.parG (S14.nums s)).1 (S14.parG (S14.nums s)).2).toArray⟩) ∧ Below w.heap.size w w' := by
  have CP := S14.gparse_w s w hs
  have hpz := pz22 (S14.nums s)
  obtain ⟨a0, a1, c0, c1⟩ := S14.parG_in (S14.nums s)
  generalize S14.parF (S14.nums s) = f at *
  generalize (S14.parG (S14.nums s)).1 = a at *
  generalize (S14.parG (S14.nums s)).2 = b at *
  have CPH := hide CP
  clear CP
  by_cases hf : f = 0
  · subst hf
    have CN := hide (S14.gnorm_w (floatOfInt .f64 a) (floatOfInt .f64 b))
    have hpa := S14.pz_of (S14.S_ofInt a (by omega)) (S14.S_ofInt b (by omega)) a0 a1 c0 c1
    rw [hpa] at CN
    have CN2 : Hid (∀ W, Calls Tryz.prog 20 #[.complex .f64 (floatOfInt .f64 a) (floatOfInt .f64 b)] W fun e w' => e = .returned (.int .i64 (a * a + b * b)) ∧ w' = W) := unhide CN
    obtain ⟨n, hn⟩ : ∃ n : Nat, a * a + b * b = (n : Int) := ⟨(a * a + b * b).toNat, by have := (keyN_lt a0 a1 c0 c1).2; omega⟩
    have hn13 : n < 10 ^ 13 := by have := (keyN_lt a0 a1 c0 c1).1; omega
    obtain ⟨p, hp⟩ : ∃ p : Nat, a + 1000000 = (p : Int) := ⟨(a + 1000000).toNat, by omega⟩
    obtain ⟨q, hq⟩ : ∃ q : Nat, b + 1000000 = (q : Int) := ⟨(b + 1000000).toNat, by omega⟩
    have kn : keyN a b = dgB 13 n := by unfold keyN; rw [hn]; rfl
    have kg : keyG a b = dgB 13 n ++ (dgB 7 p ++ dgB 7 q) := by unfold keyG; rw [kn, hp, hq]; rfl
    obtain ⟨re, hre, hs1⟩ := S14.add_S (S14.S_ofInt a (by omega)) S_mil (by omega)
    obtain ⟨im, him, hs2⟩ := S14.add_S (S14.S_ofInt b (by omega)) S_mil (by omega)
    have hc : cSumBits .add .f64 (floatOfInt .f64 a) (floatOfInt .f64 b) 4696837146684686336 4696837146684686336 = some (re, im) := by
      unfold cSumBits
      rw [show floatBits .add .f64 (floatOfInt .f64 a) 4696837146684686336 = some re from hre, show floatBits .add .f64 (floatOfInt .f64 b) 4696837146684686336 = some im from him]
      rfl
    have hsum : ∀ W : World, (binOp .add 40 (.complex .f64 (floatOfInt .f64 a) (floatOfInt .f64 b)) (.complex .f64 4696837146684686336 4696837146684686336)).run Tryz.prog W = .ok (.complex .f64 re im) W := fun W => run_complex_sum W .add (.inl rfl) _ _ _ _ _ _ _ _ hc
    have v1 : ∀ W, (convert 70 2 (.float .f64 re)).run Tryz.prog W = .ok (.int .i64 (p : Int)) W := conv22 (toInt_big (by rw [hs1, hp]) (by omega) (by omega))
    have v2 : ∀ W, (convert 70 2 (.float .f64 im)).run Tryz.prog W = .ok (.int .i64 (q : Int)) W := conv22 (toInt_big (by rw [hs2, hq]) (by omega) (by omega))
    rw [hn] at CN2
    have hl1 : n < 10 ^ (12 + 1) := hn13
    have CA := hide (fun W (h : S17.Ly W) => pad22 n 12 W h (by omega) hl1 (by omega))
    have CB := hide (fun W (h : S17.Ly W) => pad22 p 6 W h (by omega) (by omega) (by omega))
    have CC := hide (fun W (h : S17.Ly W) => pad22 q 6 W h (by omega) (by omega) (by omega))
    have HL := hide hL
    rw [kg, kn]
    obtain ⟨x, hx⟩ : ∃ x : ByteArray, x = ⟨(dgB 13 n).toArray⟩ := ⟨_, rfl⟩
    obtain ⟨y, hy⟩ : ∃ y : ByteArray, y = ⟨(dgB 7 p).toArray⟩ := ⟨_, rfl⟩
    obtain ⟨z, hz⟩ : ∃ z : ByteArray, z = ⟨(dgB 7 q).toArray⟩ := ⟨_, rfl⟩
    have HX : Hid (x ++ y ++ z = ⟨(dgB 13 n ++ (dgB 7 p ++ dgB 7 q)).toArray⟩) := by
      show _ = _
      rw [hx, hy, hz, ba_app, ba_app, List.append_assoc]
    have HY : Hid (x = ⟨(dgB 13 n).toArray⟩) := hx
    have sx : x.size = 13 := by rw [hx]; show (dgB 13 n).toArray.size = 13; simp [dgB_len]
    have sy : y.size = 7 := by rw [hy]; show (dgB 7 p).toArray.size = 7; simp [dgB_len]
    have sz : z.size = 7 := by rw [hz]; show (dgB 7 q).toArray.size = 7; simp [dgB_len]
    have l1 : x.size + y.size ≤ 9223372036854775807 := by omega
    have l2 : (x ++ y).size + z.size ≤ 9223372036854775807 := by rw [ByteArray.size_append]; omega
    have l3 : x.size + y.size + z.size ≤ 9223372036854775807 := by omega
    have FA : Hid (∀ W, S17.Ly W → Calls Tryz.prog 54 #[.int .i64 (n : Int), .int .i64 13] W fun e w' => e = .returned (.string x) ∧ Below W.heap.size W w') := by rw [hx]; exact unhide CA
    have FB : Hid (∀ W, S17.Ly W → Calls Tryz.prog 54 #[.int .i64 (p : Int), .int .i64 7] W fun e w' => e = .returned (.string y) ∧ Below W.heap.size W w') := by rw [hy]; exact unhide CB
    have FC : Hid (∀ W, S17.Ly W → Calls Tryz.prog 54 #[.int .i64 (q : Int), .int .i64 7] W fun e w' => e = .returned (.string z) ∧ Below W.heap.size W w') := by rw [hz]; exact unhide CC
    clear CA CB CC CN hx hy hz sx sy sz hn hn13 hp hq kn kg hre him hs1 hs2 hc hl1 hpa hpz hL a0 a1 c0 c1
    generalize dgB 13 n = d1 at *
    generalize dgB 7 p ++ dgB 7 q = d2 at *
    generalize floatOfInt .f64 a = fa at *
    generalize floatOfInt .f64 b = fb at *
    generalize a * a + b * b = nn at *
    generalize (n : Int) = n' at *
    generalize (p : Int) = p' at *
    generalize (q : Int) = q' at *
    cases near
    · go_enter Tryz.func36, Tryz.ntmps36
      go_wp2_with (first
        | (go_at_call 54; refine (unhide FC _ ((unhide HL).keep t4)).mono ?_; rintro e w5 ⟨rfl, b5⟩; have t5 := t4.trans (b5.mono t4.size))
        | (go_at_call 54; refine (unhide FB _ ((unhide HL).keep t3)).mono ?_; rintro e w4 ⟨rfl, b4⟩; have t4 := t3.trans (b4.mono t3.size))
        | (go_at_call 54; refine (unhide FA _ ((unhide HL).keep t2)).mono ?_; rintro e w3 ⟨rfl, b3⟩; have t3 := t2.trans (b3.mono t2.size))
        | (go_at_call 20; refine (unhide CN2 _).mono ?_; rintro e w' ⟨rfl, rfl⟩)
        | (go_at_call 17; refine (unhide CPH).mono ?_; rintro e w2 ⟨rfl, g2⟩; have t2 := g2.below))
      refine bodyPost_ret (results_tmp2 rfl _ _ _) rfl ?_
      exact ⟨_, _, rfl, ⟨rfl, unhide HX⟩, t5⟩
    · go_enter Tryz.func36, Tryz.ntmps36
      go_wp2_with (first
        | (go_at_call 54; refine (unhide FA _ ((unhide HL).keep t2)).mono ?_; rintro e w3 ⟨rfl, b3⟩; have t3 := t2.trans (b3.mono t2.size))
        | (go_at_call 20; refine (unhide CN2 _).mono ?_; rintro e w' ⟨rfl, rfl⟩)
        | (go_at_call 17; refine (unhide CPH).mono ?_; rintro e w2 ⟨rfl, g2⟩; have t2 := g2.below))
      refine bodyPost_ret (results_tmp2 rfl _ _ _) rfl ?_
      exact ⟨_, _, rfl, ⟨rfl, unhide HY⟩, t3⟩
  · have hq : (f != 0) = true := by simpa using hf
    have HF := hide hf
    clear hf hpz a0 a1 c0 c1
    generalize (if near = true then (⟨(keyN a b).toArray⟩ : ByteArray) else ⟨(keyG a b).toArray⟩) = kk at *
    go_enter Tryz.func36, Tryz.ntmps36
    go_wp2_with (go_at_call 17; refine (unhide CPH).mono ?_; rintro e w2 ⟨rfl, g2⟩)
    refine bodyPost_ret (results_tmp2 rfl _ _ _) rfl ?_
    exact ⟨_, _, rfl, fun h => absurd h (unhide HF), g2.below⟩
end Go.Proofs.YtefobkgifigclaaGreatDoor
