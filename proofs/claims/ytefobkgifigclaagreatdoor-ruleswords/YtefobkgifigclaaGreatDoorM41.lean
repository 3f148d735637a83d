/- A region that draws, whose own operations only read, and whose callees leave all that lay as it lay: one walk. -/
import Derived.Test.YtefobkgifigclaaGreatDoorM01
import Derived.Test.YtefobkgifigclaaGreatDoorProg
import Derived.Lib.Strings
import Derived.Laws.Rows
namespace Go.Proofs.YtefobkgifigclaaGreatDoor
set_option maxRecDepth 100000
open Go.RowKit

/-- A world in which all that lay in w lies as it lay. -/
structure BB (w : World) where
  W : World
  b : Below w.heap.size w W
theorem wp_region_below {P : Program} {id : Nat} {Q : Exit → Act → World → Prop} {a : Act} {w : World} {l : List Oper} (hm : P.follows .mixedOrders = true) (hB : Region.lexB .any l.toArray = true)
    (h : Nonempty (BB w) → wpQuiet P l.toArray (fun w' => ∃ p : BB w, w' = p.W) (fun a' => ∀ w', (∃ p : BB w, w' = p.W) → Q .normal a' w') l a) : (Code.region id l.toArray true).wp P Q a w :=
  wp_region_quiet (C := fun w' => ∃ p : BB w, w' = p.W) hm hB ⟨⟨w.drewN 1, ((Gr.refl w).drewN 1).below⟩, rfl⟩ (by simpa using h ⟨⟨w, Below.refl _ _⟩⟩)
theorem callsBB {P : Program} {f : FuncId} {args : Array Value} {w : World} {p : BB w} {v : Value} (h : Calls P f args p.W fun e w' => e = .returned v ∧ Below p.W.heap.size p.W w') : Calls P f args p.W fun e w'' => e = .returned v ∧ ∃ q : BB w, w'' = q.W :=
  h.mono fun _ w' ⟨he, hb⟩ => ⟨he, ⟨w', p.b.trans (hb.mono p.b.size)⟩, rfl⟩
theorem cell_bb {w : World} {a : Addr} {v : Value} (h : w.cell? a = some v) (p : BB w) : p.W.cell? a = some v := (p.b.cell (cell_lt h)).trans h
end Go.Proofs.YtefobkgifigclaaGreatDoor
/- Keys of numbers, plainly: digits with 0 ahead are ordered as the numbers are. -/
namespace Go.Proofs.YtefobkgifigclaaGreatDoor
set_option maxRecDepth 100000

/-- A number in so many digits. -/
def dgB : Nat → Nat → List UInt8
  | 0, _ => []
  | k + 1, n => dgB k (n / 10) ++ [UInt8.ofNat (48 + n % 10)]
theorem dgB_len : ∀ k n, (dgB k n).length = k
  | 0, _ => rfl
  | k + 1, n => by rw [dgB, List.length_append, dgB_len k]; rfl
theorem bl_irr : ∀ x : List UInt8, Op.bytesLess x x = false
  | [] => rfl
  | a :: t => by simp [Op.bytesLess, bl_irr t]
/-- Texts of one length ahead: they tell, or what is behind them does. -/
theorem bl_app : ∀ (a b x y : List UInt8), a.length = b.length → Op.bytesLess (a ++ x) (b ++ y) = (Op.bytesLess a b || (decide (a = b) && Op.bytesLess x y))
  | [], [], x, y, _ => by simp [Op.bytesLess]
  | [], _ :: _, _, _, h => by simp at h
  | _ :: _, [], _, _, h => by simp at h
  | p :: a, q :: b, x, y, h => by
    have ih := bl_app a b x y (by simpa using h)
    by_cases e : p = q
    · subst e
      simp [Op.bytesLess, ih]
    · have hb : (p == q) = false := by simpa using e
      simp [Op.bytesLess, hb, e]
theorem dig_toNat {n : Nat} : (UInt8.ofNat (48 + n % 10)).toNat = 48 + n % 10 := by
  rw [UInt8.toNat_ofNat']
  omega
theorem dig_inj {m n : Nat} (h : UInt8.ofNat (48 + m % 10) = UInt8.ofNat (48 + n % 10)) : m % 10 = n % 10 := by
  have := congrArg UInt8.toNat h
  rw [dig_toNat, dig_toNat] at this
  omega
theorem dgB_inj : ∀ (k m n : Nat), m < 10 ^ k → n < 10 ^ k → dgB k m = dgB k n → m = n
  | 0, m, n, hm, hn, _ => by simp at hm hn; omega
  | k + 1, m, n, hm, hn, h => by
    rw [dgB, dgB] at h
    obtain ⟨h1, h2⟩ := List.append_inj h (by rw [dgB_len, dgB_len])
    have i1 := dgB_inj k (m / 10) (n / 10) (by rw [Nat.pow_succ] at hm; omega) (by rw [Nat.pow_succ] at hn; omega) h1
    have i2 := dig_inj (List.cons.inj h2).1
    omega
theorem dgB_eq {k m n : Nat} (hm : m < 10 ^ k) (hn : n < 10 ^ k) : decide (dgB k m = dgB k n) = decide (m = n) :=
  decide_eq_decide.2 ⟨dgB_inj k m n hm hn, fun h => by rw [h]⟩
theorem dgB_less : ∀ (k m n : Nat), m < 10 ^ k → n < 10 ^ k → Op.bytesLess (dgB k m) (dgB k n) = decide (m < n)
  | 0, m, n, hm, hn => by
    simp at hm hn
    subst hm hn
    rfl
  | k + 1, m, n, hm, hn => by
    have hm' : m / 10 < 10 ^ k := by rw [Nat.pow_succ] at hm; omega
    have hn' : n / 10 < 10 ^ k := by rw [Nat.pow_succ] at hn; omega
    rw [dgB, dgB, bl_app _ _ _ _ (by rw [dgB_len, dgB_len]), dgB_less k _ _ hm' hn', dgB_eq hm' hn']
    have e : Op.bytesLess [UInt8.ofNat (48 + m % 10)] [UInt8.ofNat (48 + n % 10)] = decide (m % 10 < n % 10) := by
      by_cases q : m % 10 = n % 10
      · rw [q, bl_irr]; simp
      · have hne : ¬ UInt8.ofNat (48 + m % 10) = UInt8.ofNat (48 + n % 10) := fun h => q (dig_inj h)
        have hb : (UInt8.ofNat (48 + m % 10) == UInt8.ofNat (48 + n % 10)) = false := beq_eq_false_iff_ne.2 hne
        simp only [Op.bytesLess, hb, Bool.false_and, Bool.or_false]
        have : (UInt8.ofNat (48 + m % 10) < UInt8.ofNat (48 + n % 10)) ↔ m % 10 < n % 10 := by
          rw [UInt8.lt_iff_toNat_lt, dig_toNat, dig_toNat]
          omega
        exact decide_eq_decide.2 this
    rw [e, Bool.eq_iff_iff]
    simp only [Bool.or_eq_true, Bool.and_eq_true, decide_eq_true_eq]
    omega
theorem bl_or : ∀ (a b : List UInt8), Op.bytesLess a b = true ∨ a = b ∨ Op.bytesLess b a = true
  | [], [] => .inr (.inl rfl)
  | [], _ :: _ => .inl rfl
  | _ :: _, [] => .inr (.inr rfl)
  | x :: a, y :: b => by
    by_cases e : x = y
    · subst e
      rcases bl_or a b with h | h | h
      · left; simp [Op.bytesLess, h]
      · right; left; rw [h]
      · right; right; simp [Op.bytesLess, h]
    · have e' : ¬ y = x := fun q => e q.symm
      rcases Nat.lt_or_ge x.toNat y.toNat with h | h
      · left; simp [Op.bytesLess, e]; exact h
      · right; right
        have : y.toNat < x.toNat := by
          rcases Nat.lt_or_eq_of_le h with q | q
          · exact q
          · exact absurd (UInt8.toNat_inj.1 q.symm) e
        simp [Op.bytesLess, e']; exact this
/-- Which of two texts comes first. -/
def cmB (a b : List UInt8) : Int := if Op.bytesLess a b then -1 else if Op.bytesLess b a then 1 else 0
/-- The keys of whole numbers. -/
def keyI (n : Int) : List UInt8 := dgB 19 (n + 1000000000000000000).toNat
theorem keyI_lt {n : Int} (h0 : -999999999999999999 ≤ n) (h1 : n ≤ 999999999999999999) : (n + 1000000000000000000).toNat < 10 ^ 19 := by omega
theorem keyI_cmp {m n : Int} (m0 : -999999999999999999 ≤ m) (m1 : m ≤ 999999999999999999) (n0 : -999999999999999999 ≤ n) (n1 : n ≤ 999999999999999999) : cmB (keyI m) (keyI n) = if m < n then -1 else if n < m then 1 else 0 := by
  unfold cmB keyI
  rw [dgB_less _ _ _ (keyI_lt m0 m1) (keyI_lt n0 n1), dgB_less _ _ _ (keyI_lt n0 n1) (keyI_lt m0 m1)]
  have e1 : decide ((m + 1000000000000000000).toNat < (n + 1000000000000000000).toNat) = decide (m < n) := decide_eq_decide.2 ⟨by omega, by omega⟩
  have e2 : decide ((n + 1000000000000000000).toNat < (m + 1000000000000000000).toNat) = decide (n < m) := decide_eq_decide.2 ⟨by omega, by omega⟩
  rw [e1, e2]
  simp only [decide_eq_true_eq]
/-- The keys of numbers of two parts. -/
def keyN (a b : Int) : List UInt8 := dgB 13 (a * a + b * b).toNat
def keyG (a b : Int) : List UInt8 := keyN a b ++ (dgB 7 (a + 1000000).toNat ++ dgB 7 (b + 1000000).toNat)
theorem sq_le {a : Int} (h0 : -999999 ≤ a) (h1 : a ≤ 999999) : 0 ≤ a * a ∧ a * a ≤ 999998000001 := by
  have h2 : a.natAbs ≤ 999999 := by omega
  have h3 : a.natAbs * a.natAbs ≤ 999999 * 999999 := Nat.mul_le_mul h2 h2
  have h4 : ((a.natAbs * a.natAbs : Nat) : Int) = a * a := by rw [Int.natCast_mul, Int.natAbs_mul_self' a]
  generalize a.natAbs * a.natAbs = q at *
  rw [← h4]
  omega
theorem keyN_lt {a b : Int} (a0 : -999999 ≤ a) (a1 : a ≤ 999999) (b0 : -999999 ≤ b) (b1 : b ≤ 999999) : (a * a + b * b).toNat < 10 ^ 13 ∧ 0 ≤ a * a + b * b := by
  obtain ⟨h1, h2⟩ := sq_le a0 a1
  obtain ⟨h3, h4⟩ := sq_le b0 b1
  omega
theorem keyN_eq {a b c d : Int} (a0 : -999999 ≤ a) (a1 : a ≤ 999999) (b0 : -999999 ≤ b) (b1 : b ≤ 999999) (c0 : -999999 ≤ c) (c1 : c ≤ 999999) (d0 : -999999 ≤ d) (d1 : d ≤ 999999) : decide (keyN a b = keyN c d) = decide (a * a + b * b = c * c + d * d) := by
  obtain ⟨h1, h2⟩ := keyN_lt a0 a1 b0 b1
  obtain ⟨h3, h4⟩ := keyN_lt c0 c1 d0 d1
  unfold keyN
  rw [dgB_eq h1 h3]
  exact decide_eq_decide.2 ⟨by omega, by omega⟩
theorem keyG_less {a b c d : Int} (a0 : -999999 ≤ a) (a1 : a ≤ 999999) (b0 : -999999 ≤ b) (b1 : b ≤ 999999) (c0 : -999999 ≤ c) (c1 : c ≤ 999999) (d0 : -999999 ≤ d) (d1 : d ≤ 999999) : Op.bytesLess (keyG a b) (keyG c d) = decide (a * a + b * b < c * c + d * d ∨ (a * a + b * b = c * c + d * d ∧ (a < c ∨ (a = c ∧ b < d)))) := by
  obtain ⟨h1, h2⟩ := keyN_lt a0 a1 b0 b1
  obtain ⟨h3, h4⟩ := keyN_lt c0 c1 d0 d1
  have p : ∀ z : Int, -999999 ≤ z → z ≤ 999999 → (z + 1000000).toNat < 10 ^ 7 := fun z _ _ => by omega
  unfold keyG
  rw [bl_app _ _ _ _ (by unfold keyN; rw [dgB_len, dgB_len]), keyN_eq a0 a1 b0 b1 c0 c1 d0 d1, bl_app _ _ _ _ (by rw [dgB_len, dgB_len])]
  unfold keyN
  rw [dgB_less _ _ _ h1 h3, dgB_less _ _ _ (p a a0 a1) (p c c0 c1), dgB_eq (p a a0 a1) (p c c0 c1), dgB_less _ _ _ (p b b0 b1) (p d d0 d1)]
  rw [Bool.eq_iff_iff]
  simp only [Bool.or_eq_true, Bool.and_eq_true, decide_eq_true_eq]
  generalize a * a + b * b = m at *
  generalize c * c + d * d = n at *
  omega
theorem keyG_cmp {a b c d : Int} (a0 : -999999 ≤ a) (a1 : a ≤ 999999) (b0 : -999999 ≤ b) (b1 : b ≤ 999999) (c0 : -999999 ≤ c) (c1 : c ≤ 999999) (d0 : -999999 ≤ d) (d1 : d ≤ 999999) : cmB (keyG a b) (keyG c d) = if a * a + b * b < c * c + d * d then -1 else if c * c + d * d < a * a + b * b then 1 else if a < c then -1 else if c < a then 1 else if b < d then -1 else if d < b then 1 else 0 := by
  unfold cmB
  rw [keyG_less a0 a1 b0 b1 c0 c1 d0 d1, keyG_less c0 c1 d0 d1 a0 a1 b0 b1]
  generalize a * a + b * b = m at *
  generalize c * c + d * d = n at *
  simp only [decide_eq_true_eq]
  by_cases e1 : m < n
  · rw [if_pos (.inl e1), if_pos e1]
  rw [if_neg e1]
  by_cases e2 : n < m
  · rw [if_neg (by omega), if_pos (.inl e2), if_pos e2]
  rw [if_neg e2]
  obtain rfl : m = n := by omega
  by_cases e3 : a < c
  · rw [if_pos (by omega), if_pos e3]
  rw [if_neg e3]
  by_cases e4 : c < a
  · rw [if_neg (by omega), if_pos (by omega), if_pos e4]
  rw [if_neg e4]
  obtain rfl : a = c := by omega
  by_cases e5 : b < d
  · rw [if_pos (by omega), if_pos e5]
  rw [if_neg e5]
  by_cases e6 : d < b
  · rw [if_neg (by omega), if_pos (by omega), if_pos e6]
  rw [if_neg e6, if_neg (by omega), if_neg (by omega)]
end Go.Proofs.YtefobkgifigclaaGreatDoor
/- The document's Word, Named, Ordered, Way of layer 22. -/
namespace Go.Proofs.YtefobkgifigclaaGreatDoor
set_option maxRecDepth 100000
open Go.RowKit

theorem txt22 (a b : ByteArray) : (a.toList == b.toList) = decide (a = b) := by
  rw [Lib.toList_data, Lib.toList_data]
  by_cases h : a = b
  · rw [decide_eq_true h, h]; simp
  · rw [decide_eq_false h, beq_eq_false_iff_ne]
    intro e
    apply h
    cases a with | mk x => cases b with | mk y =>
    simp only at e
    rw [Array.toList_inj.1 e]
/-- The words of the rules. -/
def wdB (n : Int) : ByteArray :=
  if n = 1 then ⟨#[101, 120, 97, 99, 116]⟩ else if n = 2 then ⟨#[102, 111, 108, 100]⟩ else if n = 3 then ⟨#[105, 110, 116, 101, 103, 101, 114]⟩ else if n = 4 then ⟨#[98, 111, 111, 108, 101, 97, 110]⟩ else if n = 5 then ⟨#[111, 99, 116, 101, 116, 115]⟩ else if n = 6 then ⟨#[110, 97, 109, 101]⟩ else if n = 7 then ⟨#[110, 117, 109, 101, 114, 105, 99]⟩ else if n = 8 then ⟨#[112, 104, 111, 110, 101]⟩ else if n = 9 then ⟨#[111, 105, 100]⟩ else if n = 10 then ⟨#[103, 97, 117, 115, 115]⟩ else if n = 11 then ⟨#[110, 101, 97, 114]⟩ else ⟨#[]⟩
theorem eleven {n : Int} (h : 1 ≤ n ∧ n ≤ 11) : n = 1 ∨ n = 2 ∨ n = 3 ∨ n = 4 ∨ n = 5 ∨ n = 6 ∨ n = 7 ∨ n = 8 ∨ n = 9 ∨ n = 10 ∨ n = 11 := by omega
theorem wdB_out {n : Int} (h : ¬ (1 ≤ n ∧ n ≤ 11)) : wdB n = ⟨#[]⟩ := by
  unfold wdB
  rw [if_neg (by omega), if_neg (by omega), if_neg (by omega), if_neg (by omega), if_neg (by omega), if_neg (by omega), if_neg (by omega), if_neg (by omega), if_neg (by omega), if_neg (by omega), if_neg (by omega)]
set_option maxHeartbeats 3200000 in
theorem rword22_any (n : Int) (w : World) : Calls Tryz.prog 6 #[.int .i64 n] w fun e w' => e = .returned (.string (wdB n)) ∧ w = w' := by
  by_cases h : 1 ≤ n ∧ n ≤ 11
  · rcases eleven h with rfl | rfl | rfl | rfl | rfl | rfl | rfl | rfl | rfl | rfl | rfl
    all_goals
      go_enter Tryz.func6, Tryz.ntmps6
      go_wp2
      go_ret
      exact ⟨rfl, rfl⟩
  · rw [wdB_out h]
    have e1 : (n == 1) = false := by rw [beq_eq_false_iff_ne]; omega
    have e2 : (n == 2) = false := by rw [beq_eq_false_iff_ne]; omega
    have e3 : (n == 3) = false := by rw [beq_eq_false_iff_ne]; omega
    have e4 : (n == 4) = false := by rw [beq_eq_false_iff_ne]; omega
    have e5 : (n == 5) = false := by rw [beq_eq_false_iff_ne]; omega
    have e6 : (n == 6) = false := by rw [beq_eq_false_iff_ne]; omega
    have e7 : (n == 7) = false := by rw [beq_eq_false_iff_ne]; omega
    have e8 : (n == 8) = false := by rw [beq_eq_false_iff_ne]; omega
    have e9 : (n == 9) = false := by rw [beq_eq_false_iff_ne]; omega
    have e10 : (n == 10) = false := by rw [beq_eq_false_iff_ne]; omega
    have e11 : (n == 11) = false := by rw [beq_eq_false_iff_ne]; omega
    clear h
    go_enter Tryz.func6, Tryz.ntmps6
    go_wp2
    go_ret
    exact ⟨rfl, rfl⟩
/-- The rule of a word. -/
def nmd (s : ByteArray) : Int := if s = wdB 1 then 1 else if s = wdB 2 then 2 else if s = wdB 3 then 3 else if s = wdB 4 then 4 else if s = wdB 5 then 5 else if s = wdB 6 then 6 else if s = wdB 7 then 7 else if s = wdB 8 then 8 else if s = wdB 9 then 9 else if s = wdB 10 then 10 else if s = wdB 11 then 11 else 0
theorem nmd_no {s : ByteArray} (h : ∀ j : Nat, 1 ≤ j → j ≤ 11 → wdB j ≠ s) : nmd s = 0 := by
  unfold nmd
  rw [if_neg (show ¬ s = wdB 1 from Ne.symm (h 1 (by omega) (by omega))), if_neg (show ¬ s = wdB 2 from Ne.symm (h 2 (by omega) (by omega))), if_neg (show ¬ s = wdB 3 from Ne.symm (h 3 (by omega) (by omega))), if_neg (show ¬ s = wdB 4 from Ne.symm (h 4 (by omega) (by omega))), if_neg (show ¬ s = wdB 5 from Ne.symm (h 5 (by omega) (by omega))), if_neg (show ¬ s = wdB 6 from Ne.symm (h 6 (by omega) (by omega))), if_neg (show ¬ s = wdB 7 from Ne.symm (h 7 (by omega) (by omega))), if_neg (show ¬ s = wdB 8 from Ne.symm (h 8 (by omega) (by omega))), if_neg (show ¬ s = wdB 9 from Ne.symm (h 9 (by omega) (by omega))), if_neg (show ¬ s = wdB 10 from Ne.symm (h 10 (by omega) (by omega))), if_neg (show ¬ s = wdB 11 from Ne.symm (h 11 (by omega) (by omega)))]
theorem nmd_at {s : ByteArray} {k : Nat} (h0 : 1 ≤ k) (h1 : k ≤ 11) (h : wdB k = s) : nmd s = k := by
  subst h
  rcases eleven (n := (k : Int)) (by omega) with e | e | e | e | e | e | e | e | e | e | e
  all_goals
    rw [e]
    kernel_rfl
set_option maxHeartbeats 1600000 in
theorem rnamed22_any (s : ByteArray) (w : World) : Calls Tryz.prog 8 #[.string s] w fun e w' => e = .returned (.int .i64 (nmd s)) ∧ w = w' := by
  have CW := hide (fun n W => rword22_any n W)
  go_enter Tryz.func8, Tryz.ntmps8
  go_wp2
  go_loop [3] (fun i => ∃ k : Nat, 1 ≤ k ∧ k ≤ 12 ∧ i = .int .i64 (k : Int) ∧ Hid (∀ j : Nat, 1 ≤ j → j < k → wdB j ≠ s)) (fun i => 12 - (intOf i).toNat)
  case atStart => exact ⟨1, Nat.le_refl _, by omega, rfl, fun j h1 h2 => by omega⟩
  case round =>
    obtain ⟨k, h0, h1, rfl, HK⟩ := hrel
    by_cases hlt : k ≤ 11
    · have hzl : (k : Int) ≤ 11 := by omega
      have C1 := hide (unhide CW (k : Int) w)
      have hq := txt22 (wdB k) s
      by_cases h : wdB k = s
      · rw [decide_eq_true h] at hq
        have HE : Hid ((k : Int) = nmd s) := (nmd_at h0 hlt h).symm
        clear h HK CW
        go_wp2_with (go_at_call 6; refine (unhide C1).mono ?_; rintro e w2 ⟨rfl, rfl⟩)
        go_ret
        exact ⟨ret_int (unhide HE), rfl⟩
      · rw [decide_eq_false h] at hq
        have HK2 : Hid (∀ j : Nat, 1 ≤ j → j < k + 1 → wdB j ≠ s) := fun j a b => by
          by_cases e : j = k
          · rw [e]; exact h
          · exact unhide HK j a (by omega)
        clear h HK CW
        go_wp2_with (go_at_call 6; refine (unhide C1).mono ?_; rintro e w2 ⟨rfl, rfl⟩)
        go_round
        case rel => exact ⟨k + 1, by omega, by omega, by go_num, unhide HK2⟩
        case measure => simp [intOf]; omega
    · have hzl : ¬ (k : Int) ≤ 11 := by omega
      have HE : Hid (0 = nmd s) := (nmd_no fun j a b => unhide HK j a (by omega)).symm
      clear HK CW
      go_wp2
      go_ret
      exact ⟨ret_int (unhide HE), rfl⟩
def ordB (n : Int) : Bool := decide (n = 1 ∨ n = 2 ∨ n = 3 ∨ n = 5 ∨ n = 7 ∨ n = 10)
def wayN (n : Int) : Int := if n = 1 then 1 else if n = 2 then 2 else if n = 7 then 3 else if n = 8 then 4 else 0
set_option maxHeartbeats 3200000 in
theorem rord22_any (n : Int) (w : World) : Calls Tryz.prog 10 #[.int .i64 n] w fun e w' => e = .returned (.bool (ordB n)) ∧ w = w' := by
  by_cases h : n = 1 ∨ n = 2 ∨ n = 3 ∨ n = 5 ∨ n = 7 ∨ n = 10
  · rcases h with rfl | rfl | rfl | rfl | rfl | rfl
    all_goals
      go_enter Tryz.func10, Tryz.ntmps10
      go_wp2
      go_ret
      exact ⟨rfl, rfl⟩
  · rw [show ordB n = false from decide_eq_false h]
    have e1 : (n == 1) = false := by rw [beq_eq_false_iff_ne]; omega
    have e2 : (n == 2) = false := by rw [beq_eq_false_iff_ne]; omega
    have e3 : (n == 3) = false := by rw [beq_eq_false_iff_ne]; omega
    have e5 : (n == 5) = false := by rw [beq_eq_false_iff_ne]; omega
    have e7 : (n == 7) = false := by rw [beq_eq_false_iff_ne]; omega
    have e10 : (n == 10) = false := by rw [beq_eq_false_iff_ne]; omega
    clear h
    go_enter Tryz.func10, Tryz.ntmps10
    go_wp2
    go_ret
    exact ⟨rfl, rfl⟩
set_option maxHeartbeats 3200000 in
theorem rway22_any (n : Int) (w : World) : Calls Tryz.prog 12 #[.int .i64 n] w fun e w' => e = .returned (.int .i64 (wayN n)) ∧ w = w' := by
  by_cases h : n = 1 ∨ n = 2 ∨ n = 7 ∨ n = 8
  · rcases h with rfl | rfl | rfl | rfl
    all_goals
      go_enter Tryz.func12, Tryz.ntmps12
      go_wp2
      go_ret
      exact ⟨rfl, rfl⟩
  · have HE : Hid (wayN n = 0) := by show _ = _; unfold wayN; rw [if_neg (by omega), if_neg (by omega), if_neg (by omega), if_neg (by omega)]
    rw [unhide HE]
    have e1 : (n == 1) = false := by rw [beq_eq_false_iff_ne]; omega
    have e2 : (n == 2) = false := by rw [beq_eq_false_iff_ne]; omega
    have e7 : (n == 7) = false := by rw [beq_eq_false_iff_ne]; omega
    have e8 : (n == 8) = false := by rw [beq_eq_false_iff_ne]; omega
    clear h HE
    go_enter Tryz.func12, Tryz.ntmps12
    go_wp2
    go_ret
    exact ⟨rfl, rfl⟩
set_option maxHeartbeats 3200000 in
/-- The law RulesWords, out of the landed contracts. -/
theorem words22_law (n : Int) (s : ByteArray) (w : World)
    (CW : ∀ W, Below w.heap.size w W → Calls Tryz.prog 5 #[.int .i64 n] W fun e w' => e = .returned (.string (wdB n)) ∧ Below W.heap.size W w')
    (CN : ∀ W, Below w.heap.size w W → Calls Tryz.prog 7 #[.string s] W fun e w' => e = .returned (.int .i64 (nmd s)) ∧ Below W.heap.size W w')
    (CO : ∀ W, Below w.heap.size w W → Calls Tryz.prog 9 #[.int .i64 n] W fun e w' => e = .returned (.bool (ordB n)) ∧ Below W.heap.size W w')
    (CY : ∀ W, Below w.heap.size w W → Calls Tryz.prog 11 #[.int .i64 n] W fun e w' => e = .returned (.int .i64 (wayN n)) ∧ Below W.heap.size W w')
    (CA : ∀ W, Below w.heap.size w W → Calls Tryz.prog 13 #[] W fun e w' => e = .returned (.bool true) ∧ Below W.heap.size W w') :
    Calls Tryz.prog 3 #[.int .i64 n, .string s] w fun e w' => e = .returned (.bool true) ∧ Below w.heap.size w w' := by
  have H1 := hide CW
  have H2 := hide CN
  have H3 := hide CO
  have H4 := hide CY
  have H5 := hide CA
  have R1 := hide (fun W => rword22_any n W)
  have R2 := hide (fun W => rnamed22_any s W)
  have R3 := hide (fun W => rord22_any n W)
  have R4 := hide (fun W => rway22_any n W)
  clear CW CN CO CY CA
  generalize wdB n = a at *
  generalize nmd s = b at *
  generalize ordB n = c at *
  generalize wayN n = d at *
  have q1 : (a.toList == a.toList) = true := by simp
  have q2 : (b == b) = true := by simp
  have q3 : (c == c) = true := by simp
  have q4 : (d == d) = true := by simp
  go_enter Tryz.func3, Tryz.ntmps3
  go_wp2_with (first
    | (go_at_call 13; refine (unhide H5 _ t4).mono ?_; rintro e w5 ⟨rfl, b5⟩; have t5 := t4.trans (b5.mono t4.size))
    | (go_at_call 12; refine (unhide R4 _).mono ?_; rintro e w' ⟨rfl, rfl⟩)
    | (go_at_call 11; refine (unhide H4 _ t3).mono ?_; rintro e w4 ⟨rfl, b4⟩; have t4 := t3.trans (b4.mono t3.size))
    | (go_at_call 10; refine (unhide R3 _).mono ?_; rintro e w' ⟨rfl, rfl⟩)
    | (go_at_call 9; refine (unhide H3 _ t2).mono ?_; rintro e w3 ⟨rfl, b3⟩; have t3 := t2.trans (b3.mono t2.size))
    | (go_at_call 8; refine (unhide R2 _).mono ?_; rintro e w' ⟨rfl, rfl⟩)
    | (go_at_call 7; refine (unhide H2 _ t1).mono ?_; rintro e w2 ⟨rfl, b2⟩; have t2 := t1.trans (b2.mono t1.size))
    | (go_at_call 6; refine (unhide R1 _).mono ?_; rintro e w' ⟨rfl, rfl⟩)
    | (go_at_call 5; refine (unhide H1 _ (Below.refl _ _)).mono ?_; rintro e w1 ⟨rfl, t1⟩))
  go_ret
  exact ⟨rfl, t5⟩
end Go.Proofs.YtefobkgifigclaaGreatDoor
/- The landed Word, Named, Ordered, Way of layer 22. -/
namespace Go.Proofs.YtefobkgifigclaaGreatDoor
set_option maxRecDepth 100000
open Go.RowKit

/-- The program's table of words, as it lies. -/
def wds22 : Array Value := #[.string ⟨#[]⟩, .string ⟨#[101, 120, 97, 99, 116]⟩, .string ⟨#[102, 111, 108, 100]⟩, .string ⟨#[105, 110, 116, 101, 103, 101, 114]⟩, .string ⟨#[98, 111, 111, 108, 101, 97, 110]⟩, .string ⟨#[111, 99, 116, 101, 116, 115]⟩, .string ⟨#[110, 97, 109, 101]⟩, .string ⟨#[110, 117, 109, 101, 114, 105, 99]⟩, .string ⟨#[112, 104, 111, 110, 101]⟩, .string ⟨#[111, 105, 100]⟩, .string ⟨#[103, 97, 117, 115, 115]⟩, .string ⟨#[110, 101, 97, 114]⟩]
def Lw (w : World) : Prop := ∃ t fr, w.heap[0]? = some (.cells wds22 t fr)
theorem Lw.keep {w w2 : World} (h : Lw w) (hb : Below w.heap.size w w2) : Lw w2 := by
  obtain ⟨t, fr, h⟩ := h
  exact ⟨t, fr, (hb.block _ (Array.getElem?_eq_some_iff.1 h).1).trans h⟩
theorem wds22_at (k : Nat) (h : k < 12) : wds22[k]? = some (.string (wdB k)) := by
  have hn : k = 0 ∨ k = 1 ∨ k = 2 ∨ k = 3 ∨ k = 4 ∨ k = 5 ∨ k = 6 ∨ k = 7 ∨ k = 8 ∨ k = 9 ∨ k = 10 ∨ k = 11 := by omega
  rcases hn with rfl | rfl | rfl | rfl | rfl | rfl | rfl | rfl | rfl | rfl | rfl | rfl <;> rfl
theorem Lw.cell {w : World} (h : Lw w) (k : Nat) (hk : k < 12) : w.cell? ⟨0, k, none⟩ = some (.string (wdB k)) := by
  obtain ⟨t, fr, h⟩ := h
  unfold World.cell?
  rw [show w.heap[(⟨0, k, none⟩ : Addr).block]? = w.heap[0]? from rfl, h]
  exact wds22_at k hk
theorem idxw_0 (W : World) : (Instr.index 48 (.agg wds22) (.int .i64 0)).run Tryz.prog W = .ok (.string (wdB 0)) W := by kernel_rfl
theorem idxw_1 (W : World) : (Instr.index 48 (.agg wds22) (.int .i64 1)).run Tryz.prog W = .ok (.string (wdB 1)) W := by kernel_rfl
theorem idxw_2 (W : World) : (Instr.index 48 (.agg wds22) (.int .i64 2)).run Tryz.prog W = .ok (.string (wdB 2)) W := by kernel_rfl
theorem idxw_3 (W : World) : (Instr.index 48 (.agg wds22) (.int .i64 3)).run Tryz.prog W = .ok (.string (wdB 3)) W := by kernel_rfl
theorem idxw_4 (W : World) : (Instr.index 48 (.agg wds22) (.int .i64 4)).run Tryz.prog W = .ok (.string (wdB 4)) W := by kernel_rfl
theorem idxw_5 (W : World) : (Instr.index 48 (.agg wds22) (.int .i64 5)).run Tryz.prog W = .ok (.string (wdB 5)) W := by kernel_rfl
theorem idxw_6 (W : World) : (Instr.index 48 (.agg wds22) (.int .i64 6)).run Tryz.prog W = .ok (.string (wdB 6)) W := by kernel_rfl
theorem idxw_7 (W : World) : (Instr.index 48 (.agg wds22) (.int .i64 7)).run Tryz.prog W = .ok (.string (wdB 7)) W := by kernel_rfl
theorem idxw_8 (W : World) : (Instr.index 48 (.agg wds22) (.int .i64 8)).run Tryz.prog W = .ok (.string (wdB 8)) W := by kernel_rfl
theorem idxw_9 (W : World) : (Instr.index 48 (.agg wds22) (.int .i64 9)).run Tryz.prog W = .ok (.string (wdB 9)) W := by kernel_rfl
theorem idxw_10 (W : World) : (Instr.index 48 (.agg wds22) (.int .i64 10)).run Tryz.prog W = .ok (.string (wdB 10)) W := by kernel_rfl
theorem idxw_11 (W : World) : (Instr.index 48 (.agg wds22) (.int .i64 11)).run Tryz.prog W = .ok (.string (wdB 11)) W := by kernel_rfl
theorem idxw (k : Nat) (h : k < 12) (W : World) : (Instr.index 48 (.agg wds22) (.int .i64 (k : Int))).run Tryz.prog W = .ok (.string (wdB k)) W := by
  have hn : k = 0 ∨ k = 1 ∨ k = 2 ∨ k = 3 ∨ k = 4 ∨ k = 5 ∨ k = 6 ∨ k = 7 ∨ k = 8 ∨ k = 9 ∨ k = 10 ∨ k = 11 := by omega
  clear h
  rcases hn with rfl | rfl | rfl | rfl | rfl | rfl | rfl | rfl | rfl | rfl | rfl | rfl
  · exact idxw_0 W
  · exact idxw_1 W
  · exact idxw_2 W
  · exact idxw_3 W
  · exact idxw_4 W
  · exact idxw_5 W
  · exact idxw_6 W
  · exact idxw_7 W
  · exact idxw_8 W
  · exact idxw_9 W
  · exact idxw_10 W
  · exact idxw_11 W
set_option maxHeartbeats 1600000 in
theorem known22_any (n : Int) (w : World) : Calls Tryz.prog 21 #[.int .i64 n] w fun e w' => e = .returned (.bool (decide (1 ≤ n ∧ n ≤ 11))) ∧ w' = w := by
  by_cases h1 : 1 ≤ n
  · by_cases h2 : n ≤ 11
    · rw [decide_eq_true (show 1 ≤ n ∧ n ≤ 11 from ⟨h1, h2⟩)]
      go_enter Tryz.func21, Tryz.ntmps21
      go_wp2
      go_ret
      exact ⟨rfl, rfl⟩
    · rw [decide_eq_false (show ¬ (1 ≤ n ∧ n ≤ 11) from fun h => h2 h.2)]
      go_enter Tryz.func21, Tryz.ntmps21
      go_wp2
      go_ret
      exact ⟨rfl, rfl⟩
  · rw [decide_eq_false (show ¬ (1 ≤ n ∧ n ≤ 11) from fun h => h1 h.1)]
    go_enter Tryz.func21, Tryz.ntmps21
    go_wp2
    go_ret
    exact ⟨rfl, rfl⟩
set_option maxHeartbeats 3200000 in
theorem word22_any (n : Int) (w : World) (hL : Lw w) : Calls Tryz.prog 5 #[.int .i64 n] w fun e w' => e = .returned (.string (wdB n)) ∧ Below w.heap.size w w' := by
  have CK := hide (known22_any n w)
  by_cases h : 1 ≤ n ∧ n ≤ 11
  · rw [decide_eq_true h] at CK
    obtain ⟨k, rfl⟩ : ∃ k : Nat, n = k := ⟨n.toNat, by omega⟩
    have c0 := hL.cell k (by omega)
    have hz0 : (0 : Int) ≤ (k : Int) := by omega
    have hzl : (k : Int) < 12 := by omega
    clear hL h
    generalize wdB (k : Int) = b at *
    go_enter Tryz.func5, Tryz.ntmps5
    go_wp2_with (go_at_call 21; refine (unhide CK).mono ?_; rintro e w2 ⟨rfl, rfl⟩)
    go_ret
    exact ⟨rfl, Below.refl _ _⟩
  · rw [decide_eq_false h] at CK
    rw [wdB_out h]
    clear hL h
    go_enter Tryz.func5, Tryz.ntmps5
    go_wp2_with (go_at_call 21; refine (unhide CK).mono ?_; rintro e w2 ⟨rfl, rfl⟩)
    go_ret
    exact ⟨rfl, Below.refl _ _⟩
theorem nmd_zero : nmd ⟨#[]⟩ = 0 := by kernel_rfl
theorem nmd_at0 {s : ByteArray} {k : Nat} (h : k < 12) (hw : wdB k = s) : nmd s = k := by
  by_cases h0 : k = 0
  · subst h0
    rw [← hw]
    exact nmd_zero
  · exact nmd_at (by omega) (by omega) hw
set_option maxHeartbeats 3200000 in
theorem named22_any (s : ByteArray) (w : World) (hL : Lw w) : Calls Tryz.prog 7 #[.string s] w fun e w' => e = .returned (.int .i64 (nmd s)) ∧ Below w.heap.size w w' := by
  obtain ⟨ty, fr, hg0⟩ := hL
  have HI := hide idxw
  go_enter Tryz.func7, Tryz.ntmps7
  go_wp2_with (refine wpList_load_row rfl 48 _ rfl 0 rfl ty wds22 fr _ hg0 Tryz.underlying48 rfl (by kernel_rfl) ?_)
  go_loopw [6] (fun i wr => ∃ k : Nat, k ≤ 12 ∧ i = .int .i64 (k : Int) ∧ Hid (∀ j : Nat, j < k → wdB j ≠ s) ∧ Below w.heap.size w wr) (fun i _ => 12 - (intOf i).toNat)
  case atStart => exact ⟨0, by omega, rfl, fun j h => absurd h (Nat.not_lt_zero _), Below.refl _ _⟩
  case round =>
    obtain ⟨k, hk, rfl, HK, hb⟩ := hrel
    by_cases hlt : k < 12
    · have hzl : (k : Int) < 12 := by omega
      have hz0 : (0 : Int) ≤ (k : Int) := by omega
      have hi := unhide HI k hlt
      have hq := txt22 (wdB k) s
      by_cases h : wdB k = s
      · rw [decide_eq_true h] at hq
        have HE : Hid ((k : Int) = nmd s) := (nmd_at0 hlt h).symm
        clear h HK HI
        generalize wdB (k : Int) = b at *
        go_wp2
        go_ret
        exact ⟨ret_int (unhide HE), hb⟩
      · rw [decide_eq_false h] at hq
        have HK2 : Hid (∀ j : Nat, j < k + 1 → wdB j ≠ s) := fun j b => by
          by_cases e : j = k
          · rw [e]; exact h
          · exact unhide HK j (by omega)
        clear h HK HI
        generalize wdB (k : Int) = b at *
        go_wp2
        go_roundw
        case rel => exact ⟨k + 1, by omega, by go_num, unhide HK2, hb⟩
        case measure => simp [intOf]; omega
    · have hzl : ¬ (k : Int) < 12 := by omega
      have HE : Hid (0 = nmd s) := (nmd_no fun j a b => unhide HK j (by omega)).symm
      clear HK HI
      go_wp2
      go_ret
      exact ⟨ret_int (unhide HE), hb⟩
set_option maxHeartbeats 3200000 in
theorem ord22_any (n : Int) (w : World) : Calls Tryz.prog 9 #[.int .i64 n] w fun e w' => e = .returned (.bool (ordB n)) ∧ Below w.heap.size w w' := by
  by_cases h : n = 1 ∨ n = 2 ∨ n = 3 ∨ n = 5 ∨ n = 7 ∨ n = 10
  · rcases h with rfl | rfl | rfl | rfl | rfl | rfl
    all_goals
      go_enter Tryz.func9, Tryz.ntmps9
      go_wp2
      go_ret
      exact ⟨rfl, Below.refl _ _⟩
  · rw [show ordB n = false from decide_eq_false h]
    have e1 : (n == 1) = false := by rw [beq_eq_false_iff_ne]; omega
    have e2 : (n == 2) = false := by rw [beq_eq_false_iff_ne]; omega
    have e3 : (n == 3) = false := by rw [beq_eq_false_iff_ne]; omega
    have e5 : (n == 5) = false := by rw [beq_eq_false_iff_ne]; omega
    have e7 : (n == 7) = false := by rw [beq_eq_false_iff_ne]; omega
    have e10 : (n == 10) = false := by rw [beq_eq_false_iff_ne]; omega
    clear h
    go_enter Tryz.func9, Tryz.ntmps9
    go_wp2
    go_ret
    exact ⟨rfl, Below.refl _ _⟩
set_option maxHeartbeats 3200000 in
theorem way22_any (n : Int) (w : World) : Calls Tryz.prog 11 #[.int .i64 n] w fun e w' => e = .returned (.int .i64 (wayN n)) ∧ Below w.heap.size w w' := by
  by_cases h : n = 1 ∨ n = 2 ∨ n = 7 ∨ n = 8
  · rcases h with rfl | rfl | rfl | rfl
    all_goals
      go_enter Tryz.func11, Tryz.ntmps11
      go_wp2
      go_ret
      exact ⟨rfl, Below.refl _ _⟩
  · have HE : Hid (wayN n = 0) := by show _ = _; unfold wayN; rw [if_neg (by omega), if_neg (by omega), if_neg (by omega), if_neg (by omega)]
    rw [unhide HE]
    have e1 : (n == 1) = false := by rw [beq_eq_false_iff_ne]; omega
    have e2 : (n == 2) = false := by rw [beq_eq_false_iff_ne]; omega
    have e7 : (n == 7) = false := by rw [beq_eq_false_iff_ne]; omega
    have e8 : (n == 8) = false := by rw [beq_eq_false_iff_ne]; omega
    clear h HE
    go_enter Tryz.func11, Tryz.ntmps11
    go_wp2
    go_ret
    exact ⟨rfl, Below.refl _ _⟩
end Go.Proofs.YtefobkgifigclaaGreatDoor
