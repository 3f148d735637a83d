/- What may not be in a value, plainly. -/
import Derived.Test.YtefobkgifigclaaGreatDoorM09
import Derived.Test.YtefobkgifigclaaGreatDoorM01
import Derived.Test.YtefobkgifigclaaGreatDoorM03
import Derived.Test.YtefobkgifigclaaGreatDoorM02
namespace Go.Proofs.YtefobkgifigclaaGreatDoor
set_option maxRecDepth 100000

def fitB (r : Int) : Bool := decide (kd r ≠ 0) && decide (kd r ≠ 7)
/-- How many stand ahead of the first that is not fit. -/
def chkN : List Int → Nat
  | [] => 0
  | x :: t => if fitB x then chkN t + 1 else 0
def chkE (l : List Int) : Int := if chkN l = l.length then 0 else 30
theorem chk_le : ∀ l, chkN l ≤ l.length
  | [] => Nat.le_refl _
  | x :: t => by
    have := chk_le t
    simp only [chkN]
    split <;> simp only [List.length_cons] <;> omega
theorem chk_yes : ∀ (l : List Int) (j : Nat), j ≤ chkN l → j < l.length → fitB (l.getD j 0) = true → j + 1 ≤ chkN l
  | [], j, _, h, _ => by simp at h
  | x :: t, 0, _, _, hf => by
    have hf' : fitB x = true := hf
    simp only [chkN, hf', if_true]
    omega
  | x :: t, j + 1, hj, h, hf => by
    simp only [chkN] at hj ⊢
    split at hj
    · rename_i hx
      rw [if_pos hx]
      have := chk_yes t j (by omega) (by simpa using h) hf
      omega
    · omega
theorem chk_no : ∀ (l : List Int) (j : Nat), j ≤ chkN l → j < l.length → fitB (l.getD j 0) = false → chkN l = j
  | [], j, _, h, _ => by simp at h
  | x :: t, 0, _, _, hf => by
    have hf' : fitB x = false := hf
    simp [chkN, hf']
  | x :: t, j + 1, hj, h, hf => by
    simp only [chkN] at hj ⊢
    split at hj
    · rename_i hx
      rw [if_pos hx, chk_no t j (by omega) (by simpa using h) hf]
    · omega
theorem chk_app : ∀ (a b : List Int), chkN (a ++ b) = if chkN a = a.length then a.length + chkN b else chkN a
  | [], b => by simp [chkN]
  | x :: t, b => by
    have ih := chk_app t b
    simp only [List.cons_append, chkN]
    split
    · rw [ih]
      by_cases h : chkN t = t.length
      · rw [if_pos h, if_pos (by simp [h])]
        simp only [List.length_cons]; omega
      · rw [if_neg h, if_neg (by simpa using h)]
    · rw [if_neg (by simp)]
theorem chk_all (l : List Int) : chkN l = l.length ↔ ∀ x, x ∈ l → fitB x = true := by
  induction l with
  | nil => simp [chkN]
  | cons x t ih =>
    simp only [chkN, List.length_cons, List.mem_cons, forall_eq_or_imp]
    split
    · rename_i h
      rw [← ih]
      constructor
      · intro h2; exact ⟨h, by omega⟩
      · intro h2; omega
    · rename_i h
      constructor
      · intro h2; omega
      · intro h2; exact absurd h2.1 h

/-- The bytes of a text are those of its code points. -/
theorem ok_back {s : ByteArray} (h : ruOk s = true) : nums s = encL (ruP s) ∧ okL (ruP s) = true := by
  have hr : runN s.size (nums s) = s.size := by simpa [ruOk] using h
  have hb := runP_back s.size (nums s) (nums_bound s)
  unfold ruP
  rw [h]
  simp only [if_true]
  refine ⟨?_, hb.1⟩
  rw [hb.2, hr, ← nums_length, List.take_length]
theorem ok_of {s : ByteArray} {l : List Int} (h : nums s = encL l) (hl : okL l = true) : ruOk s = true ∧ ruP s = l := by
  have hs : (encL l).length = s.size := by rw [← h, nums_length]
  obtain ⟨h1, h2⟩ := run_enc l hl s.size (by omega)
  have hk : ruOk s = true := by
    unfold ruOk
    rw [h, h2]
    simp [hs]
  refine ⟨hk, ?_⟩
  unfold ruP
  rw [hk, h, h1]
  rfl
def txN (P : List Int) : Nat := (encL (P.take (chkN P))).length
def txA (s : ByteArray) : Int := if ruOk s then (txN (ruP s) : Int) else ruA s
def txE (s : ByteArray) : Int := if ruOk s then chkE (ruP s) else 10
def onlyB (s : ByteArray) (ks : List Int) : Bool := ruOk s && (ruP s).all fun x => decide (kd x ∈ ks)
theorem encL_take (P : List Int) (j : Nat) (h : j < P.length) : (encL (P.take (j + 1))) = encL (P.take j) ++ enc1 (P.getD j 0) := by
  rw [take_snoc P j h, encL_append]
  simp [encL]
theorem okL_at (P : List Int) (h : okL P = true) (j : Nat) (hj : j < P.length) : isPt (P.getD j 0) = true := by
  unfold okL at h
  rw [List.all_eq_true] at h
  exact h _ (by simp [List.getD, hj])
theorem enc1_pos (r : Int) (h : isPt r = true) : 0 < (enc1 r).length := by
  have h1 := enc1_len h
  have h2 : 0 < lenOf r := by unfold lenOf; rw [h]; simp only [if_true]; repeat (first | omega | split)
  omega
/-- What is read at the place of the code point j. -/
theorem read_at (s : ByteArray) (hk : ruOk s = true) (j : Nat) (hj : j < (ruP s).length) : (encL ((ruP s).take j)).length < s.size ∧ decR (from_ s ((encL ((ruP s).take j)).length : Int)) = (ruP s).getD j 0 ∧ decN (from_ s ((encL ((ruP s).take j)).length : Int)) = ((enc1 ((ruP s).getD j 0)).length : Int) := by
  obtain ⟨h1, h2⟩ := ok_back hk
  generalize ruP s = P at *
  have hp := okL_at P h2 j hj
  have e : nums s = encL (P.take j) ++ (enc1 (P.getD j 0) ++ encL (P.drop (j + 1))) := by
    rw [h1, ← List.append_assoc, ← encL_take P j hj, ← encL_append, List.take_append_drop]
  have hl := congrArg List.length e
  rw [nums_length, List.length_append, List.length_append] at hl
  have hpos := enc1_pos _ hp
  have hf : from_ s ((encL (P.take j)).length : Int) = enc1 (P.getD j 0) ++ encL (P.drop (j + 1)) := by
    unfold from_
    rw [Int.toNat_natCast, e, List.drop_left]
  obtain ⟨d1, d2⟩ := dec_enc _ hp (encL (P.drop (j + 1)))
  rw [hf]
  exact ⟨by omega, d2, d1⟩
theorem size_all (s : ByteArray) (hk : ruOk s = true) : (encL (ruP s)).length = s.size := by
  rw [← (ok_back hk).1, nums_length]
end Go.Proofs.YtefobkgifigclaaGreatDoor
/- The document's Fit, Check, Text and Only. -/
namespace Go.Proofs.YtefobkgifigclaaGreatDoor
set_option maxRecDepth 100000
open Go.RowKit

theorem ret_pair {a b a' b' : Int} (h : a = a') (h' : b = b') : Ending.returned (.tuple #[.int .i64 a, .int .i64 b]) = .returned (.tuple #[.int .i64 a', .int .i64 b']) := by rw [h, h']
theorem ints_below {w w2 : World} {v : Value} {l : List Int} (h : Ints w v l) (hb : Below w.heap.size w w2) : Ints w2 v l := by
  obtain ⟨a, cap, rfl, hc⟩ := h
  refine ⟨a, cap, rfl, fun i => ?_⟩
  obtain ⟨b, off, rfl, hcc⟩ := hc i
  exact ⟨b, off, rfl, fun j hj => (hb.cell (p := ⟨b, off + j, none⟩) (cell_lt (hcc j hj))).trans (hcc j hj)⟩
theorem runp_len (f : Nat) : ∀ L, (runP f L).length ≤ f := by
  induction f with
  | zero => intro L; simp [runP]
  | succ f ih =>
    intro L
    simp only [runP]
    split
    · simp
    · simp only [List.length_cons]
      have := ih (L.drop (decN L).toNat)
      omega
theorem rup_len (s : ByteArray) : (ruP s).length ≤ s.size := by
  unfold ruP
  split
  · exact runp_len _ _
  · simp
end Go.Proofs.YtefobkgifigclaaGreatDoor
/- Contracts of the landed guard: Fit, Check, Text, Only. -/
namespace Go.Proofs.YtefobkgifigclaaGreatDoor
set_option maxRecDepth 100000
open Go.RowKit

/-- How many stand ahead of the first that is not so. -/
def ahN (p : Int → Bool) : List Int → Nat
  | [] => 0
  | x :: t => if p x then ahN p t + 1 else 0
theorem ah_le (p : Int → Bool) : ∀ l, ahN p l ≤ l.length
  | [] => Nat.le_refl _
  | x :: t => by
    have := ah_le p t
    simp only [ahN]
    split <;> simp only [List.length_cons] <;> omega
theorem ah_yes (p : Int → Bool) : ∀ (l : List Int) (j : Nat), j ≤ ahN p l → j < l.length → p (l.getD j 0) = true → j + 1 ≤ ahN p l
  | [], j, _, h, _ => by simp at h
  | x :: t, 0, _, _, hf => by
    have hf' : p x = true := hf
    simp only [ahN, hf', if_true]
    omega
  | x :: t, j + 1, hj, h, hf => by
    simp only [ahN] at hj ⊢
    split at hj
    · rename_i hx
      rw [if_pos hx]
      have := ah_yes p t j (by omega) (by simpa using h) hf
      omega
    · omega
theorem ah_no (p : Int → Bool) : ∀ (l : List Int) (j : Nat), j ≤ ahN p l → j < l.length → p (l.getD j 0) = false → ahN p l = j
  | [], j, _, h, _ => by simp at h
  | x :: t, 0, _, _, hf => by
    have hf' : p x = false := hf
    simp [ahN, hf']
  | x :: t, j + 1, hj, h, hf => by
    simp only [ahN] at hj ⊢
    split at hj
    · rename_i hx
      rw [if_pos hx, ah_no p t j (by omega) (by simpa using h) hf]
    · omega
theorem ah_fit : ∀ l, ahN fitB l = chkN l
  | [] => rfl
  | x :: t => by simp only [ahN, chkN, ah_fit t]
theorem ah_iff (p : Int → Bool) (l : List Int) : ahN p l = l.length ↔ l.all p = true := by
  induction l with
  | nil => simp [ahN]
  | cons x t ih =>
    simp only [ahN, List.length_cons, List.all_cons, Bool.and_eq_true]
    rw [← ih]
    split
    · rename_i h
      constructor
      · intro h2; exact ⟨h, by omega⟩
      · intro h2; omega
    · rename_i h
      constructor
      · intro h2; omega
      · intro h2; exact absurd h2.1 h
theorem ah_all (p : Int → Bool) (l : List Int) : decide (ahN p l = l.length) = l.all p := by
  rw [Bool.eq_iff_iff, decide_eq_true_iff]
  exact ah_iff p l
theorem ret_ib {a a' : Int} {b b' : Bool} (h : a = a') (h' : b = b') : Ending.returned (.tuple #[.int .i64 a, .bool b]) = .returned (.tuple #[.int .i64 a', .bool b']) := by rw [h, h']
theorem ints_new (W : World) (zs : List Int) (cs : Array Value) (T : TypeId) (hcs : cs.toList = zs.map (Value.int .i64)) : Ints (W.alloc (.cells cs T)) (.slice (some ⟨W.heap.size, 0, none⟩) zs.length zs.length) zs := by
  refine ⟨_, _, rfl, fun _ => ⟨W.heap.size, 0, rfl, fun j hj => ?_⟩⟩
  rw [World.cell?_alloc_mark, Nat.zero_add]
  have : cs.toList[j]? = some (.int .i64 (zs.getD j 0)) := by rw [hcs]; simp [List.getD, hj]
  simpa using this
set_option maxHeartbeats 1600000 in
/-- ahead, whatever it is handed. -/
theorem ahead10_any (g : Nat) (cb : Array Value) (p : Int → Bool) (v : Value) (l : List Int) (w : World) (eg : ∀ args w, (callFunc g args).run Tryz.prog w = .ok (.enter g args) w) (hlen : l.length ≤ 20000) (hR : Row w v l)
    (hf : ∀ (W : World) (x : Int), Below w.heap.size w W → Calls Tryz.prog g (#[.int .i32 x] ++ cb) W fun e w' => e = .returned (.bool (p x)) ∧ Below W.heap.size W w') :
    Calls Tryz.prog 161 #[v, .func (.func g) #[] cb] w fun e w' => e = .returned (.tuple #[.int .i64 (ahN p l : Int), .bool (decide (ahN p l = l.length))]) ∧ Below w.heap.size w w' := by
  have HF := hide hf
  clear hf
  obtain ⟨a, cap, rfl, hc⟩ := hR
  by_cases h0 : 0 < l.length
  · obtain ⟨b, off, rfl, hcc⟩ := hc h0
    have HC := hide hcc
    clear hc hcc
    go_enter Tryz.func161, Tryz.ntmps161
    go_wp2
    go_loopw [10] (fun i wr => ∃ k : Nat, k ≤ l.length ∧ i = .int .i64 (k : Int) ∧ Hid (k ≤ ahN p l) ∧ Below w.heap.size w wr) (fun i _ => l.length - (intOf i).toNat)
    case atStart => exact ⟨0, Nat.zero_le _, rfl, Nat.zero_le _, Below.refl _ _⟩
    case round =>
      obtain ⟨k, hk, rfl, HK, hb⟩ := hrel
      by_cases hlt : k < l.length
      · have hzl : (k : Int) < (l.length : Int) := by omega
        have hz0 : (0 : Int) ≤ (k : Int) := by omega
        have k1 := (hb.cell (by exact cell_lt (unhide HC k hlt))).trans (unhide HC k hlt)
        have HY := hide (ah_yes p l k (unhide HK) hlt)
        have HO := hide (ah_no p l k (unhide HK) hlt)
        have hx := unhide HF wr (l.getD k 0) hb
        generalize l.getD k 0 = x at *
        cases hp : p x <;> rw [hp] at hx
        · have HE := hide (unhide HO hp)
          have HD : Hid (decide (ahN p l = l.length) = false) := by show _ = _; rw [unhide HE]; simp; omega
          clear hp HY HO
          go_wp2_with (refine hx.mono ?_; rintro e w2 ⟨rfl, b2⟩)
          go_ret2
          exact ⟨ret_ib (by rw [unhide HE]) (unhide HD).symm, hb.trans (b2.mono hb.size)⟩
        · have HK2 := hide (unhide HY hp)
          clear hp HY HO
          go_wp2_with (refine hx.mono ?_; rintro e w2 ⟨rfl, b2⟩)
          go_roundw
          case rel => exact ⟨k + 1, by omega, by go_num, HK2, hb.trans (b2.mono hb.size)⟩
          case measure => simp [intOf]; omega
      · have hzl : ¬ (k : Int) < (l.length : Int) := by omega
        obtain rfl : k = l.length := by omega
        have HE : Hid (ahN p l = l.length) := Nat.le_antisymm (ah_le p l) (unhide HK)
        have HD : Hid (decide (ahN p l = l.length) = true) := by show _ = _; rw [unhide HE]; simp
        go_wp2
        go_ret2
        exact ⟨ret_ib (by rw [unhide HE]) (unhide HD).symm, hb⟩
  · obtain rfl : l = [] := List.length_eq_zero_iff.1 (by omega)
    go_enter Tryz.func161, Tryz.ntmps161
    go_wp2
    refine wp_loop_rounds 1 ?_
    rw [rounds_succ]
    go_wp2
    go_ret2
    exact ⟨rfl, Below.refl _ _⟩

set_option maxHeartbeats 400000 in
theorem gfit_any (r : Int) (w : World) : Calls Tryz.prog 162 #[.int .i32 r] w fun e w' => e = .returned (.bool (fitB r)) ∧ Below w.heap.size w w' := by
  have HI := hide (is_any r (.slice (some ⟨w.heap.size, 0, none⟩) 2 2) [0, 7] (w.alloc (.cells #[.int .i64 0, .int .i64 7] 3)) (ints_new w [0, 7] _ _ rfl) (by decide))
  have HE : Hid ((!decide (kd r ∈ [0, 7])) = fitB r) := by
    show _ = _
    unfold fitB
    by_cases h0 : kd r = 0
    · simp [h0]
    · by_cases h7 : kd r = 7 <;> simp [h0, h7]
  generalize decide (kd r ∈ [0, 7]) = z at *
  generalize fitB r = y at *
  go_enter Tryz.func162, Tryz.ntmps162
  go_wp2_with (go_at_call 198; refine (unhide HI).mono ?_; rintro e w1 ⟨rfl, g1⟩)
  go_ret
  exact ⟨ret_bool (unhide HE), below_new g1.below⟩

set_option maxHeartbeats 400000 in
theorem gcheck_any (v : Value) (l : List Int) (w : World) (hlen : l.length ≤ 10000) (hR : Row w v l) :
    Calls Tryz.prog 123 #[v] w fun e w' => e = .returned (.tuple #[.int .i64 (chkN l : Int), .int .i64 (chkE l)]) ∧ Below w.heap.size w w' := by
  have HA := hide (ahead10_any 162 #[] fitB v l w (enters_of Tryz.func162 (by kernel_rfl) rfl) (by omega) hR (fun W x _ => gfit_any x W))
  have hE : chkE l = if chkN l = l.length then 0 else 30 := rfl
  rw [ah_fit] at HA
  by_cases h : chkN l = l.length
  · rw [if_pos h] at hE
    rw [decide_eq_true h] at HA
    rw [hE]
    generalize (chkN l : Int) = A at *
    clear hR hlen h hE
    go_enter Tryz.func123, Tryz.ntmps123
    go_wp2_with (go_at_call 161; refine (unhide HA).mono ?_; rintro e w1 ⟨rfl, b1⟩)
    go_ret2
    exact ⟨rfl, b1⟩
  · rw [if_neg h] at hE
    rw [decide_eq_false h] at HA
    rw [hE]
    generalize (chkN l : Int) = A at *
    clear hR hlen h hE
    go_enter Tryz.func123, Tryz.ntmps123
    go_wp2_with (go_at_call 161; refine (unhide HA).mono ?_; rintro e w1 ⟨rfl, b1⟩)
    go_ret2
    exact ⟨rfl, b1⟩

theorem Rn.room {w : World} {B : Nat} {v : Value} {l : List Int} (h : Rn B v l w) : ∃ a c, v = .slice a l.length c ∧ l.length ≤ c ∧ (a = none → l = []) := by
  rcases h.2 with ⟨hv, h0⟩ | ⟨g, cap, cur, hv, _, _, hc, _⟩
  · exact ⟨none, 0, by rw [hv, h0], by omega, fun _ => List.length_eq_zero_iff.1 h0⟩
  · exact ⟨_, cap, hv, hc, fun h => by cases h⟩
theorem Row.take {w : World} {a : Option Addr} {N c : Nat} {l : List Int} (hN : N = l.length) (h : Row w (.slice a N c) l) (n : Nat) (hn : n ≤ l.length) (c2 : Nat) : Row w (.slice a n c2) (l.take n) := by
  obtain ⟨a', cap, hv, hc⟩ := h
  cases hv
  have hl : (l.take n).length = n := by simp; omega
  refine ⟨a, c2, by rw [hl], fun hi => ?_⟩
  obtain ⟨b, off, e, hcc⟩ := hc (by omega)
  refine ⟨b, off, e, fun j hj => ?_⟩
  rw [hcc j (by omega)]
  have hj2 : j < n := by omega
  simp [List.getD, hj2]
theorem okL_take {l : List Int} (h : okL l = true) (n : Nat) : okL (l.take n) = true := by
  unfold okL at *
  rw [List.all_eq_true] at *
  exact fun x hx => h x (List.mem_of_mem_take hx)
end Go.Proofs.YtefobkgifigclaaGreatDoor
