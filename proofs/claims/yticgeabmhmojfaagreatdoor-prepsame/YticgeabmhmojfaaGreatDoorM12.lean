/- What may not be in a value, plainly. -/
import Derived.Test.YticgeabmhmojfaaGreatDoorM11
import Derived.Test.YticgeabmhmojfaaGreatDoorM02
import Derived.Test.YticgeabmhmojfaaGreatDoorM08
import Derived.Test.YticgeabmhmojfaaGreatDoorM05
import Derived.Test.YticgeabmhmojfaaGreatDoorM01
import Derived.Laws.AppendOwnNone
import Derived.Maps.AppendAt
namespace Go.Proofs.YticgeabmhmojfaaGreatDoor
set_option maxRecDepth 100000

def fitB (r : Int) : Bool := decide (kd r ≠ 0) && decide (kd r ≠ 7)
/-- How many stand ahead of the first that is not fit. -/
def chkN : List Int → Nat
  | [] => 0
  | x :: t => if fitB x then chkN t + 1 else 0
def chkE (l : List Int) : Int := if chkN l = l.length then 0 else 30
theorem chk_le : ∀ l, chkN l ≤ l.length
  | [] => Nat.le_refl _
  | x :: t => by
    have := chk_le t
    simp only [chkN]
    split <;> simp only [List.length_cons] <;> omega
theorem chk_yes : ∀ (l : List Int) (j : Nat), j ≤ chkN l → j < l.length → fitB (l.getD j 0) = true → j + 1 ≤ chkN l
  | [], j, _, h, _ => by simp at h
  | x :: t, 0, _, _, hf => by
    have hf' : fitB x = true := hf
    simp only [chkN, hf', if_true]
    omega
  | x :: t, j + 1, hj, h, hf => by
    simp only [chkN] at hj ⊢
    split at hj
    · rename_i hx
      rw [if_pos hx]
      have := chk_yes t j (by omega) (by simpa using h) hf
      omega
    · omega
theorem chk_no : ∀ (l : List Int) (j : Nat), j ≤ chkN l → j < l.length → fitB (l.getD j 0) = false → chkN l = j
  | [], j, _, h, _ => by simp at h
  | x :: t, 0, _, _, hf => by
    have hf' : fitB x = false := hf
    simp [chkN, hf']
  | x :: t, j + 1, hj, h, hf => by
    simp only [chkN] at hj ⊢
    split at hj
    · rename_i hx
      rw [if_pos hx, chk_no t j (by omega) (by simpa using h) hf]
    · omega
theorem chk_app : ∀ (a b : List Int), chkN (a ++ b) = if chkN a = a.length then a.length + chkN b else chkN a
  | [], b => by simp [chkN]
  | x :: t, b => by
    have ih := chk_app t b
    simp only [List.cons_append, chkN]
    split
    · rw [ih]
      by_cases h : chkN t = t.length
      · rw [if_pos h, if_pos (by simp [h])]
        simp only [List.length_cons]; omega
      · rw [if_neg h, if_neg (by simpa using h)]
    · rw [if_neg (by simp)]
theorem chk_all (l : List Int) : chkN l = l.length ↔ ∀ x, x ∈ l → fitB x = true := by
  induction l with
  | nil => simp [chkN]
  | cons x t ih =>
    simp only [chkN, List.length_cons, List.mem_cons, forall_eq_or_imp]
    split
    · rename_i h
      rw [← ih]
      constructor
      · intro h2; exact ⟨h, by omega⟩
      · intro h2; omega
    · rename_i h
      constructor
      · intro h2; omega
      · intro h2; exact absurd h2.1 h

/-- The bytes of a text are those of its code points. -/
theorem ok_back {s : ByteArray} (h : ruOk s = true) : nums s = encL (ruP s) ∧ okL (ruP s) = true := by
  have hr : runN s.size (nums s) = s.size := by simpa [ruOk] using h
  have hb := runP_back s.size (nums s) (nums_bound s)
  unfold ruP
  rw [h]
  simp only [if_true]
  refine ⟨?_, hb.1⟩
  rw [hb.2, hr, ← nums_length, List.take_length]
theorem ok_of {s : ByteArray} {l : List Int} (h : nums s = encL l) (hl : okL l = true) : ruOk s = true ∧ ruP s = l := by
  have hs : (encL l).length = s.size := by rw [← h, nums_length]
  obtain ⟨h1, h2⟩ := run_enc l hl s.size (by omega)
  have hk : ruOk s = true := by
    unfold ruOk
    rw [h, h2]
    simp [hs]
  refine ⟨hk, ?_⟩
  unfold ruP
  rw [hk, h, h1]
  rfl
def txN (P : List Int) : Nat := (encL (P.take (chkN P))).length
def txA (s : ByteArray) : Int := if ruOk s then (txN (ruP s) : Int) else ruA s
def txE (s : ByteArray) : Int := if ruOk s then chkE (ruP s) else 10
def onlyB (s : ByteArray) (ks : List Int) : Bool := ruOk s && (ruP s).all fun x => decide (kd x ∈ ks)
theorem encL_take (P : List Int) (j : Nat) (h : j < P.length) : (encL (P.take (j + 1))) = encL (P.take j) ++ enc1 (P.getD j 0) := by
  rw [take_snoc P j h, encL_append]
  simp [encL]
theorem okL_at (P : List Int) (h : okL P = true) (j : Nat) (hj : j < P.length) : isPt (P.getD j 0) = true := by
  unfold okL at h
  rw [List.all_eq_true] at h
  exact h _ (by simp [List.getD, hj])
theorem enc1_pos (r : Int) (h : isPt r = true) : 0 < (enc1 r).length := by
  have h1 := enc1_len h
  have h2 : 0 < lenOf r := by unfold lenOf; rw [h]; simp only [if_true]; repeat (first | omega | split)
  omega
/-- What is read at the place of the code point j. -/
theorem read_at (s : ByteArray) (hk : ruOk s = true) (j : Nat) (hj : j < (ruP s).length) : (encL ((ruP s).take j)).length < s.size ∧ decR (from_ s ((encL ((ruP s).take j)).length : Int)) = (ruP s).getD j 0 ∧ decN (from_ s ((encL ((ruP s).take j)).length : Int)) = ((enc1 ((ruP s).getD j 0)).length : Int) := by
  obtain ⟨h1, h2⟩ := ok_back hk
  generalize ruP s = P at *
  have hp := okL_at P h2 j hj
  have e : nums s = encL (P.take j) ++ (enc1 (P.getD j 0) ++ encL (P.drop (j + 1))) := by
    rw [h1, ← List.append_assoc, ← encL_take P j hj, ← encL_append, List.take_append_drop]
  have hl := congrArg List.length e
  rw [nums_length, List.length_append, List.length_append] at hl
  have hpos := enc1_pos _ hp
  have hf : from_ s ((encL (P.take j)).length : Int) = enc1 (P.getD j 0) ++ encL (P.drop (j + 1)) := by
    unfold from_
    rw [Int.toNat_natCast, e, List.drop_left]
  obtain ⟨d1, d2⟩ := dec_enc _ hp (encL (P.drop (j + 1)))
  rw [hf]
  exact ⟨by omega, d2, d1⟩
theorem size_all (s : ByteArray) (hk : ruOk s = true) : (encL (ruP s)).length = s.size := by
  rw [← (ok_back hk).1, nums_length]
end Go.Proofs.YticgeabmhmojfaaGreatDoor
/- The document's Fit, Check, Text and Only. -/
namespace Go.Proofs.YticgeabmhmojfaaGreatDoor
set_option maxRecDepth 100000
open Go.RowKit

theorem ret_pair {a b a' b' : Int} (h : a = a') (h' : b = b') : Ending.returned (.tuple #[.int .i64 a, .int .i64 b]) = .returned (.tuple #[.int .i64 a', .int .i64 b']) := by rw [h, h']
theorem ints_below {w w2 : World} {v : Value} {l : List Int} (h : Ints w v l) (hb : Below w.heap.size w w2) : Ints w2 v l := by
  obtain ⟨a, cap, rfl, hc⟩ := h
  refine ⟨a, cap, rfl, fun i => ?_⟩
  obtain ⟨b, off, rfl, hcc⟩ := hc i
  exact ⟨b, off, rfl, fun j hj => (hb.cell (p := ⟨b, off + j, none⟩) (cell_lt (hcc j hj))).trans (hcc j hj)⟩
theorem runp_len (f : Nat) : ∀ L, (runP f L).length ≤ f := by
  induction f with
  | zero => intro L; simp [runP]
  | succ f ih =>
    intro L
    simp only [runP]
    split
    · simp
    · simp only [List.length_cons]
      have := ih (L.drop (decN L).toNat)
      omega
theorem rup_len (s : ByteArray) : (ruP s).length ≤ s.size := by
  unfold ruP
  split
  · exact runp_len _ _
  · simp
end Go.Proofs.YticgeabmhmojfaaGreatDoor
/- Contracts of the landed guard: Fit, Check, Text, Only. -/
namespace Go.Proofs.YticgeabmhmojfaaGreatDoor
set_option maxRecDepth 100000
open Go.RowKit

/-- How many stand ahead of the first that is not so. -/
def ahN (p : Int → Bool) : List Int → Nat
  | [] => 0
  | x :: t => if p x then ahN p t + 1 else 0
theorem ah_le (p : Int → Bool) : ∀ l, ahN p l ≤ l.length
  | [] => Nat.le_refl _
  | x :: t => by
    have := ah_le p t
    simp only [ahN]
    split <;> simp only [List.length_cons] <;> omega
theorem ah_yes (p : Int → Bool) : ∀ (l : List Int) (j : Nat), j ≤ ahN p l → j < l.length → p (l.getD j 0) = true → j + 1 ≤ ahN p l
  | [], j, _, h, _ => by simp at h
  | x :: t, 0, _, _, hf => by
    have hf' : p x = true := hf
    simp only [ahN, hf', if_true]
    omega
  | x :: t, j + 1, hj, h, hf => by
    simp only [ahN] at hj ⊢
    split at hj
    · rename_i hx
      rw [if_pos hx]
      have := ah_yes p t j (by omega) (by simpa using h) hf
      omega
    · omega
theorem ah_no (p : Int → Bool) : ∀ (l : List Int) (j : Nat), j ≤ ahN p l → j < l.length → p (l.getD j 0) = false → ahN p l = j
  | [], j, _, h, _ => by simp at h
  | x :: t, 0, _, _, hf => by
    have hf' : p x = false := hf
    simp [ahN, hf']
  | x :: t, j + 1, hj, h, hf => by
    simp only [ahN] at hj ⊢
    split at hj
    · rename_i hx
      rw [if_pos hx, ah_no p t j (by omega) (by simpa using h) hf]
    · omega
theorem ah_fit : ∀ l, ahN fitB l = chkN l
  | [] => rfl
  | x :: t => by simp only [ahN, chkN, ah_fit t]
theorem ah_iff (p : Int → Bool) (l : List Int) : ahN p l = l.length ↔ l.all p = true := by
  induction l with
  | nil => simp [ahN]
  | cons x t ih =>
    simp only [ahN, List.length_cons, List.all_cons, Bool.and_eq_true]
    rw [← ih]
    split
    · rename_i h
      constructor
      · intro h2; exact ⟨h, by omega⟩
      · intro h2; omega
    · rename_i h
      constructor
      · intro h2; omega
      · intro h2; exact absurd h2.1 h
theorem ah_all (p : Int → Bool) (l : List Int) : decide (ahN p l = l.length) = l.all p := by
  rw [Bool.eq_iff_iff, decide_eq_true_iff]
  exact ah_iff p l
theorem ret_ib {a a' : Int} {b b' : Bool} (h : a = a') (h' : b = b') : Ending.returned (.tuple #[.int .i64 a, .bool b]) = .returned (.tuple #[.int .i64 a', .bool b']) := by rw [h, h']
theorem ints_new (W : World) (zs : List Int) (cs : Array Value) (T : TypeId) (hcs : cs.toList = zs.map (Value.int .i64)) : Ints (W.alloc (.cells cs T)) (.slice (some ⟨W.heap.size, 0, none⟩) zs.length zs.length) zs := by
  refine ⟨_, _, rfl, fun _ => ⟨W.heap.size, 0, rfl, fun j hj => ?_⟩⟩
  rw [World.cell?_alloc_mark, Nat.zero_add]
  have : cs.toList[j]? = some (.int .i64 (zs.getD j 0)) := by rw [hcs]; simp [List.getD, hj]
  simpa using this
set_option maxHeartbeats 1600000 in
/-- ahead, whatever it is handed. -/
theorem ahead10_any (g : Nat) (cb : Array Value) (p : Int → Bool) (v : Value) (l : List Int) (w : World) (eg : ∀ args w, (callFunc g args).run Tryz.prog w = .ok (.enter g args) w) (hlen : l.length ≤ 20000) (hR : Row w v l)
    (hf : ∀ (W : World) (x : Int), Below w.heap.size w W → Calls Tryz.prog g (#[.int .i32 x] ++ cb) W fun e w' => e = .returned (.bool (p x)) ∧ Below W.heap.size W w') :
    Calls Tryz.prog 30 #[v, .func (.func g) #[] cb] w fun e w' => e = .returned (.tuple #[.int .i64 (ahN p l : Int), .bool (decide (ahN p l = l.length))]) ∧ Below w.heap.size w w' := by
  have HF := hide hf
  clear hf
  obtain ⟨a, cap, rfl, hc⟩ := hR
  by_cases h0 : 0 < l.length
  · obtain ⟨b, off, rfl, hcc⟩ := hc h0
    have HC := hide hcc
    clear hc hcc
    go_enter Tryz.func30, Tryz.ntmps30
    go_wp2
    go_loopw [10] (fun i wr => ∃ k : Nat, k ≤ l.length ∧ i = .int .i64 (k : Int) ∧ Hid (k ≤ ahN p l) ∧ Below w.heap.size w wr) (fun i _ => l.length - (intOf i).toNat)
    case atStart => exact ⟨0, Nat.zero_le _, rfl, Nat.zero_le _, Below.refl _ _⟩
    case round =>
      obtain ⟨k, hk, rfl, HK, hb⟩ := hrel
      by_cases hlt : k < l.length
      · have hzl : (k : Int) < (l.length : Int) := by omega
        have hz0 : (0 : Int) ≤ (k : Int) := by omega
        have k1 := (hb.cell (by exact cell_lt (unhide HC k hlt))).trans (unhide HC k hlt)
        have HY := hide (ah_yes p l k (unhide HK) hlt)
        have HO := hide (ah_no p l k (unhide HK) hlt)
        have hx := unhide HF wr (l.getD k 0) hb
        generalize l.getD k 0 = x at *
        cases hp : p x <;> rw [hp] at hx
        · have HE := hide (unhide HO hp)
          have HD : Hid (decide (ahN p l = l.length) = false) := by show _ = _; rw [unhide HE]; simp; omega
          clear hp HY HO
          go_wp2_with (refine hx.mono ?_; rintro e w2 ⟨rfl, b2⟩)
          go_ret2
          exact ⟨ret_ib (by rw [unhide HE]) (unhide HD).symm, hb.trans (b2.mono hb.size)⟩
        · have HK2 := hide (unhide HY hp)
          clear hp HY HO
          go_wp2_with (refine hx.mono ?_; rintro e w2 ⟨rfl, b2⟩)
          go_roundw
          case rel => exact ⟨k + 1, by omega, by go_num, HK2, hb.trans (b2.mono hb.size)⟩
          case measure => simp [intOf]; omega
      · have hzl : ¬ (k : Int) < (l.length : Int) := by omega
        obtain rfl : k = l.length := by omega
        have HE : Hid (ahN p l = l.length) := Nat.le_antisymm (ah_le p l) (unhide HK)
        have HD : Hid (decide (ahN p l = l.length) = true) := by show _ = _; rw [unhide HE]; simp
        go_wp2
        go_ret2
        exact ⟨ret_ib (by rw [unhide HE]) (unhide HD).symm, hb⟩
  · obtain rfl : l = [] := List.length_eq_zero_iff.1 (by omega)
    go_enter Tryz.func30, Tryz.ntmps30
    go_wp2
    refine wp_loop_rounds 1 ?_
    rw [rounds_succ]
    go_wp2
    go_ret2
    exact ⟨rfl, Below.refl _ _⟩

set_option maxHeartbeats 400000 in
theorem gfit_any (r : Int) (w : World) : Calls Tryz.prog 31 #[.int .i32 r] w fun e w' => e = .returned (.bool (fitB r)) ∧ Below w.heap.size w w' := by
  have HI := hide (is_any r (.slice (some ⟨w.heap.size, 0, none⟩) 2 2) [0, 7] (w.alloc (.cells #[.int .i64 0, .int .i64 7] 3)) (ints_new w [0, 7] _ _ rfl) (by decide))
  have HE : Hid ((!decide (kd r ∈ [0, 7])) = fitB r) := by
    show _ = _
    unfold fitB
    by_cases h0 : kd r = 0
    · simp [h0]
    · by_cases h7 : kd r = 7 <;> simp [h0, h7]
  generalize decide (kd r ∈ [0, 7]) = z at *
  generalize fitB r = y at *
  go_enter Tryz.func31, Tryz.ntmps31
  go_wp2_with (go_at_call 48; refine (unhide HI).mono ?_; rintro e w1 ⟨rfl, g1⟩)
  go_ret
  exact ⟨ret_bool (unhide HE), below_new g1.below⟩

set_option maxHeartbeats 400000 in
theorem gcheck_any (v : Value) (l : List Int) (w : World) (hlen : l.length ≤ 10000) (hR : Row w v l) :
    Calls Tryz.prog 20 #[v] w fun e w' => e = .returned (.tuple #[.int .i64 (chkN l : Int), .int .i64 (chkE l)]) ∧ Below w.heap.size w w' := by
  have HA := hide (ahead10_any 31 #[] fitB v l w (enters_of Tryz.func31 (by kernel_rfl) rfl) (by omega) hR (fun W x _ => gfit_any x W))
  have hE : chkE l = if chkN l = l.length then 0 else 30 := rfl
  rw [ah_fit] at HA
  by_cases h : chkN l = l.length
  · rw [if_pos h] at hE
    rw [decide_eq_true h] at HA
    rw [hE]
    generalize (chkN l : Int) = A at *
    clear hR hlen h hE
    go_enter Tryz.func20, Tryz.ntmps20
    go_wp2_with (go_at_call 30; refine (unhide HA).mono ?_; rintro e w1 ⟨rfl, b1⟩)
    go_ret2
    exact ⟨rfl, b1⟩
  · rw [if_neg h] at hE
    rw [decide_eq_false h] at HA
    rw [hE]
    generalize (chkN l : Int) = A at *
    clear hR hlen h hE
    go_enter Tryz.func20, Tryz.ntmps20
    go_wp2_with (go_at_call 30; refine (unhide HA).mono ?_; rintro e w1 ⟨rfl, b1⟩)
    go_ret2
    exact ⟨rfl, b1⟩

theorem Rn.room {w : World} {B : Nat} {v : Value} {l : List Int} (h : Rn B v l w) : ∃ a c, v = .slice a l.length c ∧ l.length ≤ c ∧ (a = none → l = []) := by
  rcases h.2 with ⟨hv, h0⟩ | ⟨g, cap, cur, hv, _, _, hc, _⟩
  · exact ⟨none, 0, by rw [hv, h0], by omega, fun _ => List.length_eq_zero_iff.1 h0⟩
  · exact ⟨_, cap, hv, hc, fun h => by cases h⟩
theorem Row.take {w : World} {a : Option Addr} {N c : Nat} {l : List Int} (hN : N = l.length) (h : Row w (.slice a N c) l) (n : Nat) (hn : n ≤ l.length) (c2 : Nat) : Row w (.slice a n c2) (l.take n) := by
  obtain ⟨a', cap, hv, hc⟩ := h
  cases hv
  have hl : (l.take n).length = n := by simp; omega
  refine ⟨a, c2, by rw [hl], fun hi => ?_⟩
  obtain ⟨b, off, e, hcc⟩ := hc (by omega)
  refine ⟨b, off, e, fun j hj => ?_⟩
  rw [hcc j (by omega)]
  have hj2 : j < n := by omega
  simp [List.getD, hj2]
theorem okL_take {l : List Int} (h : okL l = true) (n : Nat) : okL (l.take n) = true := by
  unfold okL at *
  rw [List.all_eq_true] at *
  exact fun x hx => h x (List.mem_of_mem_take hx)
end Go.Proofs.YticgeabmhmojfaaGreatDoor
/- Spaces and hyphens that mean nothing, plainly: what is told of them, for any marks. -/
namespace Go.Proofs.YticgeabmhmojfaaGreatDoor
set_option maxRecDepth 100000

section
variable (M : Int → Bool)
/-- No mark stands first. -/
def fre : List Int → Bool
  | [] => true
  | y :: _ => !M y
def hy (x : Int) : Bool := decide (x = 45 ∨ x = 8208 ∨ x = 8722)
/-- Is x, ahead of t, a space; a hyphen? -/
def sp (x : Int) (t : List Int) : Bool := decide (x = 32) && fre M t
def hp (x : Int) (t : List Int) : Bool := hy x && fre M t
def numL : List Int → List Int
  | [] => []
  | x :: t => if sp M x t then numL t else x :: numL t
def phL : List Int → List Int
  | [] => []
  | x :: t => if sp M x t || hp M x t then phL t else x :: phL t
/-- The words, two spaces between each two: s: has a word begun; o: was the last a space? -/
def inn : Bool → Bool → List Int → List Int
  | _, _, [] => []
  | s, o, x :: t => if sp M x t then inn s true t else (if o && s then [32, 32] else []) ++ x :: inn true false t
def firmL (l : List Int) : List Int := if fre M l then l else 32 :: l
def valL (l : List Int) : List Int := 32 :: (inn M false false (firmL M l) ++ [32])
def spF : List Int → Bool
  | [] => false
  | x :: t => sp M x t
def lastSp (l : List Int) : Bool := decide (l.getLast? = some 32)
/-- A piece, of characters that are firm where they must be. -/
def pieM (k : Int) (l : List Int) : List Int :=
  if inn M false false l = [] then (if l ≠ [] ∨ k ≠ 2 then [32] else [])
  else (if k = 1 ∨ spF M l = true then [32] else []) ++ (inn M false false l ++ (if k = 3 ∨ lastSp l = true then [32] else []))
def pieL (k : Int) (l : List Int) : List Int := if k = 1 then pieM M 1 (firmL M l) else if k = 2 ∨ k = 3 then pieM M k l else []
end

section
variable {M : Int → Bool}
theorem sp_iff {x : Int} {t : List Int} : sp M x t = true ↔ x = 32 ∧ fre M t = true := by simp [sp]
theorem sp_fre {x : Int} {t : List Int} (h : sp M x t = true) : fre M t = true := (sp_iff.1 h).2
theorem inn_sp {s o : Bool} {x : Int} {t : List Int} (h : sp M x t = true) : inn M s o (x :: t) = inn M s true t := by simp [inn, h]
theorem inn_no {s o : Bool} {x : Int} {t : List Int} (h : sp M x t = false) : inn M s o (x :: t) = (if o && s then [32, 32] else []) ++ x :: inn M true false t := by simp [inn, h]
theorem num_sp {x : Int} {t : List Int} (h : sp M x t = true) : numL M (x :: t) = numL M t := by simp [numL, h]
theorem num_no {x : Int} {t : List Int} (h : sp M x t = false) : numL M (x :: t) = x :: numL M t := by simp [numL, h]
theorem fre_firm (h0 : M 32 = false) (l : List Int) : fre M (firmL M l) = true := by
  unfold firmL
  split
  · assumption
  · simp [fre, h0]
/-- Where no mark stands first, none stands first of the words. -/
theorem fre_inn (Z : List Int) (hZ : fre M Z = true) : ∀ (t : List Int) (o : Bool), fre M t = true → fre M (inn M false o t ++ Z) = true
  | [], _, _ => hZ
  | x :: t, o, h => by
    cases hs : sp M x t
    · rw [inn_no hs]
      simp only [Bool.and_false, Bool.false_eq_true, if_false, List.nil_append, List.cons_append]
      exact h
    · rw [inn_sp hs]
      exact fre_inn Z hZ t true (sp_fre hs)
/-- What is no space stays none. -/
theorem sp_keep (h0 : M 32 = false) (Z : List Int) {x : Int} {t : List Int} (h : sp M x t = false) : sp M x (inn M true false t ++ Z) = false := by
  by_cases hx : x = 32
  · cases t with
    | nil => simp [sp, fre, hx] at h
    | cons y t =>
      have hy : M y = true := by simpa [sp, fre, hx] using h
      have hn : y ≠ 32 := fun e => by rw [e, h0] at hy; cases hy
      have hs : sp M y t = false := by simp [sp, hn]
      rw [inn_no hs]
      simp [sp, fre, hy]
  · simp [sp, hx]
theorem inn_end (s o : Bool) (Z : List Int) (hZ : Z = [] ∨ Z = [32]) : inn M s o Z = [] := by
  rcases hZ with rfl | rfl
  · rfl
  · rw [inn_sp (by simp [sp, fre])]; rfl
theorem again_t (h0 : M 32 = false) (Z : List Int) (hZ : Z = [] ∨ Z = [32]) : ∀ (t : List Int) (o : Bool), (o = true → fre M t = true) → inn M true false (inn M true o t ++ Z) = inn M true o t
  | [], _, _ => inn_end _ _ Z hZ
  | x :: t, o, h => by
    cases hs : sp M x t
    · rw [inn_no hs]
      have ih := again_t h0 Z hZ t false (fun h => by cases h)
      have hk := sp_keep h0 Z hs
      cases o
      · simp only [Bool.false_and, Bool.false_eq_true, if_false, List.nil_append, List.cons_append]
        rw [inn_no hk, ih]
        rfl
      · have hm : M x = false := by simpa [fre] using h rfl
        simp only [Bool.true_and, if_true, List.cons_append, List.nil_append]
        rw [inn_sp (by simp [sp, fre, h0]), inn_sp (by simp [sp, fre, hm]), inn_no hk, ih]
        rfl
    · rw [inn_sp hs]
      exact again_t h0 Z hZ t true fun _ => sp_fre hs
theorem again_f (h0 : M 32 = false) (Z : List Int) (hZ : Z = [] ∨ Z = [32]) : ∀ (t : List Int) (o o' : Bool), inn M false o' (inn M false o t ++ Z) = inn M false o t
  | [], _, _ => inn_end _ _ Z hZ
  | x :: t, o, o' => by
    cases hs : sp M x t
    · rw [inn_no hs]
      have ih := again_t h0 Z hZ t false (fun h => by cases h)
      have hk := sp_keep h0 Z hs
      simp only [Bool.and_false, Bool.false_eq_true, if_false, List.nil_append, List.cons_append]
      rw [inn_no hk, ih]
      simp
    · rw [inn_sp hs]
      exact again_f h0 Z hZ t true o'
/-- P11.5: a value of a value. -/
theorem val_again (h0 : M 32 = false) (l : List Int) : valL M (valL M l) = valL M l := by
  have hf : firmL M (valL M l) = valL M l := by
    unfold firmL
    rw [if_pos (by simp [valL, fre, h0])]
  unfold valL
  rw [show firmL M (32 :: (inn M false false (firmL M l) ++ [32])) = _ from hf]
  show 32 :: (inn M false false (32 :: (inn M false false (firmL M l) ++ [32])) ++ [32]) = _
  rw [inn_sp (by rw [sp_iff]; exact ⟨rfl, fre_inn [32] (by simp [fre, h0]) _ _ (fre_firm h0 l)⟩), again_f h0 [32] (.inr rfl)]
theorem keep_num (h0 : M 32 = false) {x : Int} {t : List Int} (h : sp M x t = false) : sp M x (numL M t) = false := by
  by_cases hx : x = 32
  · cases t with
    | nil => simp [sp, fre, hx] at h
    | cons y t =>
      have hy : M y = true := by simpa [sp, fre, hx] using h
      have hn : y ≠ 32 := fun e => by rw [e, h0] at hy; cases hy
      have hs : sp M y t = false := by simp [sp, hn]
      rw [num_no hs]
      simp [sp, fre, hy]
  · simp [sp, hx]
theorem num_again (h0 : M 32 = false) : ∀ l : List Int, numL M (numL M l) = numL M l
  | [] => rfl
  | x :: t => by
    cases hs : sp M x t
    · rw [num_no hs, num_no (keep_num h0 hs), num_again h0 t]
    · rw [num_sp hs, num_again h0 t]
theorem keep_ph (h0 : M 32 = false) (hh : ∀ y, hy y = true → M y = false) {x : Int} {t : List Int} (h : (sp M x t || hp M x t) = false) : (sp M x (phL M t) || hp M x (phL M t)) = false := by
  cases t with
  | nil => exact h
  | cons y t =>
    cases hm : M y
    · have hf : fre M (y :: t) = true := by simp [fre, hm]
      have h1 : decide (x = 32) = false ∧ hy x = false := by simpa [sp, hp, hf] using h
      simp [sp, hp, h1.1, h1.2]
    · have hn : y ≠ 32 := fun e => by rw [e, h0] at hm; cases hm
      have hny : hy y = false := by
        cases e : hy y
        · rfl
        · rw [hh y e] at hm; cases hm
      have hs : (sp M y t || hp M y t) = false := by simp [sp, hp, hn, hny]
      have e : phL M (y :: t) = y :: phL M t := by simp only [phL, hs]; rfl
      rw [e]
      simp [sp, hp, fre, hm]
theorem ph_again (h0 : M 32 = false) (hh : ∀ y, hy y = true → M y = false) : ∀ l : List Int, phL M (phL M l) = phL M l
  | [] => rfl
  | x :: t => by
    cases hs : (sp M x t || hp M x t)
    · have e : phL M (x :: t) = x :: phL M t := by simp only [phL, hs]; rfl
      have hk := keep_ph h0 hh hs
      have e2 : phL M (x :: phL M t) = x :: phL M (phL M t) := by simp only [phL, hk]; rfl
      rw [e, e2, ph_again h0 hh t]
    · have e : phL M (x :: t) = phL M t := by simp only [phL, hs]; rfl
      rw [e, ph_again h0 hh t]
theorem num_end (Z : List Int) (hZ : Z = [] ∨ Z = [32]) : numL M Z = [] := by
  rcases hZ with rfl | rfl
  · rfl
  · rw [num_sp (by simp [sp, fre])]; rfl
theorem num_inn (h0 : M 32 = false) (Z : List Int) (hZ : Z = [] ∨ Z = [32]) : ∀ (t : List Int) (s o : Bool), (o = true → fre M t = true) → numL M (inn M s o t ++ Z) = numL M t
  | [], _, _, _ => num_end Z hZ
  | x :: t, s, o, h => by
    cases hs : sp M x t
    · have ih := num_inn h0 Z hZ t true false (fun h => by cases h)
      have hk := sp_keep h0 Z hs
      rw [inn_no hs, num_no hs]
      by_cases hos : (o && s) = true
      · have ho : o = true := by cases o <;> simp_all
        have hm : M x = false := by simpa [fre] using h ho
        rw [if_pos hos]
        simp only [List.cons_append, List.nil_append]
        rw [num_sp (by simp [sp, fre, h0]), num_sp (by simp [sp, fre, hm]), num_no hk, ih]
      · rw [if_neg hos]
        simp only [List.cons_append, List.nil_append]
        rw [num_no hk, ih]
    · rw [inn_sp hs, num_sp hs]
      exact num_inn h0 Z hZ t s true fun _ => sp_fre hs
theorem num_firm (l : List Int) : numL M (firmL M l) = if fre M l then numL M l else 32 :: numL M l := by
  unfold firmL
  split
  · rfl
  · rename_i h
    rw [num_no (by simpa [sp] using h)]
/-- P11.6: all that is no space stays. -/
theorem num_val (h0 : M 32 = false) (l : List Int) : numL M (valL M l) = if fre M l then numL M l else 32 :: numL M l := by
  unfold valL
  rw [num_sp (by rw [sp_iff]; exact ⟨rfl, fre_inn [32] (by simp [fre, h0]) _ _ (fre_firm h0 l)⟩), num_inn h0 [32] (.inr rfl) _ _ _ (fun h => by cases h), num_firm]
theorem fre_mid (a c d : List Int) : fre M (a ++ 32 :: c) = fre M (a ++ 32 :: d) := by cases a <;> rfl
theorem sp_mid (x : Int) (a c d : List Int) : sp M x (a ++ 32 :: c) = sp M x (a ++ 32 :: d) := by unfold sp; rw [fre_mid a c d]
theorem inn_more (h0 : M 32 = false) (b : List Int) (hb : fre M b = true) : ∀ (a : List Int) (s o : Bool), inn M s o (a ++ 32 :: 32 :: b) = inn M s o (a ++ 32 :: b)
  | [], s, o => by
    show inn M s o (32 :: 32 :: b) = inn M s o (32 :: b)
    rw [inn_sp (by simp [sp, fre, h0]), inn_sp (by simp [sp, hb]), inn_sp (by simp [sp, hb])]
  | x :: a, s, o => by
    show inn M s o (x :: (a ++ 32 :: 32 :: b)) = inn M s o (x :: (a ++ 32 :: b))
    have e := sp_mid (M := M) x a (32 :: b) b
    cases hs : sp M x (a ++ 32 :: b)
    · rw [inn_no (e.trans hs), inn_no hs, inn_more h0 b hb a]
    · rw [inn_sp (e.trans hs), inn_sp hs, inn_more h0 b hb a]
/-- P11.6: a space more changes nothing. -/
theorem val_more (h0 : M 32 = false) (a b : List Int) (hb : fre M b = true) : valL M (a ++ 32 :: 32 :: b) = valL M (a ++ 32 :: b) := by
  unfold valL firmL
  rw [fre_mid a (32 :: b) b]
  split
  · rw [inn_more h0 b hb]
  · rw [show 32 :: (a ++ 32 :: 32 :: b) = (32 :: a) ++ 32 :: 32 :: b from rfl, inn_more h0 b hb]; rfl
theorem inn_app (h0 : M 32 = false) (c : List Int) (hc : fre M c = true) : ∀ (a : List Int) (s o : Bool), inn M s o (a ++ 32 :: c) = inn M s o a ++ inn M (s || decide (inn M s o a ≠ [])) true c
  | [], s, o => by
    show inn M s o (32 :: c) = [] ++ inn M (s || decide (([] : List Int) ≠ [])) true c
    rw [inn_sp (by simp [sp, hc])]
    simp
  | x :: a, s, o => by
    show inn M s o (x :: (a ++ 32 :: c)) = _
    have e : sp M x (a ++ 32 :: c) = sp M x a := by
      unfold sp
      congr 1
      cases a with
      | nil => simp [fre, h0]
      | cons y a => rfl
    cases hs : sp M x a
    · rw [inn_no (e.trans hs), inn_no hs, inn_app h0 c hc a]
      simp
    · rw [inn_sp (e.trans hs), inn_sp hs, inn_app h0 c hc a]
theorem inn_open : ∀ (c : List Int) (o : Bool), inn M true true c = if inn M false o c = [] then [] else 32 :: 32 :: inn M false o c
  | [], _ => rfl
  | x :: c, o => by
    cases hs : sp M x c
    · rw [inn_no hs, inn_no hs]; simp
    · rw [inn_sp hs, inn_sp hs]; exact inn_open c true
theorem inn_ne (h0 : M 32 = false) (l : List Int) (h : numL M l ≠ []) : inn M false false l ≠ [] := fun e => by
  have := num_inn h0 [] (.inl rfl) l false false (fun h => by cases h)
  rw [e] at this
  exact h this.symm
theorem firm_app (a d : List Int) (h : a ≠ []) : firmL M (a ++ d) = firmL M a ++ d := by
  obtain ⟨x, t, rfl⟩ := List.exists_cons_of_ne_nil h
  unfold firmL
  show (if fre M (x :: t) then _ else _) = _
  split <;> rfl
/-- P11.7: a value of three that spaces part. -/
theorem val_three (h0 : M 32 = false) (a b c : List Int) (ha : numL M a ≠ []) (hb : numL M b ≠ []) (hc : numL M c ≠ []) (fb : fre M b = true) (fc : fre M c = true) :
    valL M (a ++ 32 :: (b ++ 32 :: c)) = 32 :: (inn M false false (firmL M a) ++ 32 :: 32 :: (inn M false false b ++ 32 :: 32 :: (inn M false false c ++ [32]))) := by
  have hane : a ≠ [] := fun e => ha (by rw [e]; rfl)
  have nA : inn M false false (firmL M a) ≠ [] := inn_ne h0 _ (by rw [num_firm]; split; exact ha; simp)
  have nB := inn_ne h0 b hb
  have nC := inn_ne h0 c hc
  have hbne : b ≠ [] := fun e => hb (by rw [e]; rfl)
  have f2 : fre M (b ++ 32 :: c) = true := by
    obtain ⟨x, t, rfl⟩ := List.exists_cons_of_ne_nil hbne
    exact fb
  have e1 : inn M true true (b ++ 32 :: c) = 32 :: 32 :: (inn M false false b ++ 32 :: 32 :: inn M false false c) := by
    rw [inn_app h0 c fc]
    simp only [Bool.true_or]
    rw [inn_open b false, if_neg nB, inn_open c false, if_neg nC]
    rfl
  unfold valL
  rw [firm_app a _ hane, inn_app h0 _ f2]
  simp only [Bool.false_or, ne_eq, nA, not_false_eq_true, decide_true]
  rw [e1]
  simp
theorem pie_one (h0 : M 32 = false) (a : List Int) (ha : numL M a ≠ []) : ∃ e, (e = [] ∨ e = [32]) ∧ pieL M 1 a = 32 :: (inn M false false (firmL M a) ++ e) := by
  have nA : inn M false false (firmL M a) ≠ [] := inn_ne h0 _ (by rw [num_firm]; split; exact ha; simp)
  refine ⟨if (1 : Int) = 3 ∨ lastSp (firmL M a) = true then [32] else [], by split <;> simp, ?_⟩
  unfold pieL pieM
  rw [if_pos rfl, if_neg nA, if_pos (.inl rfl)]
  rfl
theorem pie_two (h0 : M 32 = false) (b : List Int) (hb : numL M b ≠ []) : ∃ e f, (e = [] ∨ e = [32]) ∧ (f = [] ∨ f = [32]) ∧ pieL M 2 b = e ++ (inn M false false b ++ f) := by
  have nB := inn_ne h0 b hb
  refine ⟨if (2 : Int) = 1 ∨ spF M b = true then [32] else [], if (2 : Int) = 3 ∨ lastSp b = true then [32] else [], by split <;> simp, by split <;> simp, ?_⟩
  unfold pieL pieM
  rw [if_neg (by decide), if_pos (.inl rfl), if_neg nB]
theorem pie_three (h0 : M 32 = false) (c : List Int) (hc : numL M c ≠ []) : ∃ e, (e = [] ∨ e = [32]) ∧ pieL M 3 c = e ++ (inn M false false c ++ [32]) := by
  have nC := inn_ne h0 c hc
  refine ⟨if (3 : Int) = 1 ∨ spF M c = true then [32] else [], by split <;> simp, ?_⟩
  unfold pieL pieM
  rw [if_neg (by decide), if_pos (.inr rfl), if_neg nC]
  simp
/-- P11.7: the beginning's piece stands first, the end's last, the midst's between. -/
theorem pieces_in (h0 : M 32 = false) (a b c : List Int) (ha : numL M a ≠ []) (hb : numL M b ≠ []) (hc : numL M c ≠ []) (fb : fre M b = true) (fc : fre M c = true) :
    (∃ r, valL M (a ++ 32 :: (b ++ 32 :: c)) = pieL M 1 a ++ r) ∧ (∃ p, valL M (a ++ 32 :: (b ++ 32 :: c)) = p ++ pieL M 3 c) ∧ ∃ p r, valL M (a ++ 32 :: (b ++ 32 :: c)) = p ++ (pieL M 2 b ++ r) := by
  rw [val_three h0 a b c ha hb hc fb fc]
  obtain ⟨e1, he1, p1⟩ := pie_one h0 a ha
  obtain ⟨e2, f2, he2, hf2, p2⟩ := pie_two h0 b hb
  obtain ⟨e3, he3, p3⟩ := pie_three h0 c hc
  rw [p1, p2, p3]
  generalize inn M false false (firmL M a) = A
  generalize inn M false false b = B
  generalize inn M false false c = C
  refine ⟨?_, ?_, ?_⟩
  · rcases he1 with rfl | rfl
    · exact ⟨32 :: 32 :: (B ++ 32 :: 32 :: (C ++ [32])), by simp⟩
    · exact ⟨32 :: (B ++ 32 :: 32 :: (C ++ [32])), by simp⟩
  · rcases he3 with rfl | rfl
    · exact ⟨32 :: (A ++ 32 :: 32 :: (B ++ [32, 32])), by simp⟩
    · exact ⟨32 :: (A ++ 32 :: 32 :: (B ++ [32])), by simp⟩
  · rcases he2 with rfl | rfl <;> rcases hf2 with rfl | rfl
    · exact ⟨32 :: (A ++ [32, 32]), 32 :: 32 :: (C ++ [32]), by simp⟩
    · exact ⟨32 :: (A ++ [32, 32]), 32 :: (C ++ [32]), by simp⟩
    · exact ⟨32 :: (A ++ [32]), 32 :: 32 :: (C ++ [32]), by simp⟩
    · exact ⟨32 :: (A ++ [32]), 32 :: (C ++ [32]), by simp⟩
theorem spF_inn (h0 : M 32 = false) (Z : List Int) : ∀ (t : List Int) (o : Bool), inn M false o t ≠ [] → spF M (inn M false o t ++ Z) = false
  | [], _, h => absurd rfl h
  | x :: t, o, h => by
    cases hs : sp M x t
    · rw [inn_no hs]
      simp only [Bool.and_false, Bool.false_eq_true, if_false, List.nil_append, List.cons_append, spF]
      exact sp_keep h0 Z hs
    · rw [inn_sp hs] at h ⊢
      exact spF_inn h0 Z t true h
theorem last_inn (h0 : M 32 = false) : ∀ (t : List Int) (s o : Bool), inn M s o t ≠ [] → (inn M s o t).getLast? ≠ some 32
  | [], _, _, h => absurd rfl h
  | x :: t, s, o, h => by
    cases hs : sp M x t
    · rw [inn_no hs]
      by_cases hR : inn M true false t = []
      · rw [hR]
        have hx : x ≠ 32 := fun e => by
          have := sp_keep h0 [] hs
          rw [hR] at this
          simp [sp, fre, e] at this
        simpa using hx
      · have := last_inn h0 t true false hR
        obtain ⟨y, u, e⟩ := List.exists_cons_of_ne_nil hR
        rw [e] at this ⊢
        simpa using this
    · rw [inn_sp hs] at h ⊢
      exact last_inn h0 t s true h
theorem pieM_again (h0 : M 32 = false) (k : Int) (l : List Int) (hk : k = 1 → fre M l = true) : pieM M k (pieM M k l) = pieM M k l ∧ (k = 1 → fre M (pieM M k l) = true) := by
  by_cases hm : inn M false false l = []
  · have e : pieM M k l = if l ≠ [] ∨ k ≠ 2 then [32] else [] := by unfold pieM; rw [if_pos hm]
    rw [e]
    by_cases hc : l ≠ [] ∨ k ≠ 2
    · rw [if_pos hc]
      refine ⟨?_, fun _ => by simp [fre, h0]⟩
      unfold pieM
      rw [if_pos (inn_end _ _ [32] (.inr rfl)), if_pos (.inl (by simp))]
    · rw [if_neg hc]
      have : k = 2 := by
        by_cases h : k = 2
        · exact h
        · exact absurd (.inr h) hc
      subst this
      exact ⟨rfl, fun _ => rfl⟩
  · obtain ⟨A, hA⟩ : ∃ A, A = (if k = 1 ∨ spF M l = true then [32] else [] : List Int) := ⟨_, rfl⟩
    obtain ⟨Z, hZ⟩ : ∃ Z, Z = (if k = 3 ∨ lastSp l = true then [32] else [] : List Int) := ⟨_, rfl⟩
    have hZ2 : Z = [] ∨ Z = [32] := by rw [hZ]; split <;> simp
    have hfZ : fre M Z = true := by rcases hZ2 with e | e <;> rw [e] <;> simp [fre, h0]
    have e : pieM M k l = A ++ (inn M false false l ++ Z) := by unfold pieM; rw [if_neg hm, ← hA, ← hZ]
    have hfm : k = 1 ∨ spF M l = true → fre M (inn M false false l ++ Z) = true := by
      rintro (h | h)
      · exact fre_inn Z hfZ l false (hk h)
      · cases l with
        | nil => simp [spF] at h
        | cons x t =>
          have h' : sp M x t = true := h
          rw [inn_sp h']
          exact fre_inn Z hfZ t true (sp_fre h')
    have hin : inn M false false (A ++ (inn M false false l ++ Z)) = inn M false false l := by
      by_cases hc : k = 1 ∨ spF M l = true
      · rw [hA, if_pos hc]
        show inn M false false (32 :: (inn M false false l ++ Z)) = _
        rw [inn_sp (by rw [sp_iff]; exact ⟨rfl, hfm hc⟩), again_f h0 Z hZ2]
      · rw [hA, if_neg hc]
        exact again_f h0 Z hZ2 l false false
    have hAA : (if k = 1 ∨ spF M (A ++ (inn M false false l ++ Z)) = true then [32] else [] : List Int) = A := by
      by_cases hc : k = 1 ∨ spF M l = true
      · rw [hA, if_pos hc, if_pos]
        right
        show sp M 32 (inn M false false l ++ Z) = true
        rw [sp_iff]
        exact ⟨rfl, hfm hc⟩
      · rw [hA, if_neg hc, if_neg]
        rintro (h | h)
        · exact hc (.inl h)
        · rw [List.nil_append, spF_inn h0 Z l false hm] at h
          cases h
    have hZZ : (if k = 3 ∨ lastSp (A ++ (inn M false false l ++ Z)) = true then [32] else [] : List Int) = Z := by
      by_cases hc : k = 3 ∨ lastSp l = true
      · rw [hZ, if_pos hc, if_pos]
        right
        simp [lastSp]
      · rw [hZ, if_neg hc, if_neg]
        rintro (h | h)
        · exact hc (.inl h)
        · have hl := last_inn h0 l false false hm
          obtain ⟨y, u, e2⟩ := List.exists_cons_of_ne_nil hm
          rw [e2] at h hl
          refine hl ?_
          simpa [lastSp] using h
    rw [e]
    refine ⟨?_, fun h1 => ?_⟩
    · have : pieM M k (A ++ (inn M false false l ++ Z)) = (if k = 1 ∨ spF M (A ++ (inn M false false l ++ Z)) = true then [32] else []) ++ (inn M false false l ++ (if k = 3 ∨ lastSp (A ++ (inn M false false l ++ Z)) = true then [32] else [])) := by
        conv => lhs; unfold pieM
        rw [hin, if_neg hm]
      rw [this, hAA, hZZ]
    · rw [hA, if_pos (.inl h1)]
      simp [fre, h0]
theorem firm_id {l : List Int} (h : fre M l = true) : firmL M l = l := by
  unfold firmL
  rw [if_pos h]
/-- P11.5: a piece of a piece. -/
theorem pie_again (h0 : M 32 = false) (k : Int) (l : List Int) : pieL M k (pieL M k l) = pieL M k l := by
  by_cases h1 : k = 1
  · subst h1
    obtain ⟨p1, p2⟩ := pieM_again h0 1 (firmL M l) fun _ => fre_firm h0 l
    unfold pieL
    rw [if_pos rfl, if_pos rfl]
    rw [firm_id (p2 rfl), p1]
  · by_cases h2 : k = 2 ∨ k = 3
    · have e : ∀ x, pieL M k x = pieM M k x := fun x => by unfold pieL; rw [if_neg h1, if_pos h2]
      rw [e, e]
      exact (pieM_again h0 k l fun h => absurd h h1).1
    · have e : ∀ x, pieL M k x = [] := fun x => by unfold pieL; rw [if_neg h1, if_neg h2]
      rw [e, e]
end
end Go.Proofs.YticgeabmhmojfaaGreatDoor
/- The document's lone, Space and Hyphen. -/
namespace Go.Proofs.YticgeabmhmojfaaGreatDoor
set_option maxRecDepth 100000
open Go.RowKit

def mk11 (x : Int) : Bool := decide (kd x = 3)
theorem mk11_32 : mk11 32 = false := by kernel_rfl
theorem mk11_hy (y : Int) (h : hy y = true) : mk11 y = false := by
  simp only [hy, decide_eq_true_eq] at h
  rcases h with rfl | rfl | rfl <;> kernel_rfl
def spAt (l : List Int) (i : Int) : Bool := if 0 ≤ i ∧ i < l.length then sp mk11 (l.getD i.toNat 0) (l.drop (i.toNat + 1)) else false
def hpAt (l : List Int) (i : Int) : Bool := if 0 ≤ i ∧ i < l.length then hp mk11 (l.getD i.toNat 0) (l.drop (i.toNat + 1)) else false
theorem fre_drop (l : List Int) (k : Nat) (h : k + 1 < l.length) : fre mk11 (l.drop (k + 1)) = !decide (kd (l.getD (k + 1) 0) = 3) := by
  rw [List.drop_eq_getElem_cons h]
  simp [fre, mk11, List.getD, h]
theorem fre_last (l : List Int) (k : Nat) (h : k + 1 = l.length) : fre mk11 (l.drop (k + 1)) = true := by
  rw [h, List.drop_length]; rfl

end Go.Proofs.YticgeabmhmojfaaGreatDoor
/- The document's inner, Numeric and Phone. -/
namespace Go.Proofs.YticgeabmhmojfaaGreatDoor
set_option maxRecDepth 100000
open Go.RowKit

theorem num_len {M : Int → Bool} : ∀ l : List Int, (numL M l).length ≤ l.length
  | [] => Nat.le_refl _
  | x :: t => by
    have := num_len (M := M) t
    simp only [numL]
    split <;> simp <;> omega
theorem ph_len {M : Int → Bool} : ∀ l : List Int, (phL M l).length ≤ l.length
  | [] => Nat.le_refl _
  | x :: t => by
    have := ph_len (M := M) t
    simp only [phL]
    split <;> simp <;> omega
theorem inn_len {M : Int → Bool} : ∀ (l : List Int) (s o : Bool), (inn M s o l).length ≤ 3 * l.length
  | [], _, _ => Nat.le_refl _
  | x :: t, s, o => by
    have h1 := inn_len (M := M) t s true
    have h2 := inn_len (M := M) t true false
    simp only [inn]
    split
    · simp only [List.length_cons]; omega
    · split <;> simp only [List.length_append, List.length_cons, List.length_nil] <;> omega
theorem drop_at (l : List Int) (k : Nat) (h : k < l.length) : l.drop k = l.getD k 0 :: l.drop (k + 1) := by
  rw [List.drop_eq_getElem_cons h]
  simp [List.getD, h]
theorem left_len {A B C : List Int} {n : Nat} (h : A ++ B = C) (hC : C.length ≤ n) : A.length ≤ n := by
  have := congrArg List.length h
  rw [List.length_append] at this
  omega

end Go.Proofs.YticgeabmhmojfaaGreatDoor
/- The document's inner, Firm, Value and Piece. -/
namespace Go.Proofs.YticgeabmhmojfaaGreatDoor
set_option maxRecDepth 100000
open Go.RowKit

end Go.Proofs.YticgeabmhmojfaaGreatDoor
/- A row of the call's own behind another; the document's Firm and Value. -/
namespace Go.Proofs.YticgeabmhmojfaaGreatDoor
set_option maxRecDepth 100000
open Go.RowKit

/-- append of a row of the call's own, be it nil or not. -/
theorem wpList_append_rn (w : World) {ops : Array Oper} {rest : List Oper} {o : Oper} {a : Act} {Q : Exit → Act → World → Prop} (hgd : o.guard = none) (s x : Operand)
    (ho : o.op = .call { callee := .builtin .append, args := #[s, x], argTypes := #[35, 35] })
    (base : Nat) (i : TypeInfo) (hi : Tryz.prog.info? 21 = some i) (hz : i.zero = some (.int .i32 0)) (hsize : i.size = 1) (hby : i.bytes = 4)
    (v : Value) (n : Nat) (xs : List Value) (hs : a.eval s = v) (hown : w.ownsRow base 21 1 v n xs)
    (u : Value) (l : List Int) (C : Nat) (hx : a.eval x = u) (hu : Rn C u l w) (h63 : n + l.length ≤ maxLen) (hbytes : (n + l.length) * 4 ≤ 140737488355328) (hbase : base ≤ w.heap.size)
    (h : ∀ v' w', w'.ownsRow base 21 1 v' (n + l.length) (xs ++ l.map (Value.int .i32)) → w.grownBy w' v.ownBlock → wpList Tryz.prog ops Q rest (a.put o.dst v') w') :
    wpList Tryz.prog ops Q (o :: rest) a w := by
  have hu' := hu
  rcases hu.2 with ⟨hv, h0⟩ | ⟨g, cap, cur, hv, _⟩
  · have hl : l = [] := List.length_eq_zero_iff.1 h0
    subst hl hv
    refine wpList_append_own_none hgd s x 35 ho base 21 i 1 Tryz.underlying35 hi v n xs hs hown hx (h v w (by simpa using hown) ?_)
    exact ⟨rfl, rfl, rfl, Nat.le_refl _, fun _ _ _ => rfl⟩
  · subst hv
    exact wpList_append_own_at w hgd s x 35 ho base 21 i _ 1 4 Tryz.underlying35 hi hz hsize hby rfl (by omega) v n xs hs hown ⟨g, 0, none⟩ l.length cap (l.map (Value.int .i32)) hx (by simp) (Rn.all hu') (ints_one _) h63 hbytes hbase fun v' w' h2 h3 _ _ => h v' w' h2 h3
theorem news_of_cells {w : World} {b off : Nat} {l : List Int} (hcc : ∀ j, j < l.length → w.cell? ⟨b, off + j, none⟩ = some (.int .i32 (l.getD j 0))) : ∀ j u, (l.map (Value.int .i32))[j]? = some u → w.cell? ((⟨b, off, none⟩ : Addr).add j) = some u := fun j u hu => by
  have hj : j < l.length := by have := (List.getElem?_eq_some_iff.1 hu).1; simpa using this
  have e : (⟨b, off, none⟩ : Addr).add j = ⟨b, off + j, none⟩ := by unfold Addr.add; split <;> simp_all
  have hu' : u = .int .i32 (l.getD j 0) := by
    rw [List.getElem?_map, List.getElem?_eq_getElem hj] at hu
    simp at hu
    rw [← hu]
    simp [List.getD, hj]
  rw [e, hu']
  exact hcc j hj
theorem val_inn_len (l : List Int) (h : l.length ≤ 10000) : (inn mk11 false false (firmL mk11 l)).length ≤ 40000 := by
  have h1 := inn_len (M := mk11) (firmL mk11 l) false false
  have h2 : (firmL mk11 l).length ≤ l.length + 1 := by unfold firmL; split <;> simp
  omega
end Go.Proofs.YticgeabmhmojfaaGreatDoor
/- The document's Piece. -/
namespace Go.Proofs.YticgeabmhmojfaaGreatDoor
set_option maxRecDepth 100000
open Go.RowKit

theorem spF_at (l : List Int) (h : l ≠ []) : spAt l 0 = spF mk11 l := by
  obtain ⟨x, t, rfl⟩ := List.exists_cons_of_ne_nil h
  unfold spAt
  rw [if_pos (by simp)]
  rfl
theorem last_at (l : List Int) (h : l ≠ []) : spAt l ((l.length : Int) - 1) = lastSp l := by
  have hp : 0 < l.length := List.length_pos_iff.2 h
  unfold spAt lastSp sp
  rw [if_pos (by omega)]
  have e : ((l.length : Int) - 1).toNat = l.length - 1 := by omega
  rw [e]
  have e2 : l.drop (l.length - 1 + 1) = [] := List.drop_eq_nil_of_le (by omega)
  rw [e2, List.getLast?_eq_getElem?]
  have e3 : l[l.length - 1]? = some (l.getD (l.length - 1) 0) := by
    rw [List.getElem?_eq_getElem (by omega)]; simp [List.getD, (by omega : l.length - 1 < l.length)]
  rw [e3]
  simp [fre]
end Go.Proofs.YticgeabmhmojfaaGreatDoor
