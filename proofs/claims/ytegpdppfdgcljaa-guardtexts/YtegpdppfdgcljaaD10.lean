/- Contracts of the landed guard: Fit, Check, Text, Only. -/
import Derived.Test.YtegpdppfdgcljaaRGrd10
import Derived.Test.YtegpdppfdgcljaaCls
namespace Go.Proofs.Ytegpdppfdgcljaa
open Go.RowKit

/-- How many stand ahead of the first that is not so. -/
def ahN (p : Int → Bool) : List Int → Nat
  | [] => 0
  | x :: t => if p x then ahN p t + 1 else 0
theorem ah_le (p : Int → Bool) : ∀ l, ahN p l ≤ l.length
  | [] => Nat.le_refl _
  | x :: t => by
    have := ah_le p t
    simp only [ahN]
    split <;> simp only [List.length_cons] <;> omega
theorem ah_yes (p : Int → Bool) : ∀ (l : List Int) (j : Nat), j ≤ ahN p l → j < l.length → p (l.getD j 0) = true → j + 1 ≤ ahN p l
  | [], j, _, h, _ => by simp at h
  | x :: t, 0, _, _, hf => by
    have hf' : p x = true := hf
    simp only [ahN, hf', if_true]
    omega
  | x :: t, j + 1, hj, h, hf => by
    simp only [ahN] at hj ⊢
    split at hj
    · rename_i hx
      rw [if_pos hx]
      have := ah_yes p t j (by omega) (by simpa using h) hf
      omega
    · omega
theorem ah_no (p : Int → Bool) : ∀ (l : List Int) (j : Nat), j ≤ ahN p l → j < l.length → p (l.getD j 0) = false → ahN p l = j
  | [], j, _, h, _ => by simp at h
  | x :: t, 0, _, _, hf => by
    have hf' : p x = false := hf
    simp [ahN, hf']
  | x :: t, j + 1, hj, h, hf => by
    simp only [ahN] at hj ⊢
    split at hj
    · rename_i hx
      rw [if_pos hx, ah_no p t j (by omega) (by simpa using h) hf]
    · omega
theorem ah_fit : ∀ l, ahN fitB l = chkN l
  | [] => rfl
  | x :: t => by simp only [ahN, chkN, ah_fit t]
theorem ah_iff (p : Int → Bool) (l : List Int) : ahN p l = l.length ↔ l.all p = true := by
  induction l with
  | nil => simp [ahN]
  | cons x t ih =>
    simp only [ahN, List.length_cons, List.all_cons, Bool.and_eq_true]
    rw [← ih]
    split
    · rename_i h
      constructor
      · intro h2; exact ⟨h, by omega⟩
      · intro h2; omega
    · rename_i h
      constructor
      · intro h2; omega
      · intro h2; exact absurd h2.1 h
theorem ah_all (p : Int → Bool) (l : List Int) : decide (ahN p l = l.length) = l.all p := by
  rw [Bool.eq_iff_iff, decide_eq_true_iff]
  exact ah_iff p l
theorem ret_ib {a a' : Int} {b b' : Bool} (h : a = a') (h' : b = b') : Ending.returned (.tuple #[.int .i64 a, .bool b]) = .returned (.tuple #[.int .i64 a', .bool b']) := by rw [h, h']
theorem ints_new (W : World) (zs : List Int) (cs : Array Value) (T : TypeId) (hcs : cs.toList = zs.map (Value.int .i64)) : Ints (W.alloc (.cells cs T)) (.slice (some ⟨W.heap.size, 0, none⟩) zs.length zs.length) zs := by
  refine ⟨_, _, rfl, fun _ => ⟨W.heap.size, 0, rfl, fun j hj => ?_⟩⟩
  rw [World.cell?_alloc_mark, Nat.zero_add]
  have : cs.toList[j]? = some (.int .i64 (zs.getD j 0)) := by rw [hcs]; simp [List.getD, hj]
  simpa using this
set_option maxHeartbeats 1600000 in
/-- ahead, whatever it is handed. -/
theorem ahead_any (g : Nat) (cb : Array Value) (p : Int → Bool) (v : Value) (l : List Int) (w : World) (eg : ∀ args w, (callFunc g args).run Try.prog w = .ok (.enter g args) w) (hlen : l.length ≤ 20000) (hR : Row w v l)
    (hf : ∀ (W : World) (x : Int), Below w.heap.size w W → Calls Try.prog g (#[.int .i32 x] ++ cb) W fun e w' => e = .returned (.bool (p x)) ∧ Below W.heap.size W w') :
    Calls Try.prog 16 #[v, .func (.func g) #[] cb] w fun e w' => e = .returned (.tuple #[.int .i64 (ahN p l : Int), .bool (decide (ahN p l = l.length))]) ∧ Below w.heap.size w w' := by
  have HF := hide hf
  clear hf
  obtain ⟨a, cap, rfl, hc⟩ := hR
  by_cases h0 : 0 < l.length
  · obtain ⟨b, off, rfl, hcc⟩ := hc h0
    have HC := hide hcc
    clear hc hcc
    go_enter Try.func16, Try.ntmps16
    go_wp2
    go_loopw [10] (fun i wr => ∃ k : Nat, k ≤ l.length ∧ i = .int .i64 (k : Int) ∧ Hid (k ≤ ahN p l) ∧ Below w.heap.size w wr) (fun i _ => l.length - (intOf i).toNat)
    case atStart => exact ⟨0, Nat.zero_le _, rfl, Nat.zero_le _, Below.refl _ _⟩
    case round =>
      obtain ⟨k, hk, rfl, HK, hb⟩ := hrel
      by_cases hlt : k < l.length
      · have hzl : (k : Int) < (l.length : Int) := by omega
        have hz0 : (0 : Int) ≤ (k : Int) := by omega
        have k1 := (hb.cell (by exact cell_lt (unhide HC k hlt))).trans (unhide HC k hlt)
        have HY := hide (ah_yes p l k (unhide HK) hlt)
        have HO := hide (ah_no p l k (unhide HK) hlt)
        have hx := unhide HF wr (l.getD k 0) hb
        generalize l.getD k 0 = x at *
        cases hp : p x <;> rw [hp] at hx
        · have HE := hide (unhide HO hp)
          have HD : Hid (decide (ahN p l = l.length) = false) := by show _ = _; rw [unhide HE]; simp; omega
          clear hp HY HO
          go_wp2_with (refine hx.mono ?_; rintro e w2 ⟨rfl, b2⟩)
          go_ret2
          exact ⟨ret_ib (by rw [unhide HE]) (unhide HD).symm, hb.trans (b2.mono hb.size)⟩
        · have HK2 := hide (unhide HY hp)
          clear hp HY HO
          go_wp2_with (refine hx.mono ?_; rintro e w2 ⟨rfl, b2⟩)
          go_roundw
          case rel => exact ⟨k + 1, by omega, by go_num, HK2, hb.trans (b2.mono hb.size)⟩
          case measure => simp [intOf]; omega
      · have hzl : ¬ (k : Int) < (l.length : Int) := by omega
        obtain rfl : k = l.length := by omega
        have HE : Hid (ahN p l = l.length) := Nat.le_antisymm (ah_le p l) (unhide HK)
        have HD : Hid (decide (ahN p l = l.length) = true) := by show _ = _; rw [unhide HE]; simp
        go_wp2
        go_ret2
        exact ⟨ret_ib (by rw [unhide HE]) (unhide HD).symm, hb⟩
  · obtain rfl : l = [] := List.length_eq_zero_iff.1 (by omega)
    go_enter Try.func16, Try.ntmps16
    go_wp2
    refine wp_loop_rounds 1 ?_
    rw [rounds_succ]
    go_wp2
    go_ret2
    exact ⟨rfl, Below.refl _ _⟩

set_option maxHeartbeats 400000 in
theorem gfit_any (r : Int) (w : World) : Calls Try.prog 10 #[.int .i32 r] w fun e w' => e = .returned (.bool (fitB r)) ∧ Below w.heap.size w w' := by
  have HI := hide (is_any r (.slice (some ⟨w.heap.size, 0, none⟩) 2 2) [0, 7] (w.alloc (.cells #[.int .i64 0, .int .i64 7] 3)) (ints_new w [0, 7] _ _ rfl) (by decide))
  have HE : Hid ((!decide (kd r ∈ [0, 7])) = fitB r) := by
    show _ = _
    unfold fitB
    by_cases h0 : kd r = 0
    · simp [h0]
    · by_cases h7 : kd r = 7 <;> simp [h0, h7]
  generalize decide (kd r ∈ [0, 7]) = z at *
  generalize fitB r = y at *
  go_enter Try.func10, Try.ntmps10
  go_wp2_with (go_at_call 17; refine (unhide HI).mono ?_; rintro e w1 ⟨rfl, g1⟩)
  go_ret
  exact ⟨ret_bool (unhide HE), below_new g1.below⟩

set_option maxHeartbeats 400000 in
theorem gcheck_any (v : Value) (l : List Int) (w : World) (hlen : l.length ≤ 10000) (hR : Row w v l) :
    Calls Try.prog 8 #[v] w fun e w' => e = .returned (.tuple #[.int .i64 (chkN l : Int), .int .i64 (chkE l)]) ∧ Below w.heap.size w w' := by
  have HA := hide (ahead_any 10 #[] fitB v l w (enters_of Try.func10 (by kernel_rfl) rfl) (by omega) hR (fun W x _ => gfit_any x W))
  have hE : chkE l = if chkN l = l.length then 0 else 30 := rfl
  rw [ah_fit] at HA
  by_cases h : chkN l = l.length
  · rw [if_pos h] at hE
    rw [decide_eq_true h] at HA
    rw [hE]
    generalize (chkN l : Int) = A at *
    clear hR hlen h hE
    go_enter Try.func8, Try.ntmps8
    go_wp2_with (go_at_call 16; refine (unhide HA).mono ?_; rintro e w1 ⟨rfl, b1⟩)
    go_ret2
    exact ⟨rfl, b1⟩
  · rw [if_neg h] at hE
    rw [decide_eq_false h] at HA
    rw [hE]
    generalize (chkN l : Int) = A at *
    clear hR hlen h hE
    go_enter Try.func8, Try.ntmps8
    go_wp2_with (go_at_call 16; refine (unhide HA).mono ?_; rintro e w1 ⟨rfl, b1⟩)
    go_ret2
    exact ⟨rfl, b1⟩

set_option maxHeartbeats 1600000 in
/-- length: how many bytes code points have together. -/
theorem glen_any (v : Value) (l : List Int) (w : World) (hlen : l.length ≤ 20000) (hok : okL l = true) (hR : Row w v l) :
    Calls Try.prog 20 #[v] w fun e w' => e = .returned (.int .i64 ((encL l).length : Int)) ∧ w' = w := by
  obtain ⟨a, cap, rfl, hc⟩ := hR
  by_cases h0 : 0 < l.length
  · obtain ⟨b, off, rfl, hcc⟩ := hc h0
    have HC := hide hcc
    have HL := hide length_any
    have HOK := hide hok
    clear hc hcc hok
    go_enter Try.func20, Try.ntmps20
    go_wp2
    go_loopw [3, 8] (fun y i wr => ∃ k n : Nat, k ≤ l.length ∧ i = .int .i64 (k : Int) ∧ y = .int .i64 (n : Int) ∧ n ≤ 80000 ∧ Hid (n = (encL (l.take k)).length) ∧ wr = w) (fun _ i _ => l.length - (intOf i).toNat)
    case atStart => exact ⟨0, 0, Nat.zero_le _, rfl, rfl, by omega, by show _ = _; simp [encL], rfl⟩
    case round =>
      obtain ⟨k, n, hk, rfl, rfl, hn, HN, rfl⟩ := hrel
      by_cases hlt : k < l.length
      · have hzl : (k : Int) < (l.length : Int) := by omega
        have hz0 : (0 : Int) ≤ (k : Int) := by omega
        have k1 := unhide HC k hlt
        have hp := okL_at l (unhide HOK) k hlt
        have HNX := hide (encL_take l k hlt)
        have hbd := encL_bound (l.take (k + 1))
        rw [unhide HNX, List.length_append, ← unhide HN] at hbd
        have htk : (l.take (k + 1)).length ≤ 20000 := by simp; omega
        have hen := enc1_len hp
        generalize l.getD k 0 = x at *
        obtain ⟨m, hm⟩ : ∃ m, m = (enc1 x).length := ⟨_, rfl⟩
        rw [← hm] at hbd hen
        have HX := hide (unhide HL x)
        rw [← hen] at HX
        have HK3 : Hid (n + m = (encL (l.take (k + 1))).length) := by show _ = _; rw [unhide HNX, List.length_append, ← unhide HN, ← hm]
        have hnm : n + m ≤ 80000 := by omega
        clear hm hp hen hbd htk
        go_wp2_with (go_at_call 30; refine (unhide HX _).mono ?_; rintro e w2 ⟨rfl, rfl⟩)
        go_roundw
        case rel => exact ⟨k + 1, n + m, by omega, by go_num, by go_num, hnm, HK3, trivial⟩
        case measure => simp [intOf]; omega
      · have hzl : ¬ (k : Int) < (l.length : Int) := by omega
        obtain rfl : k = l.length := by omega
        have HE : Hid (n = (encL l).length) := by have := unhide HN; rwa [List.take_length] at this
        go_wp2
        go_ret
        exact ⟨ret_int (by rw [unhide HE]), rfl⟩
  · obtain rfl : l = [] := List.length_eq_zero_iff.1 (by omega)
    go_enter Try.func20, Try.ntmps20
    go_wp2
    refine wp_loop_rounds 1 ?_
    rw [rounds_succ]
    go_wp2
    go_ret
    exact ⟨rfl, rfl⟩

theorem Rn.room {w : World} {B : Nat} {v : Value} {l : List Int} (h : Rn B v l w) : ∃ a c, v = .slice a l.length c ∧ l.length ≤ c ∧ (a = none → l = []) := by
  rcases h.2 with ⟨hv, h0⟩ | ⟨g, cap, cur, hv, _, _, hc, _⟩
  · exact ⟨none, 0, by rw [hv, h0], by omega, fun _ => List.length_eq_zero_iff.1 h0⟩
  · exact ⟨_, cap, hv, hc, fun h => by cases h⟩
theorem Row.take {w : World} {a : Option Addr} {N c : Nat} {l : List Int} (hN : N = l.length) (h : Row w (.slice a N c) l) (n : Nat) (hn : n ≤ l.length) (c2 : Nat) : Row w (.slice a n c2) (l.take n) := by
  obtain ⟨a', cap, hv, hc⟩ := h
  cases hv
  have hl : (l.take n).length = n := by simp; omega
  refine ⟨a, c2, by rw [hl], fun hi => ?_⟩
  obtain ⟨b, off, e, hcc⟩ := hc (by omega)
  refine ⟨b, off, e, fun j hj => ?_⟩
  rw [hcc j (by omega)]
  have hj2 : j < n := by omega
  simp [List.getD, hj2]
theorem okL_take {l : List Int} (h : okL l = true) (n : Nat) : okL (l.take n) = true := by
  unfold okL at *
  rw [List.all_eq_true] at *
  exact fun x hx => h x (List.mem_of_mem_take hx)
set_option maxHeartbeats 1600000 in
theorem gtext_walk (s : ByteArray) (w : World) (U F B : Int) (P Q : List Int) (n : Nat) (hle : n ≤ P.length)
    (HRU : Hid (Calls Try.prog 19 #[.string s] w fun e w' => ∃ v, e = .returned (.tuple #[v, .int .i64 U, .int .i64 0]) ∧ w'.ownsRow w.heap.size 21 1 v P.length (P.map (Value.int .i32)) ∧ Below w.heap.size w w'))
    (HCK : Hid (∀ v W, Row W v P → Calls Try.prog 8 #[v] W fun e w' => e = .returned (.tuple #[.int .i64 (n : Int), .int .i64 F]) ∧ Below W.heap.size W w'))
    (HLN : Hid (∀ v W, Row W v Q → Calls Try.prog 20 #[v] W fun e w' => e = .returned (.int .i64 B) ∧ w' = W))
    (HTK : Hid (∀ W a N c, N = P.length → Row W (.slice a N c) P → Row W (.slice a n c) Q)) :
    Calls Try.prog 12 #[.string s] w fun e w' => e = .returned (.tuple #[.int .i64 B, .int .i64 F]) ∧ Below w.heap.size w w' := by
  go_enter Try.func12, Try.ntmps12
  go_wp2_with (first
    | (go_at_call 20; refine (unhide HLN _ _ (unhide HTK _ _ _ _ rfl (unhide R2))).mono ?_; rintro e w3 ⟨rfl, e3⟩; subst e3)
    | (go_at_call 8; refine (unhide HCK _ _ (unhide R1)).mono ?_; rintro e w2 ⟨rfl, b2⟩; have R2 := hide ((unhide R1).below b2))
    | (go_at_call 19; refine (unhide HRU).mono ?_; rintro e w1 ⟨v1, rfl, o1, b1⟩; have R1 := hide (Rn.row (B := w.heap.size) o1); obtain ⟨a1, c1, hv1, hc1, hn1⟩ := Rn.room (B := w.heap.size) o1; clear o1; subst hv1; have hz1 : (n : Int) ≤ (c1 : Int) := (by omega); clear hn1))
  go_ret2
  exact ⟨rfl, b1.trans (b2.mono b1.size)⟩
set_option maxHeartbeats 1600000 in
theorem gtext_any (s : ByteArray) (w : World) (hs : s.size ≤ 10000) :
    Calls Try.prog 12 #[.string s] w fun e w' => e = .returned (.tuple #[.int .i64 (txA s), .int .i64 (txE s)]) ∧ Below w.heap.size w w' := by
  have HRU := hide (runes_any s w (by omega))
  cases hok : ruOk s
  · have HA : Hid (txA s = ruA s) := by show _ = _; unfold txA; rw [hok]; rfl
    have HE : Hid (txE s = 10) := by show _ = _; unfold txE; rw [hok]; rfl
    have hE : ruE s = 10 := by unfold ruE; rw [hok]; rfl
    rw [hE] at HRU
    generalize txA s = A at *
    generalize txE s = E at *
    generalize ruA s = U at *
    go_enter Try.func12, Try.ntmps12
    go_wp2_with (go_at_call 19; refine (unhide HRU).mono ?_; rintro e w1 ⟨v1, rfl, o1, b1⟩; clear o1)
    go_ret2
    exact ⟨ret_pair (unhide HA).symm (unhide HE).symm, b1⟩
  · have hE : ruE s = 0 := by unfold ruE; rw [hok]; rfl
    rw [hE] at HRU
    have HA : Hid (txA s = ((encL ((ruP s).take (chkN (ruP s)))).length : Int)) := by show _ = _; unfold txA; rw [hok]; rfl
    have HE : Hid (txE s = chkE (ruP s)) := by show _ = _; unfold txE; rw [hok]; rfl
    have hpt := okL_take (ok_back hok).2 (chkN (ruP s))
    have hpl : (ruP s).length ≤ 10000 := Nat.le_trans (rup_len s) hs
    have hle := chk_le (ruP s)
    have HCK := hide (fun v W h => gcheck_any v (ruP s) W hpl h)
    have HLN := hide (fun v W h => glen_any v ((ruP s).take (chkN (ruP s))) W (by simp; omega) hpt h)
    have HTK := hide (fun W a N c (hN : N = (ruP s).length) (h : Row W (.slice a N c) (ruP s)) => Row.take hN h (chkN (ruP s)) hle c)
    rw [unhide HA, unhide HE]
    exact gtext_walk s w _ _ _ _ _ _ hle HRU HCK HLN HTK
set_option maxHeartbeats 400000 in
theorem only1_any (bx : Nat) (x : Int) (v : Value) (ks : List Int) (W : World) (hk : ks.length ≤ 1000) (hx : W.cell? ⟨bx, 0, none⟩ = some v) (hI : Ints W v ks) :
    Calls Try.prog 23 (#[.int .i32 x] ++ #[.pointer (some ⟨bx, 0, none⟩)]) W fun e w' => e = .returned (.bool (decide (kd x ∈ ks))) ∧ Below W.heap.size W w' := by
  have HI := hide (is_any x v ks W hI (by omega))
  obtain ⟨a, c, rfl, -⟩ := hI
  generalize decide (kd x ∈ ks) = z at *
  go_enter Try.func23, Try.ntmps23
  go_wp2_with (go_at_call 17; refine (unhide HI).mono ?_; rintro e w1 ⟨rfl, g1⟩)
  go_ret
  exact ⟨rfl, g1.below⟩
set_option maxHeartbeats 1600000 in
theorem gonly_walk (s : ByteArray) (a : Option Addr) (N c : Nat) (w : World) (U : Int) (P : List Int) (m : Int) (z : Bool)
    (HRU : Hid (Calls Try.prog 19 #[.string s] (w.alloc (.cells #[.slice a N c] 31)) fun e w' => ∃ v, e = .returned (.tuple #[v, .int .i64 U, .int .i64 0]) ∧ w'.ownsRow (w.heap.size + 1) 21 1 v P.length (P.map (Value.int .i32)) ∧ Below (w.heap.size + 1) (w.alloc (.cells #[.slice a N c] 31)) w'))
    (HA : Hid (∀ v W, Below (w.heap.size + 1) (w.alloc (.cells #[.slice a N c] 31)) W → Row W v P → Calls Try.prog 16 #[v, .func (.func 23) #[] #[.pointer (some ⟨w.heap.size, 0, none⟩)]] W fun e w' => e = .returned (.tuple #[.int .i64 m, .bool z]) ∧ Below W.heap.size W w')) :
    Calls Try.prog 14 #[.string s, .slice a N c] w fun e w' => e = .returned (.bool z) ∧ Below w.heap.size w w' := by
  have hmf : ∀ (fn : Fn) (first cap : Array Value) (w : World), (Instr.makeFunc fn first cap).run Try.prog w = .ok (.func fn first cap) w := fun _ _ _ _ => rfl
  go_enter Try.func14, Try.ntmps14
  go_wp2_with (first
    | (go_at_call 16; refine (unhide HA _ _ b1 (unhide R1)).mono ?_; rintro e w2 ⟨rfl, b2⟩)
    | (go_at_call 19; refine (unhide HRU).mono ?_; rintro e w1 ⟨v1, rfl, o1, b1⟩; have R1 := hide (Rn.row (B := w.heap.size + 1) o1); clear o1))
  go_ret
  have hsz : (w.alloc (.cells #[.slice a N c] 31)).heap.size = w.heap.size + 1 := by simp
  have h1 := b1.size
  rw [hsz] at h1
  exact ⟨rfl, below_new (o := .cells #[.slice a N c] 31) (by rw [hsz]; exact b1.trans (b2.mono h1))⟩
set_option maxHeartbeats 1600000 in
/-- Only, where the text's bytes are no code points. -/
theorem gonly_bad (s : ByteArray) (a : Option Addr) (N c : Nat) (w : World) (hs : s.size ≤ 10000) (hok : ruOk s = false) :
    Calls Try.prog 14 #[.string s, .slice a N c] w fun e w' => e = .returned (.bool false) ∧ Below w.heap.size w w' := by
  have HRU := hide (runes_any s (w.alloc (.cells #[.slice a N c] 31)) (by omega))
  have hE : ruE s = 10 := by unfold ruE; rw [hok]; rfl
  rw [hE] at HRU
  generalize ruA s = U at *
  clear hE hok hs
  go_enter Try.func14, Try.ntmps14
  go_wp2_with (go_at_call 19; refine (unhide HRU).mono ?_; rintro e w1 ⟨v1, rfl, o1, b1⟩; clear o1)
  go_ret
  exact ⟨rfl, below_new b1⟩
theorem gonly_any (s : ByteArray) (v : Value) (ks : List Int) (w : World) (hs : s.size ≤ 10000) (hk : ks.length ≤ 1000) (hI : Ints w v ks) :
    Calls Try.prog 14 #[.string s, v] w fun e w' => e = .returned (.bool (onlyB s ks)) ∧ Below w.heap.size w w' := by
  have hI' := hI
  obtain ⟨a, c, rfl, -⟩ := hI
  cases hok : ruOk s
  · have hz : onlyB s ks = false := by unfold onlyB; rw [hok]; rfl
    rw [hz]
    exact gonly_bad s a _ c w hs hok
  · have hz : onlyB s ks = decide (ahN (fun x => decide (kd x ∈ ks)) (ruP s) = (ruP s).length) := by unfold onlyB; rw [hok, ah_all]; rfl
    rw [hz]
    have HRU := hide (runes_any s (w.alloc (.cells #[.slice a ks.length c] 31)) (by omega))
    have hE : ruE s = 0 := by unfold ruE; rw [hok]; rfl
    rw [hE] at HRU
    have hpl : (ruP s).length ≤ 20000 := Nat.le_trans (rup_len s) (by omega)
    have hsz : (w.alloc (.cells #[.slice a ks.length c] 31)).heap.size = w.heap.size + 1 := by simp
    rw [hsz] at HRU
    refine gonly_walk s a _ c w _ (ruP s) _ _ HRU (hide fun v W hb hR => ahead_any 23 _ (fun x => decide (kd x ∈ ks)) v (ruP s) W (enters_of Try.func23 (by kernel_rfl) rfl) hpl hR fun W2 x hb2 => ?_)
    have hb' : Below w.heap.size w W := below_new (by rw [hsz]; exact hb)
    have hbw : Below (w.alloc (.cells #[.slice a ks.length c] 31)).heap.size (w.alloc (.cells #[.slice a ks.length c] 31)) W2 := by rw [hsz]; exact hb.trans (hb2.mono (by have := hb.size; rw [hsz] at this; exact this))
    have hx : W2.cell? ⟨w.heap.size, 0, none⟩ = some (.slice a ks.length c) := (hbw.cell (p := ⟨w.heap.size, 0, none⟩) (by rw [hsz]; exact Nat.lt_succ_self _)).trans (box1 w _ _)
    exact only1_any _ x _ ks W2 hk hx (ints_below hI' (hb'.trans (hb2.mono hb'.size)))
end Go.Proofs.Ytegpdppfdgcljaa
