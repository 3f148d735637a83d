/- The landed Show of layer 17. -/
import Derived.Test.YtpaenieafkmmeaaGreatDoorM31
import Derived.Lib.Split
import Derived.Deep.OwnRows
import Derived.Test.YtpaenieafkmmeaaGreatDoorM29
import Derived.Test.YtpaenieafkmmeaaGreatDoorM30
import Derived.Lib.AtoiTie
namespace Go.Proofs.YtpaenieafkmmeaaGreatDoor.S17
set_option maxRecDepth 100000
open Go.RowKit

theorem str_mk (l : List UInt8) : (⟨l.toArray⟩ : ByteArray) = strOfNums (l.map fun b => (b.toNat : Int)) := by
  have := strOfNums_nums (⟨l.toArray⟩ : ByteArray)
  rw [← this]
  unfold nums
  simp
theorem dig_dec (u : Nat) : (Lib.decDigits u).map (fun b => (b.toNat : Int)) = digN u := by
  induction u using Nat.strongRecOn with
  | _ u ih =>
    by_cases h : u < 10
    · rw [Lib.decDigits, dif_pos h, digN_small h]
      simp
      omega
    · rw [Lib.decDigits, dif_neg h, digN_big h, List.map_append, ih (u / 10) (by omega)]
      simp
      omega
theorem itoa_any (n : Int) (w : World) (hL : Ly w) (h1 : 0 ≤ n) (h2 : n ≤ 99999) : Calls Tryz.prog 61 #[.int .i64 n] w fun e w' => e = .returned (.string (strOfNums (digN n.toNat))) ∧ Gr w w' := by
  have := itoa17 n w (by omega) (by omega) hL
  rw [str_mk] at this
  unfold Lib.itoa at this
  rw [if_neg (by omega), dig_dec] at this
  exact this
/-- The numbers' texts. -/
def txO (l : List Int) : List ByteArray := l.map fun x => strOfNums (digN x.toNat)
theorem txO_len (l : List Int) : (txO l).length = l.length := by simp [txO]
theorem join_tail (t : List Int) : Lib.joinTail [46] ((txO t).map (·.data.toList)) = (joinO t).map fun n => UInt8.ofNat n.toNat := by
  induction t with
  | nil => rfl
  | cons y t ih =>
    unfold Lib.joinTail at ih ⊢
    simp only [txO, List.map_cons, List.flatten_cons, joinO, List.map_append] at ih ⊢
    rw [ih, strOfNums_data]
    rfl
theorem join_show (l : List Int) : (⟨(Lib.join ((txO l).map (·.data.toList)) [46]).toArray⟩ : ByteArray) = strOfNums (showO l) := by
  cases l with
  | nil => rfl
  | cons y t =>
    have : Lib.join ((txO (y :: t)).map (·.data.toList)) [46] = (showO (y :: t)).map fun n => UInt8.ofNat n.toNat := by
      show Lib.join ((strOfNums (digN y.toNat)).data.toList :: (txO t).map (·.data.toList)) [46] = _
      rw [Lib.join_cons, join_tail, showO, List.map_append, strOfNums_data]
    rw [this]
    rfl
theorem join_size (l : List Int) : (Lib.join ((txO l).map (·.data.toList)) [46]).length = (showO l).length := by
  have := congrArg ByteArray.size (join_show l)
  rw [strOfNums_size] at this
  simpa [ByteArray.size] using this
/-- A block of N texts, the first of which are X. -/
def Tb (w : World) (g N : Nat) (X : List ByteArray) : Prop := w.heap[g]? = some (.cells (Lib.cellsOf X N) 9)
theorem Tb.lt {w : World} {g N : Nat} {X : List ByteArray} (h : Tb w g N X) : g < w.heap.size := (Array.getElem?_eq_some_iff.1 h).1
theorem Tb.keep {w w2 : World} {g N : Nat} {X : List ByteArray} (h : Tb w g N X) (hb : Below w.heap.size w w2) : Tb w2 g N X := (hb.block _ h.lt).trans h
theorem Tb.cell {w : World} {g N : Nat} {X : List ByteArray} (h : Tb w g N X) (k : Nat) : w.cell? ⟨g, k, none⟩ = (Lib.cellsOf X N)[k]? := by
  unfold World.cell?
  rw [show w.heap[(⟨g, k, none⟩ : Addr).block]? = w.heap[g]? from rfl, h]
  rfl
theorem Tb.free {w : World} {g N : Nat} {X : List ByteArray} (h : Tb w g N X) (k : Nat) : w.frozen? ⟨g, k, none⟩ = false := by
  unfold World.frozen?
  rw [show w.heap[(⟨g, k, none⟩ : Addr).block]? = w.heap[g]? from rfl, h]
  simp
theorem Tb.next {w : World} {g N : Nat} {X : List ByteArray} (h : Tb w g N X) (hX : X.length < N) : w.cell? ⟨g, X.length, none⟩ = some (.string ByteArray.empty) := (h.cell _).trans (Lib.cellsOf_next hX)
theorem Tb.put {w : World} {g N : Nat} {X : List ByteArray} (h : Tb w g N X) (hX : X.length < N) (x : ByteArray) : Tb (w.setCell ⟨g, X.length, none⟩ (.string x)) g N (X ++ [x]) := by
  unfold Tb
  rw [← Lib.cellsOf_set hX]
  exact heap_setCell_same w g X.length _ _ _ h
theorem Tb.at {w : World} {g N : Nat} {X : List ByteArray} (h : Tb w g N X) (j : Nat) (x : ByteArray) (hx : X[j]? = some x) : w.cell? ⟨g, j, none⟩ = some (.string x) := by
  rw [h.cell]
  have hj := (List.getElem?_eq_some_iff.1 hx).1
  unfold Lib.cellsOf
  rw [List.getElem?_toArray, List.getElem?_append_left (by simpa using hj), List.getElem?_map, hx]
  rfl
theorem Tb.made (w : World) (N : Nat) : Tb (w.alloc (.cells (madeCells #[.string ByteArray.empty] N) 9)) w.heap.size N [] := by
  unfold Tb
  rw [Lib.cellsOf_nil]
  exact heap_new _ _
theorem str_info : (Tryz.prog.info? 9).map (fun i => (i.zero, i.size, i.bytes)) = some (some (.string ByteArray.empty), 1, 16) := by kernel_rfl
theorem txO_snoc (l : List Int) (k : Nat) (h : k < l.length) : txO (l.take (k + 1)) = txO (l.take k) ++ [strOfNums (digN (l.getD k 0).toNat)] := by
  rw [take_snoc l k h]
  simp [txO]
theorem Tb.step {w : World} {g : Nat} {l : List Int} {k : Nat} (h : Tb w g l.length (txO (l.take k))) (hk : k < l.length) : w.cell? ⟨g, k, none⟩ = some (.string ByteArray.empty) ∧ w.frozen? ⟨g, k, none⟩ = false ∧ Tb (w.setCell ⟨g, k, none⟩ (.string (strOfNums (digN (l.getD k 0).toNat)))) g l.length (txO (l.take (k + 1))) := by
  have e : (txO (l.take k)).length = k := by rw [txO_len, List.length_take]; omega
  have h1 := h.next (by omega)
  have h2 := h.put (by omega) (strOfNums (digN (l.getD k 0).toNat))
  rw [e] at h1 h2
  exact ⟨h1, h.free _, by rw [txO_snoc l k hk]; exact h2⟩
set_option maxHeartbeats 1600000 in
theorem oshow_yes (b off cap : Nat) (l : List Int) (w : World) (hL : Ly w) (ho : okO l = true)
    (hc : ∀ j, j < l.length → w.cell? ⟨b, off + j, none⟩ = some (.int .i64 (l.getD j 0))) :
    Calls Tryz.prog 34 #[.slice (some ⟨b, off, none⟩) l.length cap] w fun e w' => e = .returned (.tuple #[.string (strOfNums (showO l)), .int .i64 0]) ∧ Below w.heap.size w w' := by
  have hR : Row w (.slice (some ⟨b, off, none⟩) l.length cap) l := ⟨_, _, rfl, fun _ => ⟨b, off, rfl, hc⟩⟩
  have hl := okO_len ho
  have C1 := ocheck_w _ l w (by omega) hR
  rw [chk_yes ho] at C1
  clear hR
  have HA : Hid (∀ k, k < l.length → 0 ≤ l.getD k 0 ∧ l.getD k 0 ≤ 99999) := fun k hk => okO_at ho k hk
  have HSZ := hide (showO_len l ho)
  have HC := hide hc
  clear hc ho
  have hmk := run_make_row' (P := Tryz.prog) 58 9 (.string ByteArray.empty) 16 Tryz.underlying58 str_info rfl .i64 .i64 l.length (by omega) (by omega)
  go_enter Tryz.func34, Tryz.ntmps34
  go_wp2_with (go_at_call 60; refine C1.mono ?_; rintro e w1 ⟨rfl, rfl⟩)
  clear hmk C1
  go_loopw [18] (fun i wr => ∃ k : Nat, k ≤ l.length ∧ i = .int .i64 k ∧ Hid (Tb wr w1.heap.size l.length (txO (l.take k))) ∧ Below w1.heap.size w1 wr) (fun i _ => l.length - (intOf i).toNat)
  case atStart => exact ⟨0, Nat.zero_le _, rfl, Tb.made w1 _, Below.one w1 _⟩
  case round =>
    obtain ⟨k, hk, rfl, HT, hb⟩ := hrel
    by_cases hlt : k < l.length
    · have hzl : (k : Int) < (l.length : Int) := by omega
      have hz0 : (0 : Int) ≤ (k : Int) := by omega
      have g1 := unhide HC k hlt
      have k1 : wr.cell? ⟨b, off + k, none⟩ = some (.int .i64 (l.getD k 0)) := (hb.cell (p := ⟨b, off + k, none⟩) (cell_lt g1)).trans g1
      have hA := unhide HA k hlt
      have HI := hide (itoa_any (l.getD k 0) wr (hL.keep hb) hA.1 hA.2)
      have HS := hide (fun (W : World) (h : Tb W w1.heap.size l.length (txO (l.take k))) => h.step hlt)
      clear g1 hA
      generalize l.getD k 0 = x at *
      go_wp2_with (go_at_call 61; refine (unhide HI).mono ?_; rintro e w2 ⟨rfl, hg2⟩; have HT2 := hide (unhide HS w2 ((unhide HT).keep hg2.below)); have k2 := (unhide HT2).1; have f2 := (unhide HT2).2.1)
      go_roundw
      case rel => exact ⟨k + 1, by omega, by go_num, (unhide HT2).2.2, (hb.trans (hg2.below.mono hb.size)).setCell (Nat.le_refl _) _⟩
      case measure => simp [intOf]; omega
    · have hzl : ¬ (k : Int) < (l.length : Int) := by omega
      obtain rfl : k = l.length := by omega
      rw [List.take_length] at HT
      have J := join17 w1.heap.size 0 l.length (txO l) ⟨#[46]⟩ wr (fun j x hx => by rw [Nat.zero_add]; exact (unhide HT).at j x hx) (unhide HT).lt (by rw [txO_len]; omega) (by rw [txO_len]; omega) (by
        show (Lib.join ((txO l).map (·.data.toList)) [46]).length ≤ _
        rw [join_size]; have := unhide HSZ; omega)
      have e : (⟨(Lib.join ((txO l).map (·.data.toList)) (ByteArray.mk #[46]).data.toList).toArray⟩ : ByteArray) = strOfNums (showO l) := join_show l
      rw [e, txO_len] at J
      clear e
      go_wp2_with (go_at_call 62; refine J.mono ?_; rintro e w2 ⟨rfl, hb2⟩)
      go_ret2
      exact ⟨rfl, hb.trans (hb2.mono hb.size)⟩
set_option maxHeartbeats 800000 in
theorem oshow_w (v : Value) (l : List Int) (w : World) (hL : Ly w) (hn : l.length ≤ 9223372036854775806) (hR : Row w v l) : Calls Tryz.prog 34 #[v] w fun e w' => e = .returned (.tuple #[.string (shS l), .int .i64 (chkO l)]) ∧ Below w.heap.size w w' := by
  have C1 := ocheck_w v l w hn hR
  cases ho : okO l
  · have e : shS l = ⟨#[]⟩ := by unfold shS; rw [ho]; rfl
    rw [chk_no ho] at C1 ⊢
    rw [e]
    clear e ho hR
    go_enter Tryz.func34, Tryz.ntmps34
    go_wp2_with (go_at_call 60; refine C1.mono ?_; rintro e w1 ⟨rfl, rfl⟩)
    go_ret2
    exact ⟨rfl, Below.refl _ _⟩
  · have e : shS l = strOfNums (showO l) := by unfold shS; rw [ho]; rfl
    rw [e, chk_yes ho]
    have hl := okO_len ho
    obtain ⟨a, cap, rfl, hc⟩ := hR
    obtain ⟨b, off, rfl, hcc⟩ := hc (by omega)
    exact oshow_yes b off cap l w hL ho hcc
end Go.Proofs.YtpaenieafkmmeaaGreatDoor.S17
/- The landed reading of an identifier, plainly: a text is cut at its points, each part is a number. -/
namespace Go.Proofs.YtpaenieafkmmeaaGreatDoor.S17
set_option maxRecDepth 100000
open Go.RowKit

/-- A list up to its first point, and what stands behind it. -/
def cutI : List Int → Option (List Int × List Int)
  | [] => none
  | x :: s => if x = 46 then some ([], s) else (cutI s).map fun p => (x :: p.1, p.2)
theorem cutI_hit : ∀ (a b : List Int), 46 ∉ a → cutI (a ++ 46 :: b) = some (a, b)
  | [], b, _ => by simp [cutI]
  | x :: a, b, h => by
    rw [List.mem_cons, not_or] at h
    rw [List.cons_append, cutI, if_neg (fun e => h.1 e.symm), cutI_hit a b h.2]
    rfl
theorem cutI_miss : ∀ (a : List Int), 46 ∉ a → cutI a = none
  | [], _ => rfl
  | x :: a, h => by
    rw [List.mem_cons, not_or] at h
    rw [cutI, if_neg (fun e => h.1 e.symm), cutI_miss a h.2]
    rfl
/-- The parts between points, of k points at most. -/
def ptsI : Nat → List Int → List (List Int)
  | 0, s => [s]
  | k + 1, s => match cutI s with
    | none => [s]
    | some (a, b) => a :: ptsI k b
theorem ptsI_miss (k : Nat) (s : List Int) (h : cutI s = none) : ptsI k s = [s] := by
  cases k with
  | zero => rfl
  | succ k => unfold ptsI; rw [h]
theorem ptsI_hit (k : Nat) (s a b : List Int) (h : cutI s = some (a, b)) : ptsI (k + 1) s = a :: ptsI k b := by
  rw [ptsI, h]
theorem ptsI_len : ∀ (k : Nat) (s : List Int), (ptsI k s).length ≤ k + 1
  | 0, s => by simp [ptsI]
  | k + 1, s => by
    unfold ptsI
    split
    · simp
    · have := ptsI_len k
      simp only [List.length_cons]
      rename_i a b _
      have := this b
      omega
theorem digN_point (n : Nat) : (46 : Int) ∉ digN n := fun h => by have := digN_bound n _ h; omega
theorem pts_show : ∀ (k : Nat) (x : Int) (t : List Int), t.length ≤ k → ptsI k (showO (x :: t)) = (x :: t).map fun y => digN y.toNat
  | k, x, [], _ => by
    rw [showO, joinO, List.append_nil, ptsI_miss k _ (cutI_miss _ (digN_point _))]
    rfl
  | 0, x, y :: t, h => by simp at h
  | k + 1, x, y :: t, h => by
    have e : showO (x :: y :: t) = digN x.toNat ++ 46 :: showO (y :: t) := by simp [showO, joinO]
    rw [e, ptsI_hit k _ _ _ (cutI_hit _ _ (digN_point _)), pts_show k y t (by simpa using h)]
    rfl
theorem joinO_least : ∀ (l : List Int), l.length ≤ (joinO l).length
  | [] => by simp
  | y :: l => by
    have := joinO_least l
    simp only [joinO, List.length_cons, List.length_append]
    omega
theorem show_least (l : List Int) : l.length ≤ (showO l).length + 1 := by
  cases l with
  | nil => simp
  | cons y t =>
    have := joinO_least t
    simp only [showO, List.length_cons, List.length_append]
    omega
theorem dec_dig (n : Nat) : ∀ (l r : List UInt8), l.map (fun b => ((b.toNat : Nat) : Int)) = digN n → Lib.decFrom 0 (l ++ r) = Lib.decFrom n r := by
  induction n using Nat.strongRecOn with
  | _ n ih =>
    intro l r h
    by_cases h1 : n < 10
    · rw [digN_small h1] at h
      obtain ⟨c, rfl, hc⟩ : ∃ c, l = [c] ∧ ((c.toNat : Nat) : Int) = 48 + (n : Int) := by
        have hl := congrArg List.length h
        rw [List.length_map] at hl
        obtain ⟨c, rfl⟩ := List.length_eq_one_iff.1 hl
        exact ⟨c, rfl, by simpa using h⟩
      have h2 : Lib.digitVal c = some n := by
        unfold Lib.digitVal
        rw [if_pos (by omega)]
        congr 1; omega
      simp [Lib.decFrom, h2]
    · rw [digN_big h1] at h
      obtain ⟨l1, l2, rfl, e1, e2⟩ := List.map_eq_append_iff.1 h
      obtain ⟨c, rfl, hc⟩ : ∃ c, l2 = [c] ∧ ((c.toNat : Nat) : Int) = 48 + ((n % 10 : Nat) : Int) := by
        have hl := congrArg List.length e2
        rw [List.length_map] at hl
        obtain ⟨c, rfl⟩ := List.length_eq_one_iff.1 hl
        exact ⟨c, rfl, by simpa using e2⟩
      have h2 : Lib.digitVal c = some (n % 10) := by
        unfold Lib.digitVal
        rw [if_pos (by omega)]
        congr 1; omega
      rw [List.append_assoc, ih (n / 10) (by omega) l1 _ e1]
      simp only [List.cons_append, List.nil_append, Lib.decFrom, h2]
      congr 1; omega
theorem digN_pos (n : Nat) : digN n ≠ [] := by
  by_cases h : n < 10
  · rw [digN_small h]; simp
  · rw [digN_big h]; simp
/-- A number's digits are read as the number. -/
theorem ato_dig (s : ByteArray) (n : Nat) (hn : n ≤ 99999) (h : nums s = digN n) : atoP s = some (n : Int) := by
  have hl : s.data.toList.length ≤ 5 := by
    have h1 := digN_len 4 n (by omega)
    have h2 := congrArg List.length h
    unfold nums at h2
    rw [List.length_map] at h2
    omega
  have hd := dec_dig n s.data.toList [] h
  rw [List.append_nil] at hd
  unfold atoP
  rw [Lib.atoiAll_short _ (by omega)]
  have hb := digN_bound n
  have hp := digN_pos n
  rw [← h] at hb hp
  unfold nums at hb hp
  generalize s.data.toList = l at *
  cases l with
  | nil => simp at hp
  | cons c r =>
    have hc := hb _ (List.mem_map.2 ⟨c, List.mem_cons_self, rfl⟩)
    have c1 : (c == 45) = false := by
      rw [beq_eq_false_iff_ne]; rintro rfl; simp at hc
    have c2 : (c == 43) = false := by
      rw [beq_eq_false_iff_ne]; rintro rfl; simp at hc
    simp only [Lib.atoi, c1, c2, Lib.decNat, List.isEmpty_cons, Bool.false_eq_true, if_false]
    rw [hd]
    rfl
/-- How many parts there may be. -/
def few (n : Nat) : Nat := min 13 (n + 1)
theorem few_pos (n : Nat) : 1 ≤ few n ∧ few n ≤ 13 ∧ few n ≤ n + 1 := by unfold few; omega
/-- The parts of an identifier's text are its numbers' digits. -/
theorem pts_id (s : ByteArray) (h : parO (nums s) ≠ []) : ptsI (few s.size - 1) (nums s) = (parO (nums s)).map fun y => digN y.toNat := by
  obtain ⟨h1, h2⟩ := par_ok _ h
  have hl := okO_len h1
  have h3 := show_least (parO (nums s))
  rw [h2, nums_length] at h3
  generalize parO (nums s) = q at *
  cases q with
  | nil => exact absurd rfl h
  | cons x t =>
    rw [← h2]
    refine pts_show _ x t ?_
    unfold few
    simp only [List.length_cons] at hl h3
    omega
/-- Each part of an identifier's text is read. -/
theorem pts_read (s : ByteArray) (ps : List ByteArray) (hp : ps.map nums = ptsI (few s.size - 1) (nums s)) (h : parO (nums s) ≠ []) : ps.length = (parO (nums s)).length ∧ ∀ k, k < ps.length → atoP (ps.getD k ⟨#[]⟩) = some ((parO (nums s)).getD k 0) := by
  rw [pts_id s h] at hp
  have hl := congrArg List.length hp
  rw [List.length_map, List.length_map] at hl
  refine ⟨hl, fun k hk => ?_⟩
  have hb := okO_at (par_ok _ h).1 k (by omega)
  have e := congrArg (fun l => l.getD k []) hp
  simp only [List.getD, List.getElem?_map] at e
  have hk2 : k < (parO (nums s)).length := by omega
  rw [List.getElem?_eq_getElem hk, List.getElem?_eq_getElem hk2] at e
  simp only [Option.map_some, Option.getD_some] at e
  have e2 : (parO (nums s)).getD k 0 = (parO (nums s))[k] := by simp [List.getD, hk2]
  have e3 : ps.getD k ⟨#[]⟩ = ps[k] := by simp [List.getD, hk]
  rw [e2] at hb ⊢
  rw [e3, ato_dig _ _ (by omega) e]
  congr 1; omega
/-- A part that is no number: no identifier. -/
theorem par_bad (s : ByteArray) (ps : List ByteArray) (hp : ps.map nums = ptsI (few s.size - 1) (nums s)) (k : Nat) (hk : k < ps.length) (hn : atoP (ps.getD k ⟨#[]⟩) = none) : parO (nums s) = [] := by
  by_cases h : parO (nums s) = []
  · exact h
  · have := (pts_read s ps hp h).2 k hk
    rw [hn] at this
    cases this
/-- All parts are numbers: the identifier is theirs, if their text is the text. -/
theorem par_all (s : ByteArray) (ps : List ByteArray) (l : List Int) (hp : ps.map nums = ptsI (few s.size - 1) (nums s)) (hl : l.length = ps.length) (ha : ∀ k, k < l.length → atoP (ps.getD k ⟨#[]⟩) = some (l.getD k 0)) : parO (nums s) = if okO l = true ∧ showO l = nums s then l else [] := by
  by_cases h : okO l = true ∧ showO l = nums s
  · rw [if_pos h, ← h.2]
    exact par_show l h.1
  · rw [if_neg h]
    by_cases h0 : parO (nums s) = []
    · exact h0
    · obtain ⟨e1, e2⟩ := pts_read s ps hp h0
      have e : l = parO (nums s) := by
        apply List.ext_getElem (by omega)
        intro k hk hk2
        have := (ha k hk).symm.trans (e2 k (by omega))
        simpa [List.getD, hk, hk2] using this
      exact absurd (by rw [e]; exact par_ok _ h0) h
end Go.Proofs.YtpaenieafkmmeaaGreatDoor.S17
