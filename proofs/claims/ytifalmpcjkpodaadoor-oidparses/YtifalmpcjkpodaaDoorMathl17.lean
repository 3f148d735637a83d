/- The landed reading of an identifier, plainly: a text is cut at its points, each part is a number. -/
import Derived.Test.YtifalmpcjkpodaaDoorRAbv17
import Derived.Test.YtifalmpcjkpodaaDoorShelf17
import Derived.Lib.AtoiTie
namespace Go.Proofs.YtifalmpcjkpodaaDoor
set_option maxRecDepth 100000
open Go.RowKit

/-- A list up to its first point, and what stands behind it. -/
def cutI : List Int → Option (List Int × List Int)
  | [] => none
  | x :: s => if x = 46 then some ([], s) else (cutI s).map fun p => (x :: p.1, p.2)
theorem cutI_hit : ∀ (a b : List Int), 46 ∉ a → cutI (a ++ 46 :: b) = some (a, b)
  | [], b, _ => by simp [cutI]
  | x :: a, b, h => by
    rw [List.mem_cons, not_or] at h
    rw [List.cons_append, cutI, if_neg (fun e => h.1 e.symm), cutI_hit a b h.2]
    rfl
theorem cutI_miss : ∀ (a : List Int), 46 ∉ a → cutI a = none
  | [], _ => rfl
  | x :: a, h => by
    rw [List.mem_cons, not_or] at h
    rw [cutI, if_neg (fun e => h.1 e.symm), cutI_miss a h.2]
    rfl
/-- The parts between points, of k points at most. -/
def ptsI : Nat → List Int → List (List Int)
  | 0, s => [s]
  | k + 1, s => match cutI s with
    | none => [s]
    | some (a, b) => a :: ptsI k b
theorem ptsI_miss (k : Nat) (s : List Int) (h : cutI s = none) : ptsI k s = [s] := by
  cases k with
  | zero => rfl
  | succ k => unfold ptsI; rw [h]
theorem ptsI_hit (k : Nat) (s a b : List Int) (h : cutI s = some (a, b)) : ptsI (k + 1) s = a :: ptsI k b := by
  rw [ptsI, h]
theorem ptsI_len : ∀ (k : Nat) (s : List Int), (ptsI k s).length ≤ k + 1
  | 0, s => by simp [ptsI]
  | k + 1, s => by
    unfold ptsI
    split
    · simp
    · have := ptsI_len k
      simp only [List.length_cons]
      rename_i a b _
      have := this b
      omega
theorem digN_point (n : Nat) : (46 : Int) ∉ digN n := fun h => by have := digN_bound n _ h; omega
theorem pts_show : ∀ (k : Nat) (x : Int) (t : List Int), t.length ≤ k → ptsI k (showO (x :: t)) = (x :: t).map fun y => digN y.toNat
  | k, x, [], _ => by
    rw [showO, joinO, List.append_nil, ptsI_miss k _ (cutI_miss _ (digN_point _))]
    rfl
  | 0, x, y :: t, h => by simp at h
  | k + 1, x, y :: t, h => by
    have e : showO (x :: y :: t) = digN x.toNat ++ 46 :: showO (y :: t) := by simp [showO, joinO]
    rw [e, ptsI_hit k _ _ _ (cutI_hit _ _ (digN_point _)), pts_show k y t (by simpa using h)]
    rfl
theorem joinO_least : ∀ (l : List Int), l.length ≤ (joinO l).length
  | [] => by simp
  | y :: l => by
    have := joinO_least l
    simp only [joinO, List.length_cons, List.length_append]
    omega
theorem show_least (l : List Int) : l.length ≤ (showO l).length + 1 := by
  cases l with
  | nil => simp
  | cons y t =>
    have := joinO_least t
    simp only [showO, List.length_cons, List.length_append]
    omega
theorem dec_dig (n : Nat) : ∀ (l r : List UInt8), l.map (fun b => ((b.toNat : Nat) : Int)) = digN n → Lib.decFrom 0 (l ++ r) = Lib.decFrom n r := by
  induction n using Nat.strongRecOn with
  | _ n ih =>
    intro l r h
    by_cases h1 : n < 10
    · rw [digN_small h1] at h
      obtain ⟨c, rfl, hc⟩ : ∃ c, l = [c] ∧ ((c.toNat : Nat) : Int) = 48 + (n : Int) := by
        have hl := congrArg List.length h
        rw [List.length_map] at hl
        obtain ⟨c, rfl⟩ := List.length_eq_one_iff.1 hl
        exact ⟨c, rfl, by simpa using h⟩
      have h2 : Lib.digitVal c = some n := by
        unfold Lib.digitVal
        rw [if_pos (by omega)]
        congr 1; omega
      simp [Lib.decFrom, h2]
    · rw [digN_big h1] at h
      obtain ⟨l1, l2, rfl, e1, e2⟩ := List.map_eq_append_iff.1 h
      obtain ⟨c, rfl, hc⟩ : ∃ c, l2 = [c] ∧ ((c.toNat : Nat) : Int) = 48 + ((n % 10 : Nat) : Int) := by
        have hl := congrArg List.length e2
        rw [List.length_map] at hl
        obtain ⟨c, rfl⟩ := List.length_eq_one_iff.1 hl
        exact ⟨c, rfl, by simpa using e2⟩
      have h2 : Lib.digitVal c = some (n % 10) := by
        unfold Lib.digitVal
        rw [if_pos (by omega)]
        congr 1; omega
      rw [List.append_assoc, ih (n / 10) (by omega) l1 _ e1]
      simp only [List.cons_append, List.nil_append, Lib.decFrom, h2]
      congr 1; omega
theorem digN_pos (n : Nat) : digN n ≠ [] := by
  by_cases h : n < 10
  · rw [digN_small h]; simp
  · rw [digN_big h]; simp
/-- A number's digits are read as the number. -/
theorem ato_dig (s : ByteArray) (n : Nat) (hn : n ≤ 99999) (h : nums s = digN n) : atoP s = some (n : Int) := by
  have hl : s.data.toList.length ≤ 5 := by
    have h1 := digN_len 4 n (by omega)
    have h2 := congrArg List.length h
    unfold nums at h2
    rw [List.length_map] at h2
    omega
  have hd := dec_dig n s.data.toList [] h
  rw [List.append_nil] at hd
  unfold atoP
  rw [Lib.atoiAll_short _ (by omega)]
  have hb := digN_bound n
  have hp := digN_pos n
  rw [← h] at hb hp
  unfold nums at hb hp
  generalize s.data.toList = l at *
  cases l with
  | nil => simp at hp
  | cons c r =>
    have hc := hb _ (List.mem_map.2 ⟨c, List.mem_cons_self, rfl⟩)
    have c1 : (c == 45) = false := by
      rw [beq_eq_false_iff_ne]; rintro rfl; simp at hc
    have c2 : (c == 43) = false := by
      rw [beq_eq_false_iff_ne]; rintro rfl; simp at hc
    simp only [Lib.atoi, c1, c2, Lib.decNat, List.isEmpty_cons, Bool.false_eq_true, if_false]
    rw [hd]
    rfl
/-- How many parts there may be. -/
def few (n : Nat) : Nat := min 13 (n + 1)
theorem few_pos (n : Nat) : 1 ≤ few n ∧ few n ≤ 13 ∧ few n ≤ n + 1 := by unfold few; omega
/-- The parts of an identifier's text are its numbers' digits. -/
theorem pts_id (s : ByteArray) (h : parO (nums s) ≠ []) : ptsI (few s.size - 1) (nums s) = (parO (nums s)).map fun y => digN y.toNat := by
  obtain ⟨h1, h2⟩ := par_ok _ h
  have hl := okO_len h1
  have h3 := show_least (parO (nums s))
  rw [h2, nums_length] at h3
  generalize parO (nums s) = q at *
  cases q with
  | nil => exact absurd rfl h
  | cons x t =>
    rw [← h2]
    refine pts_show _ x t ?_
    unfold few
    simp only [List.length_cons] at hl h3
    omega
/-- Each part of an identifier's text is read. -/
theorem pts_read (s : ByteArray) (ps : List ByteArray) (hp : ps.map nums = ptsI (few s.size - 1) (nums s)) (h : parO (nums s) ≠ []) : ps.length = (parO (nums s)).length ∧ ∀ k, k < ps.length → atoP (ps.getD k ⟨#[]⟩) = some ((parO (nums s)).getD k 0) := by
  rw [pts_id s h] at hp
  have hl := congrArg List.length hp
  rw [List.length_map, List.length_map] at hl
  refine ⟨hl, fun k hk => ?_⟩
  have hb := okO_at (par_ok _ h).1 k (by omega)
  have e := congrArg (fun l => l.getD k []) hp
  simp only [List.getD, List.getElem?_map] at e
  have hk2 : k < (parO (nums s)).length := by omega
  rw [List.getElem?_eq_getElem hk, List.getElem?_eq_getElem hk2] at e
  simp only [Option.map_some, Option.getD_some] at e
  have e2 : (parO (nums s)).getD k 0 = (parO (nums s))[k] := by simp [List.getD, hk2]
  have e3 : ps.getD k ⟨#[]⟩ = ps[k] := by simp [List.getD, hk]
  rw [e2] at hb ⊢
  rw [e3, ato_dig _ _ (by omega) e]
  congr 1; omega
/-- A part that is no number: no identifier. -/
theorem par_bad (s : ByteArray) (ps : List ByteArray) (hp : ps.map nums = ptsI (few s.size - 1) (nums s)) (k : Nat) (hk : k < ps.length) (hn : atoP (ps.getD k ⟨#[]⟩) = none) : parO (nums s) = [] := by
  by_cases h : parO (nums s) = []
  · exact h
  · have := (pts_read s ps hp h).2 k hk
    rw [hn] at this
    cases this
/-- All parts are numbers: the identifier is theirs, if their text is the text. -/
theorem par_all (s : ByteArray) (ps : List ByteArray) (l : List Int) (hp : ps.map nums = ptsI (few s.size - 1) (nums s)) (hl : l.length = ps.length) (ha : ∀ k, k < l.length → atoP (ps.getD k ⟨#[]⟩) = some (l.getD k 0)) : parO (nums s) = if okO l = true ∧ showO l = nums s then l else [] := by
  by_cases h : okO l = true ∧ showO l = nums s
  · rw [if_pos h, ← h.2]
    exact par_show l h.1
  · rw [if_neg h]
    by_cases h0 : parO (nums s) = []
    · exact h0
    · obtain ⟨e1, e2⟩ := pts_read s ps hp h0
      have e : l = parO (nums s) := by
        apply List.ext_getElem (by omega)
        intro k hk hk2
        have := (ha k hk).symm.trans (e2 k (by omega))
        simpa [List.getD, hk, hk2] using this
      exact absurd (by rw [e]; exact par_ok _ h0) h
end Go.Proofs.YtifalmpcjkpodaaDoor
