/- What may not be in a value, plainly. -/
import Derived.Test.YtegpdppfdgcljaaURunes
import Derived.Test.YtegpdppfdgcljaaRn
import Derived.Test.YtegpdppfdgcljaaRef2
namespace Go.Proofs.Ytegpdppfdgcljaa

def fitB (r : Int) : Bool := decide (kd r ≠ 0) && decide (kd r ≠ 7)
/-- How many stand ahead of the first that is not fit. -/
def chkN : List Int → Nat
  | [] => 0
  | x :: t => if fitB x then chkN t + 1 else 0
def chkE (l : List Int) : Int := if chkN l = l.length then 0 else 30
theorem chk_le : ∀ l, chkN l ≤ l.length
  | [] => Nat.le_refl _
  | x :: t => by
    have := chk_le t
    simp only [chkN]
    split <;> simp only [List.length_cons] <;> omega
theorem chk_yes : ∀ (l : List Int) (j : Nat), j ≤ chkN l → j < l.length → fitB (l.getD j 0) = true → j + 1 ≤ chkN l
  | [], j, _, h, _ => by simp at h
  | x :: t, 0, _, _, hf => by
    have hf' : fitB x = true := hf
    simp only [chkN, hf', if_true]
    omega
  | x :: t, j + 1, hj, h, hf => by
    simp only [chkN] at hj ⊢
    split at hj
    · rename_i hx
      rw [if_pos hx]
      have := chk_yes t j (by omega) (by simpa using h) hf
      omega
    · omega
theorem chk_no : ∀ (l : List Int) (j : Nat), j ≤ chkN l → j < l.length → fitB (l.getD j 0) = false → chkN l = j
  | [], j, _, h, _ => by simp at h
  | x :: t, 0, _, _, hf => by
    have hf' : fitB x = false := hf
    simp [chkN, hf']
  | x :: t, j + 1, hj, h, hf => by
    simp only [chkN] at hj ⊢
    split at hj
    · rename_i hx
      rw [if_pos hx, chk_no t j (by omega) (by simpa using h) hf]
    · omega
theorem chk_app : ∀ (a b : List Int), chkN (a ++ b) = if chkN a = a.length then a.length + chkN b else chkN a
  | [], b => by simp [chkN]
  | x :: t, b => by
    have ih := chk_app t b
    simp only [List.cons_append, chkN]
    split
    · rw [ih]
      by_cases h : chkN t = t.length
      · rw [if_pos h, if_pos (by simp [h])]
        simp only [List.length_cons]; omega
      · rw [if_neg h, if_neg (by simpa using h)]
    · rw [if_neg (by simp)]
theorem chk_all (l : List Int) : chkN l = l.length ↔ ∀ x, x ∈ l → fitB x = true := by
  induction l with
  | nil => simp [chkN]
  | cons x t ih =>
    simp only [chkN, List.length_cons, List.mem_cons, forall_eq_or_imp]
    split
    · rename_i h
      rw [← ih]
      constructor
      · intro h2; exact ⟨h, by omega⟩
      · intro h2; omega
    · rename_i h
      constructor
      · intro h2; omega
      · intro h2; exact absurd h2.1 h

/-- The bytes of a text are those of its code points. -/
theorem ok_back {s : ByteArray} (h : ruOk s = true) : nums s = encL (ruP s) ∧ okL (ruP s) = true := by
  have hr : runN s.size (nums s) = s.size := by simpa [ruOk] using h
  have hb := runP_back s.size (nums s) (nums_bound s)
  unfold ruP
  rw [h]
  simp only [if_true]
  refine ⟨?_, hb.1⟩
  rw [hb.2, hr, ← nums_length, List.take_length]
theorem ok_of {s : ByteArray} {l : List Int} (h : nums s = encL l) (hl : okL l = true) : ruOk s = true ∧ ruP s = l := by
  have hs : (encL l).length = s.size := by rw [← h, nums_length]
  obtain ⟨h1, h2⟩ := run_enc l hl s.size (by omega)
  have hk : ruOk s = true := by
    unfold ruOk
    rw [h, h2]
    simp [hs]
  refine ⟨hk, ?_⟩
  unfold ruP
  rw [hk, h, h1]
  rfl
def txN (P : List Int) : Nat := (encL (P.take (chkN P))).length
def txA (s : ByteArray) : Int := if ruOk s then (txN (ruP s) : Int) else ruA s
def txE (s : ByteArray) : Int := if ruOk s then chkE (ruP s) else 10
def onlyB (s : ByteArray) (ks : List Int) : Bool := ruOk s && (ruP s).all fun x => decide (kd x ∈ ks)
theorem encL_take (P : List Int) (j : Nat) (h : j < P.length) : (encL (P.take (j + 1))) = encL (P.take j) ++ enc1 (P.getD j 0) := by
  rw [take_snoc P j h, encL_append]
  simp [encL]
theorem okL_at (P : List Int) (h : okL P = true) (j : Nat) (hj : j < P.length) : isPt (P.getD j 0) = true := by
  unfold okL at h
  rw [List.all_eq_true] at h
  exact h _ (by simp [List.getD, hj])
theorem enc1_pos (r : Int) (h : isPt r = true) : 0 < (enc1 r).length := by
  have h1 := enc1_len h
  have h2 : 0 < lenOf r := by unfold lenOf; rw [h]; simp only [if_true]; repeat (first | omega | split)
  omega
/-- What is read at the place of the code point j. -/
theorem read_at (s : ByteArray) (hk : ruOk s = true) (j : Nat) (hj : j < (ruP s).length) : (encL ((ruP s).take j)).length < s.size ∧ decR (from_ s ((encL ((ruP s).take j)).length : Int)) = (ruP s).getD j 0 ∧ decN (from_ s ((encL ((ruP s).take j)).length : Int)) = ((enc1 ((ruP s).getD j 0)).length : Int) := by
  obtain ⟨h1, h2⟩ := ok_back hk
  generalize ruP s = P at *
  have hp := okL_at P h2 j hj
  have e : nums s = encL (P.take j) ++ (enc1 (P.getD j 0) ++ encL (P.drop (j + 1))) := by
    rw [h1, ← List.append_assoc, ← encL_take P j hj, ← encL_append, List.take_append_drop]
  have hl := congrArg List.length e
  rw [nums_length, List.length_append, List.length_append] at hl
  have hpos := enc1_pos _ hp
  have hf : from_ s ((encL (P.take j)).length : Int) = enc1 (P.getD j 0) ++ encL (P.drop (j + 1)) := by
    unfold from_
    rw [Int.toNat_natCast, e, List.drop_left]
  obtain ⟨d1, d2⟩ := dec_enc _ hp (encL (P.drop (j + 1)))
  rw [hf]
  exact ⟨by omega, d2, d1⟩
theorem size_all (s : ByteArray) (hk : ruOk s = true) : (encL (ruP s)).length = s.size := by
  rw [← (ok_back hk).1, nums_length]
end Go.Proofs.Ytegpdppfdgcljaa
