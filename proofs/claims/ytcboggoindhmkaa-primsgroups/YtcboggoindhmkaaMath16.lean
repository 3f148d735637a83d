/- Whole numbers as bytes, plainly (layer 16). -/
import Derived.Test.YtcboggoindhmkaaBase
namespace Go.Proofs.Ytcboggoindhmkaa

/-- The last k bytes of a whole number, the highest first. -/
def dg : Nat → Int → List Int
  | 0, _ => []
  | k + 1, n => dg k (n / 256) ++ [n % 256]
/-- The fewest bytes of a number; none: it has more than four. -/
def bytI (n : Int) : List Int := if -128 ≤ n ∧ n < 128 then dg 1 n else if -32768 ≤ n ∧ n < 32768 then dg 2 n else if -8388608 ≤ n ∧ n < 8388608 then dg 3 n else if -2147483648 ≤ n ∧ n < 2147483648 then dg 4 n else []
/-- What bytes are, as a number that is not below 0; as any one. -/
def uvI : List Int → Int → Int
  | [], a => a
  | x :: l, a => uvI l (256 * a + x)
def pwI : List Int → Int
  | [] => 1
  | _ :: l => 256 * pwI l
def svI (s : List Int) : Int := if 127 < s.getD 0 0 then uvI s 0 - pwI s else uvI s 0
/-- What AsInt tells of contents. -/
def asI (s : List Int) : Int × Int := if s.length < 1 ∨ 4 < s.length then (0, 160) else if bytI (svI s) = s then (svI s, 0) else (0, 160)
theorem dg1 (n : Int) : dg 1 n = [n % 256] := rfl
theorem dg2 (n : Int) : dg 2 n = [n / 256 % 256, n % 256] := rfl
theorem dg3 (n : Int) : dg 3 n = [n / 256 / 256 % 256, n / 256 % 256, n % 256] := rfl
theorem dg4 (n : Int) : dg 4 n = [n / 256 / 256 / 256 % 256, n / 256 / 256 % 256, n / 256 % 256, n % 256] := rfl
theorem bytI_none (n : Int) : bytI n = [] ↔ ¬ (-2147483648 ≤ n ∧ n ≤ 2147483647) := by
  unfold bytI
  rw [dg1, dg2, dg3, dg4]
  constructor
  · intro h hn
    repeat' split at h
    all_goals first | (simp at h; done) | omega
  · intro h
    rw [if_neg (by omega), if_neg (by omega), if_neg (by omega), if_neg (by omega)]
theorem bytI_len (n : Int) : (bytI n).length ≤ 4 := by
  unfold bytI
  rw [dg1, dg2, dg3, dg4]
  repeat' split
  all_goals simp
theorem bytI_byte (n : Int) : ∀ x ∈ bytI n, 0 ≤ x ∧ x < 256 := by
  intro x hx
  unfold bytI at hx
  rw [dg1, dg2, dg3, dg4] at hx
  repeat' split at hx
  all_goals (simp at hx; try omega)
theorem svI_bytI (n : Int) (h0 : -2147483648 ≤ n) (h1 : n ≤ 2147483647) : svI (bytI n) = n := by
  unfold bytI
  rw [dg1, dg2, dg3, dg4]
  repeat' split
  all_goals simp only [svI, uvI, pwI, List.getD_cons_zero]
  all_goals first | (split <;> omega) | omega
/-- What was made is read. -/
theorem asI_bytI (n : Int) (h0 : -2147483648 ≤ n) (h1 : n ≤ 2147483647) : asI (bytI n) = (n, 0) := by
  have h := (not_congr (bytI_none n)).2 (by omega)
  have hl : ¬ ((bytI n).length < 1 ∨ 4 < (bytI n).length) := by
    have := bytI_len n
    have h2 : (bytI n).length ≠ 0 := fun e => h (List.eq_nil_of_length_eq_zero e)
    omega
  unfold asI
  rw [if_neg hl, svI_bytI n h0 h1, if_pos rfl]
/-- What is read was made so. -/
theorem asI_back (s : List Int) (h : (asI s).2 = 0) : bytI (asI s).1 = s ∧ -2147483648 ≤ (asI s).1 ∧ (asI s).1 ≤ 2147483647 := by
  unfold asI at h ⊢
  split at h
  · simp at h
  · rename_i hl
    split at h
    · rename_i hb
      rw [if_neg hl, if_pos hb]
      refine ⟨hb, ?_⟩
      have hn : ¬ bytI (svI s) = [] := fun e => hl (.inl (by rw [← hb, e]; decide))
      have := (not_congr (bytI_none (svI s))).1 hn
      simp only at this ⊢
      omega
    · simp at h
theorem asI_err (s : List Int) (h : (asI s).2 ≠ 0) : asI s = (0, 160) := by
  unfold asI at h ⊢
  split
  · rfl
  · rename_i hl
    rw [if_neg hl] at h
    split
    · rename_i hb
      rw [if_pos hb] at h
      exact absurd rfl h
    · rfl
end Go.Proofs.Ytcboggoindhmkaa
