/- Plain mathematics of tables of spans: what is a table, what is told of a number, how many have something. Nothing of the program. -/
import Derived.Test.YtdlbdfndnjdeeaaBase
namespace Go.Proofs.Ytdlbdfndnjdeeaa

/-- Is the span at place i as a table asks? -/
def okAt (l : List Sp) (i : Nat) : Bool := mayS (l.getD i sp0) && (decide ((l.getD i sp0).h ≠ 0) && (decide (i = 0) || folS (l.getD (i - 1) sp0) (l.getD i sp0)))
/-- Are the spans up to place k so? -/
def okTo (l : List Sp) : Nat → Bool
  | 0 => true
  | k + 1 => okTo l k && okAt l k
theorem okTo_at {l : List Sp} {k : Nat} (h : okTo l k = true) : ∀ i, i < k → okAt l i = true := by
  induction k with
  | zero => intro i hi; omega
  | succ k ih =>
    simp only [okTo, Bool.and_eq_true] at h
    intro i hi
    rcases Nat.lt_succ_iff_lt_or_eq.1 hi with h1 | rfl
    · exact ih h.1 i h1
    · exact h.2
theorem okTo_of {l : List Sp} {k : Nat} (h : ∀ i, i < k → okAt l i = true) : okTo l k = true := by
  induction k with
  | zero => rfl
  | succ k ih => simp only [okTo, Bool.and_eq_true]; exact ⟨ih fun i hi => h i (by omega), h k (by omega)⟩
theorem okTo_bad {l : List Sp} {k n : Nat} (hk : k < n) (h : okAt l k = false) : okTo l n = false := by
  cases hn : okTo l n with
  | false => rfl
  | true => rw [okTo_at hn k hk] at h; cases h
/-- What Check answers. -/
def chk (l : List Sp) : Int := if l.length ≤ 500 ∧ okTo l l.length = true then 0 else 20
theorem chk_long {l : List Sp} (h : 500 < l.length) : chk l = 20 := by unfold chk; rw [if_neg]; omega
theorem chk_bad {l : List Sp} {k : Nat} (hk : k < l.length) (h : okAt l k = false) : chk l = 20 := by
  unfold chk; rw [if_neg]; intro ⟨_, h2⟩; rw [okTo_bad hk h] at h2; cases h2
theorem chk_ok {l : List Sp} (h : l.length ≤ 500) (h2 : okTo l l.length = true) : chk l = 0 := by unfold chk; rw [if_pos ⟨h, h2⟩]
theorem chk_zero {l : List Sp} (h : chk l = 0) : l.length ≤ 500 ∧ okTo l l.length = true := by
  unfold chk at h; split at h
  · assumption
  · omega
theorem chk_two (l : List Sp) : chk l = 0 ∨ chk l = 20 := by unfold chk; split <;> simp
theorem okAt_may {l : List Sp} {k : Nat} (h : okAt l k = true) : 0 ≤ (l.getD k sp0).f ∧ (l.getD k sp0).f ≤ (l.getD k sp0).t ∧ (l.getD k sp0).t ≤ 1114111 := by
  simp only [okAt, Bool.and_eq_true] at h
  exact (mayS_iff _).1 h.1

/-- What is told of a number: what the first span in which it is has. -/
def fnd : List Sp → Int → Int
  | [], _ => 0
  | s :: l, r => if inS s r then s.h else fnd l r
theorem drop_getD (l : List Sp) (k : Nat) (h : k < l.length) : l.drop k = l.getD k sp0 :: l.drop (k + 1) := by
  rw [List.drop_eq_getElem_cons h]; simp [List.getD, h]
theorem fnd_drop_in (l : List Sp) (k : Nat) (r : Int) (h : k < l.length) (hi : inS (l.getD k sp0) r = true) : fnd (l.drop k) r = (l.getD k sp0).h := by
  rw [drop_getD l k h]; simp only [fnd]; rw [if_pos hi]
theorem fnd_drop_out (l : List Sp) (k : Nat) (r : Int) (h : k < l.length) (hi : inS (l.getD k sp0) r = false) : fnd (l.drop k) r = fnd (l.drop (k + 1)) r := by
  rw [drop_getD l k h]; simp only [fnd]; rw [if_neg (by rw [hi]; exact Bool.false_ne_true)]
theorem fnd_skip (l : List Sp) (r : Int) : ∀ (n k : Nat), k + n ≤ l.length → (∀ i, k ≤ i → i < k + n → inS (l.getD i sp0) r = false) → fnd (l.drop k) r = fnd (l.drop (k + n)) r
  | 0, k, _, _ => rfl
  | n + 1, k, h, hi => by
    rw [fnd_drop_out l k r (by omega) (hi k (Nat.le_refl _) (by omega)), fnd_skip l r n (k + 1) (by omega) (fun i h1 h2 => hi i (by omega) (by omega))]
    rw [show k + 1 + n = k + (n + 1) by omega]
theorem fnd_none (l : List Sp) (r : Int) (h : ∀ i, i < l.length → inS (l.getD i sp0) r = false) : fnd l r = 0 := by
  have := fnd_skip l r l.length 0 (by omega) (fun i _ h2 => h i (by omega))
  simp at this
  rw [this]; rfl
theorem fnd_at (l : List Sp) (r : Int) (k : Nat) (hk : k < l.length) (h : ∀ i, i < k → inS (l.getD i sp0) r = false) (hi : inS (l.getD k sp0) r = true) : fnd l r = (l.getD k sp0).h := by
  have := fnd_skip l r k 0 (by omega) (fun i _ h2 => h i (by omega))
  simp at this
  rw [this, fnd_drop_in l k r hk hi]
/-- What Find answers. -/
def fndT (l : List Sp) (r : Int) : Int := if chk l = 0 then fnd l r else 0
theorem fndT_no {l : List Sp} (h : chk l = 20) (r : Int) : fndT l r = 0 := by unfold fndT; rw [if_neg]; omega
theorem fndT_yes {l : List Sp} (h : chk l = 0) (r : Int) : fndT l r = fnd l r := by unfold fndT; rw [if_pos h]

/-- In a table the ends rise. -/
theorem ok_next {l : List Sp} {n k : Nat} (h : okTo l n = true) (hk : k + 1 < n) : (l.getD k sp0).t < (l.getD (k + 1) sp0).f := by
  have h1 := okTo_at h (k + 1) hk
  simp only [okAt, folS, Bool.and_eq_true, Bool.or_eq_true, decide_eq_true_eq] at h1
  rcases h1.2.2 with h2 | h2
  · omega
  · simpa using h2.1
theorem ok_rise {l : List Sp} {n : Nat} (h : okTo l n = true) : ∀ (d i : Nat), i + d + 1 < n → (l.getD i sp0).t < (l.getD (i + d + 1) sp0).f
  | 0, i, hi => ok_next h hi
  | d + 1, i, hi => by
    have h1 := ok_rise h d i (by omega)
    have h2 := ok_next (k := i + d + 1) h (by omega)
    have h3 := okAt_may (okTo_at h (i + d + 1) (by omega))
    rw [show i + (d + 1) + 1 = i + d + 1 + 1 by omega]
    omega
theorem ok_lt {l : List Sp} {n i j : Nat} (h : okTo l n = true) (hij : i < j) (hj : j < n) : (l.getD i sp0).t < (l.getD j sp0).f := by
  have := ok_rise h (j - i - 1) i (by omega)
  rwa [show i + (j - i - 1) + 1 = j by omega] at this
/-- What a search for the first end that is no less finds. -/
theorem search_out {l : List Sp} (r : Int) (h : okTo l l.length = true) {m : Nat} (hm : m ≤ l.length) (h1 : m = 0 ∨ (l.getD (m - 1) sp0).t < r) (h2 : m = l.length ∨ inS (l.getD m sp0) r = false) (h3 : m = l.length ∨ r ≤ (l.getD m sp0).t) : fnd l r = 0 := by
  refine fnd_none l r fun i hi => ?_
  rw [inS_not]
  have hmi := okAt_may (okTo_at h i hi)
  rcases Nat.lt_trichotomy i m with hlt | rfl | hgt
  · rcases h1 with rfl | h1
    · omega
    · have : (l.getD i sp0).t ≤ (l.getD (m - 1) sp0).t := by
        rcases Nat.lt_or_ge i (m - 1) with h4 | h4
        · have := ok_lt h h4 (by omega)
          have := okAt_may (okTo_at h (m - 1) (by omega))
          omega
        · rw [show i = m - 1 by omega]; exact Int.le_refl _
      omega
  · rcases h2 with h2 | h2
    · omega
    · rw [inS_not] at h2; exact h2
  · have := ok_lt h hgt hi
    rcases h3 with h3 | h3
    · omega
    · omega
theorem search_in {l : List Sp} (r : Int) (h : okTo l l.length = true) {m : Nat} (hm : m < l.length) (hi : inS (l.getD m sp0) r = true) : fnd l r = (l.getD m sp0).h := by
  refine fnd_at l r m hm (fun i hlt => ?_) hi
  rw [inS_iff] at hi
  have := ok_lt h hlt hm
  rw [inS_not]
  omega

/-- How many numbers have something, from place k on counted. -/
def cntTo (l : List Sp) (q : Int) : Nat → Int
  | 0 => 0
  | k + 1 => cntTo l q k + (if (l.getD k sp0).h = q then (l.getD k sp0).t - (l.getD k sp0).f + 1 else 0)
theorem cnt_bound {l : List Sp} {q : Int} : ∀ {n : Nat}, okTo l n = true → 0 ≤ cntTo l q n ∧ cntTo l q n ≤ 1114112 * n
  | 0, _ => ⟨Int.le_refl _, by simp [cntTo]⟩
  | n + 1, h => by
    have h1 : okTo l n = true ∧ okAt l n = true := by simpa [okTo] using h
    obtain ⟨i1, i2⟩ := cnt_bound (q := q) h1.1
    have := okAt_may h1.2
    simp only [cntTo]
    split <;> (constructor <;> (try push_cast) <;> omega)
/-- What Count answers. -/
def cntT (l : List Sp) (q : Int) : Int := if chk l = 0 then cntTo l q l.length else 0
theorem cntT_no {l : List Sp} (h : chk l = 20) (q : Int) : cntT l q = 0 := by unfold cntT; rw [if_neg]; omega
theorem cntT_yes {l : List Sp} (h : chk l = 0) (q : Int) : cntT l q = cntTo l q l.length := by unfold cntT; rw [if_pos h]
end Go.Proofs.Ytdlbdfndnjdeeaa
