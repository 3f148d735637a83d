/- Numbers of two parts and their texts, plainly. -/
import Derived.Test.YtpkofpgdnbkknaaDoorDig
import Derived.Test.YtpkofpgdnbkknaaDoorFlt
namespace Go.Proofs.YtpkofpgdnbkknaaDoor

/-- A whole number's text. -/
def digZ (n : Int) : List Int := if n < 0 then 45 :: digN (-n).toNat else digN n.toNat
theorem digZ_neg {n : Int} (h : n < 0) : digZ n = 45 :: digN (-n).toNat := by unfold digZ; rw [if_pos h]
theorem digZ_pos {n : Int} (h : ¬ n < 0) : digZ n = digN n.toNat := by unfold digZ; rw [if_neg h]
theorem digZ_bound (n : Int) : ∀ x ∈ digZ n, 45 ≤ x ∧ x ≤ 57 := by
  intro x hx
  unfold digZ at hx
  split at hx
  · rcases List.mem_cons.1 hx with h | h
    · omega
    · have := digN_bound _ x h; omega
  · have := digN_bound _ x hx; omega
theorem digZ_len (n : Int) (h1 : -999999 ≤ n) (h2 : n ≤ 999999) : (digZ n).length ≤ 7 := by
  unfold digZ
  split
  · have := digN_len 5 (-n).toNat (by omega)
    simp; omega
  · have := digN_len 5 n.toNat (by omega)
    omega
/-- The text of two whole parts. -/
def txt (a b : Int) : List Int := if b = 0 then digZ a else if a = 0 then digZ b ++ [105] else if 0 < b then digZ a ++ 43 :: (digZ b ++ [105]) else digZ a ++ (digZ b ++ [105])
theorem txt_bound (a b : Int) : ∀ x ∈ txt a b, 0 ≤ x ∧ x < 256 := by
  intro x hx
  have ha := digZ_bound a
  have hb := digZ_bound b
  unfold txt at hx
  split at hx
  · have := ha x hx; omega
  · split at hx
    · rcases List.mem_append.1 hx with h | h
      · have := hb x h; omega
      · simp at h; omega
    · split at hx
      · rcases List.mem_append.1 hx with h | h
        · have := ha x h; omega
        · rcases List.mem_cons.1 h with h | h
          · omega
          · rcases List.mem_append.1 h with h | h
            · have := hb x h; omega
            · simp at h; omega
      · rcases List.mem_append.1 hx with h | h
        · have := ha x h; omega
        · rcases List.mem_append.1 h with h | h
          · have := hb x h; omega
          · simp at h; omega
theorem txt_len (a b : Int) (h1 : -999999 ≤ a) (h2 : a ≤ 999999) (h3 : -999999 ≤ b) (h4 : b ≤ 999999) : (txt a b).length ≤ 16 := by
  have := digZ_len a h1 h2
  have := digZ_len b h3 h4
  unfold txt
  split
  · omega
  · split
    · simp; omega
    · split <;> simp <;> omega

/-- Digits from the left, while the number is below 1000000. -/
def goD : List Int → Int → Int × List Int
  | [], n => (n, [])
  | c :: s, n => if 48 ≤ c ∧ c ≤ 57 ∧ n < 1000000 then goD s (10 * n + c - 48) else (n, c :: s)
def takeL (s : List Int) : Int × List Int := if s.getD 0 0 = 45 then (-(goD (s.drop 1) 0).1, (goD (s.drop 1) 0).2) else goD s 0
theorem goD_dig (n : Nat) : ∀ (r : List Int), n ≤ 999999 → goD (digN n ++ r) 0 = goD r n := by
  induction n using Nat.strongRecOn with
  | _ n ih =>
    intro r h
    by_cases h1 : n < 10
    · rw [digN_small h1]
      simp only [List.singleton_append, goD]
      rw [if_pos (by omega)]
      congr 1; omega
    · rw [digN_big h1, List.append_assoc, ih (n / 10) (by omega) _ (by omega)]
      simp only [List.singleton_append, goD]
      rw [if_pos (by omega)]
      congr 1; omega
theorem goD_stop (n : Int) (r : List Int) (h : r = [] ∨ ¬ (48 ≤ r.getD 0 0 ∧ r.getD 0 0 ≤ 57)) : goD r n = (n, r) := by
  cases r with
  | nil => rfl
  | cons c s =>
    simp only [goD]
    rcases h with h | h
    · cases h
    · simp only [List.getD_cons_zero] at h
      rw [if_neg (by omega)]
theorem digN_head (n : Nat) : ∃ c t, digN n = c :: t ∧ 48 ≤ c ∧ c ≤ 57 := by
  have hb := digN_bound n
  cases h : digN n with
  | nil =>
    by_cases h1 : n < 10
    · rw [digN_small h1] at h; cases h
    · rw [digN_big h1] at h; simp at h
  | cons c t => exact ⟨c, t, rfl, hb c (by rw [h]; simp)⟩
theorem takeL_dig (n : Int) (r : List Int) (h1 : -999999 ≤ n) (h2 : n ≤ 999999) (h : r = [] ∨ ¬ (48 ≤ r.getD 0 0 ∧ r.getD 0 0 ≤ 57)) : takeL (digZ n ++ r) = (n, r) := by
  unfold takeL
  by_cases hn : n < 0
  · rw [digZ_neg hn]
    simp only [List.cons_append, List.getD_cons_zero, if_true, List.drop_succ_cons, List.drop_zero]
    rw [goD_dig _ _ (by omega), goD_stop _ _ h]
    have : -(((-n).toNat : Nat) : Int) = n := by omega
    show (-(((-n).toNat : Nat) : Int), r) = (n, r)
    rw [this]
  · rw [digZ_pos hn]
    obtain ⟨c, t, e, c1, c2⟩ := digN_head n.toNat
    have e0 : (digN n.toNat ++ r).getD 0 0 = c := by rw [e]; rfl
    rw [e0, if_neg (by omega), goD_dig _ _ (by omega), goD_stop _ _ h]
    have : ((n.toNat : Nat) : Int) = n := by omega
    rw [this]
/-- The two parts that a text may have. -/
def cutG (s : List Int) : Int × Int :=
  if (takeL s).2 = [] then ((takeL s).1, 0)
  else if (takeL s).2.getD 0 0 = 105 then (0, (takeL s).1)
  else if (takeL s).2.getD 0 0 = 43 then ((takeL s).1, (takeL ((takeL s).2.drop 1)).1)
  else ((takeL s).1, (takeL (takeL s).2).1)
def inZ (a : Int) : Bool := decide (-999999 ≤ a ∧ a ≤ 999999)
/-- Is a text a number's? -/
def okG (s : List Int) : Bool := inZ (cutG s).1 && inZ (cutG s).2 && decide (txt (cutG s).1 (cutG s).2 = s)
/-- The number's parts (0 and 0: none). -/
def parG (s : List Int) : Int × Int := if okG s then cutG s else (0, 0)
def parF (s : List Int) : Int := if okG s then 0 else 140
theorem cut_txt (a b : Int) (h1 : -999999 ≤ a) (h2 : a ≤ 999999) (h3 : -999999 ≤ b) (h4 : b ≤ 999999) : cutG (txt a b) = (a, b) := by
  unfold txt
  by_cases hb : b = 0
  · rw [if_pos hb]
    have e := takeL_dig a [] h1 h2 (.inl rfl)
    rw [List.append_nil] at e
    unfold cutG
    rw [e]
    simp [hb]
  · rw [if_neg hb]
    by_cases ha : a = 0
    · rw [if_pos ha]
      have e := takeL_dig b [105] h3 h4 (.inr (by simp))
      unfold cutG
      rw [e]
      simp [ha]
    · rw [if_neg ha]
      by_cases hp : 0 < b
      · rw [if_pos hp]
        have e := takeL_dig a (43 :: (digZ b ++ [105])) h1 h2 (.inr (by simp))
        have e2 := takeL_dig b [105] h3 h4 (.inr (by simp))
        unfold cutG
        rw [e]
        simp [e2]
      · rw [if_neg hp]
        have hbn : b < 0 := by omega
        have e2 := takeL_dig b [105] h3 h4 (.inr (by simp))
        have hd : (digZ b ++ [105]).getD 0 0 = 45 := by rw [digZ_neg hbn]; rfl
        have hne : digZ b ++ [105] ≠ [] := by simp
        have e := takeL_dig a (digZ b ++ [105]) h1 h2 (.inr (by rw [hd]; omega))
        unfold cutG
        rw [e]
        simp only
        rw [if_neg hne, hd, if_neg (by omega), if_neg (by omega), e2]
theorem ok_txt (a b : Int) (h1 : -999999 ≤ a) (h2 : a ≤ 999999) (h3 : -999999 ≤ b) (h4 : b ≤ 999999) : okG (txt a b) = true := by
  unfold okG inZ
  rw [cut_txt a b h1 h2 h3 h4]
  simp [h1, h2, h3, h4]
theorem ok_in {s : List Int} (h : okG s = true) : -999999 ≤ (cutG s).1 ∧ (cutG s).1 ≤ 999999 ∧ -999999 ≤ (cutG s).2 ∧ (cutG s).2 ≤ 999999 ∧ txt (cutG s).1 (cutG s).2 = s := by
  unfold okG inZ at h
  simp only [Bool.and_eq_true, decide_eq_true_eq] at h
  exact ⟨h.1.1.1, h.1.1.2, h.1.2.1, h.1.2.2, h.2⟩

/-- The parts of a number of two floats; none: they are none. -/
def pz (x y : Nat) : Option (Int × Int) :=
  match wh x, wh y with
  | some a, some b => some (a, b)
  | _, _ => none
theorem pz_some {x y : Nat} {a b : Int} (h1 : wh x = some a) (h2 : wh y = some b) : pz x y = some (a, b) := by unfold pz; rw [h1, h2]
theorem pz_val {x y : Nat} {p : Int × Int} (h : pz x y = some p) : wh x = some p.1 ∧ wh y = some p.2 := by
  unfold pz at h
  split at h
  · rename_i a b h1 h2
    cases h; exact ⟨h1, h2⟩
  · cases h
theorem pz_none_l {x y : Nat} (h : wh x = none) : pz x y = none := by unfold pz; rw [h]
theorem pz_none_r {x y : Nat} (h : wh y = none) : pz x y = none := by
  unfold pz
  rw [h]
  cases wh x <;> rfl
theorem pz_in {x y : Nat} {p : Int × Int} (h : pz x y = some p) : -999999 ≤ p.1 ∧ p.1 ≤ 999999 ∧ -999999 ≤ p.2 ∧ p.2 ≤ 999999 := by
  obtain ⟨h1, h2⟩ := pz_val h
  exact ⟨(wh_val h1).2.1, (wh_val h1).2.2, (wh_val h2).2.1, (wh_val h2).2.2⟩
/-- The norm. -/
def nrm (p : Option (Int × Int)) : Int := match p with | some q => q.1 * q.1 + q.2 * q.2 | none => -1
theorem sq_bound (a : Int) (h1 : -999999 ≤ a) (h2 : a ≤ 999999) : 0 ≤ a * a ∧ a * a ≤ 999998000001 := by
  constructor
  · rcases Int.le_total 0 a with h | h
    · exact Int.mul_nonneg h h
    · exact Int.mul_nonneg_of_nonpos_of_nonpos h h
  · have h3 : 0 ≤ (999999 - a) * (999999 + a) := Int.mul_nonneg (by omega) (by omega)
    have h4 : (999999 - a) * (999999 + a) = 999998000001 - a * a := by
      rw [Int.sub_mul, Int.mul_add, Int.mul_add, Int.mul_comm a 999999]; omega
    omega
theorem mul_bound (a b : Int) (h1 : -999999 ≤ a) (h2 : a ≤ 999999) (h3 : -999999 ≤ b) (h4 : b ≤ 999999) : -999998000001 ≤ a * b ∧ a * b ≤ 999998000001 := by
  have sa := sq_bound a h1 h2
  have sb := sq_bound b h3 h4
  have e1 : 0 ≤ (a + b) * (a + b) := by
    rcases Int.le_total 0 (a + b) with h | h
    · exact Int.mul_nonneg h h
    · exact Int.mul_nonneg_of_nonpos_of_nonpos h h
  have e2 : 0 ≤ (a - b) * (a - b) := by
    rcases Int.le_total 0 (a - b) with h | h
    · exact Int.mul_nonneg h h
    · exact Int.mul_nonneg_of_nonpos_of_nonpos h h
  have f1 : (a + b) * (a + b) = a * a + 2 * (a * b) + b * b := by
    rw [Int.add_mul, Int.mul_add, Int.mul_add, Int.mul_comm b a]; omega
  have f2 : (a - b) * (a - b) = a * a - 2 * (a * b) + b * b := by
    rw [Int.sub_mul, Int.mul_sub, Int.mul_sub, Int.mul_comm b a]; omega
  omega
theorem nrm_bound {x y : Nat} : -1 ≤ nrm (pz x y) ∧ nrm (pz x y) ≤ 1999996000002 := by
  cases h : pz x y with
  | none => simp [nrm]
  | some p =>
    have hi := pz_in h
    have s1 := sq_bound p.1 hi.1 hi.2.1
    have s2 := sq_bound p.2 hi.2.2.1 hi.2.2.2
    simp only [nrm]
    omega
/-- Turns. -/
def rot : Nat → Int × Int → Int × Int
  | 0, p => p
  | k + 1, p => rot k (-p.2, p.1)
theorem rot_add : ∀ (j k : Nat) (p : Int × Int), rot (j + k) p = rot k (rot j p)
  | 0, k, p => by simp [rot]
  | j + 1, k, p => by
    rw [show j + 1 + k = (j + k) + 1 by omega]
    simp only [rot]
    exact rot_add j k _
theorem rot_four (p : Int × Int) : rot 4 p = p := by simp [rot]
theorem rot_in : ∀ (k : Nat) (p : Int × Int), (-999999 ≤ p.1 ∧ p.1 ≤ 999999 ∧ -999999 ≤ p.2 ∧ p.2 ≤ 999999) → -999999 ≤ (rot k p).1 ∧ (rot k p).1 ≤ 999999 ∧ -999999 ≤ (rot k p).2 ∧ (rot k p).2 ≤ 999999
  | 0, p, h => h
  | k + 1, p, h => rot_in k (-p.2, p.1) ⟨by simp; omega, by simp; omega, by simp; omega, by simp; omega⟩
theorem rot_nrm : ∀ (k : Nat) (p : Int × Int), nrm (some (rot k p)) = nrm (some p)
  | 0, _ => rfl
  | k + 1, p => by
    have := rot_nrm k (-p.2, p.1)
    simp only [nrm, rot] at this ⊢
    rw [this, Int.neg_mul_neg]; omega
/-- n turns, also backward. -/
def trn (n : Int) (p : Option (Int × Int)) : Int × Int := match p with | some q => rot (n % 4).toNat q | none => (0, 0)
def errZ (p : Option (Int × Int)) : Int := match p with | some _ => 0 | none => 140
/-- The product. -/
def prod (p q : Int × Int) : Int × Int := (p.1 * q.1 - p.2 * q.2, p.1 * q.2 + p.2 * q.1)
def tim (p q : Option (Int × Int)) : Int × Int := match p, q with | some a, some b => if inZ (prod a b).1 && inZ (prod a b).2 then prod a b else (0, 0) | _, _ => (0, 0)
def timE (p q : Option (Int × Int)) : Int := match p, q with | some a, some b => if inZ (prod a b).1 && inZ (prod a b).2 then 0 else 3 | _, _ => 140
/-- The order. -/
def reZ (p : Option (Int × Int)) : Int := match p with | some q => q.1 | none => 0
def imZ (p : Option (Int × Int)) : Int := match p with | some q => q.2 | none => 0
def cm3 (m n a c b d : Int) : Int := if m < n then -1 else if n < m then 1 else if a < c then -1 else if c < a then 1 else if b < d then -1 else if d < b then 1 else 0
def cmpG (p q : Option (Int × Int)) : Int := cm3 (nrm p) (nrm q) (reZ p) (reZ q) (imZ p) (imZ q)
theorem cm3_vals (m n a c b d : Int) : cm3 m n a c b d = -1 ∨ cm3 m n a c b d = 0 ∨ cm3 m n a c b d = 1 := by
  unfold cm3
  repeat' split
  all_goals simp
theorem cm3_neg (m n a c b d : Int) : cm3 n m c a d b = - cm3 m n a c b d := by
  unfold cm3
  repeat' split
  all_goals omega
theorem cm3_zero (m n a c b d : Int) : cm3 m n a c b d = 0 ↔ m = n ∧ a = c ∧ b = d := by
  unfold cm3
  repeat' split
  all_goals omega
theorem cm3_le (m n a c b d : Int) : cm3 m n a c b d ≤ 0 ↔ m < n ∨ (m = n ∧ (a < c ∨ (a = c ∧ b ≤ d))) := by
  unfold cm3
  repeat' split
  all_goals omega
theorem cm3_trans (m n o a c e b d f : Int) (h1 : cm3 m n a c b d ≤ 0) (h2 : cm3 n o c e d f ≤ 0) : cm3 m o a e b f ≤ 0 := by
  rw [cm3_le] at *
  omega
theorem prod_comm (p q : Int × Int) : prod p q = prod q p := by
  unfold prod
  rw [Int.mul_comm p.1 q.1, Int.mul_comm p.2 q.2, Int.mul_comm p.1 q.2, Int.mul_comm p.2 q.1, Int.add_comm (q.2 * p.1)]
theorem prod_nrm (p q : Int × Int) : nrm (some (prod p q)) = nrm (some p) * nrm (some q) := by
  simp only [nrm, prod]
  generalize p.1 = a
  generalize p.2 = b
  generalize q.1 = c
  generalize q.2 = d
  grind
end Go.Proofs.YtpkofpgdnbkknaaDoor
