/- Names and their texts, plainly: what may be, how it is written, how it is read; P18.5, P18.6. -/
import Derived.Test.YtjjildpdelkejaaM01
import Derived.Lib.Strings
import Derived.Lib.IndexBytes
namespace Go.Proofs.Ytjjildpdelkejaa
open Go.RowKit

/-- A pair: its name, its value. -/
structure Pr where
  nam : ByteArray
  val : ByteArray
/-- The pair that is none. -/
def pr0 : Pr := ⟨ByteArray.empty, ByteArray.empty⟩
def lowB (c : Int) : Bool := decide (97 ≤ c ∧ c ≤ 122)
def digB (c : Int) : Bool := decide (48 ≤ c ∧ c ≤ 57)
def wrdC (c : Int) : Bool := lowB c || (digB c || decide (c = 45))
/-- Is a text a word? -/
def wrdB (l : List Int) : Bool := decide (1 ≤ l.length ∧ l.length ≤ 16) && (lowB (l.getD 0 0) && l.all wrdC)
/-- May a pair, a part, a name be? -/
def okP (p : Pr) : Bool := wrdB (nums p.nam) && decide (1 ≤ p.val.size ∧ p.val.size ≤ 400)
def okR (r : List Pr) : Bool := decide (1 ≤ r.length ∧ r.length ≤ 3) && r.all okP
def okN (n : List (List Pr)) : Bool := decide (n.length ≤ 6) && n.all okR
def chkN (n : List (List Pr)) : Int := if okN n = true then 0 else 220
/-- The bytes that have a slash ahead wherever they stand. -/
def sgn (c : Int) : Bool := decide (c = 44 ∨ c = 43 ∨ c = 34 ∨ c = 92 ∨ c = 60 ∨ c = 62 ∨ c = 59 ∨ c = 61)
def esc (c : Int) : Bool := sgn c || decide (c = 32 ∨ c = 35)
def hexD (n : Int) : Int := if n < 10 then 48 + n else 87 + n
def unh (c : Int) : Int := if 48 ≤ c ∧ c ≤ 57 then c - 48 else if 97 ≤ c ∧ c ≤ 102 then c - 87 else if 65 ≤ c ∧ c ≤ 70 then c - 55 else 16
/-- The text of one byte of a value, which stands first, or last. -/
def escB (f la : Bool) (c : Int) : List Int :=
  if c < 32 ∨ c = 127 then [92, hexD (c / 16), hexD (c % 16)] else if (sgn c || (decide (c = 32) && (f || la) || (decide (c = 35) && f))) = true then [92, c] else [c]
/-- The text of a value, of a pair, of a part, of a name. -/
def shV (f : Bool) : List Int → List Int
  | [] => []
  | c :: t => escB f t.isEmpty c ++ shV false t
def shP (p : Pr) : List Int := nums p.nam ++ (61 :: shV true (nums p.val))
def shR (f : Bool) : List Pr → List Int
  | [] => []
  | p :: t => (if f then [] else [43]) ++ (shP p ++ shR false t)
def shN (f : Bool) : List (List Pr) → List Int
  | [] => []
  | r :: t => (if f then [] else [44]) ++ (shR true r ++ shN false t)
/-- What Show answers. -/
def shS (n : List (List Pr)) : ByteArray := if okN n = true then strOfNums (shN true n) else strOfNums []

/-- What a value's text says, and the rest: nothing, or what begins with a comma or a plus. f: it stands first; b: a bare space was read last. -/
def valL (f b : Bool) : List Int → Option (List Int × List Int)
  | [] => if b then none else some ([], [])
  | c :: t =>
    if c = 44 ∨ c = 43 then (if b then none else some ([], c :: t))
    else if c = 92 then
      match t with
      | [] => none
      | d :: u =>
        if esc d = true then (valL false false u).map fun x => (d :: x.1, x.2)
        else
          match u with
          | [] => none
          | e :: r => if unh d < 16 ∧ unh e < 16 then (valL false false r).map fun x => ((16 * unh d + unh e) :: x.1, x.2) else none
    else if sgn c = true ∨ (f = true ∧ (c = 32 ∨ c = 35)) then none
    else (valL false (decide (c = 32)) t).map fun x => (c :: x.1, x.2)
/-- A text, cut at the first = (which is left out). -/
def cutE : List Int → List Int × List Int
  | [] => ([], [])
  | c :: t => if c = 61 then ([], t) else (c :: (cutE t).1, (cutE t).2)
def smlC (c : Int) : Int := if 65 ≤ c ∧ c ≤ 90 then c + 32 else c
/-- The pair that a text begins with, and the rest. -/
def pairL (l : List Int) : Option (Pr × List Int) := (valL true false (cutE l).2).map fun x => (⟨strOfNums ((cutE l).1.map smlC), strOfNums x.1⟩, x.2)
/-- The parts of a text, behind parts n and pairs r. -/
def partsL : Nat → List (List Pr) → List Pr → List Int → Option (List (List Pr))
  | 0, _, _, _ => none
  | k + 1, n, r, l =>
    match pairL l with
    | none => none
    | some (p, []) => some (n ++ [r ++ [p]])
    | some (p, c :: t) => if c = 43 then partsL k n (r ++ [p]) t else partsL k (n ++ [r ++ [p]]) [] t
def parR (l : List Int) : Option (List (List Pr)) :=
  match partsL (l.length + 1) [] [] l with
  | none => none
  | some n => if okN n = true then some n else none
/-- The name of a text, and the error. -/
def parN (l : List Int) : List (List Pr) := if 3000 < l.length then [] else if l.length = 0 then [] else (parR l).getD []
def parE (l : List Int) : Int := if 3000 < l.length then 3 else if l.length = 0 then 0 else if (parR l).isSome = true then 0 else 220

theorem val_nil (f b : Bool) : valL f b [] = if b then none else some ([], []) := by rw [valL.eq_def]
theorem val_sep (f b : Bool) {c : Int} (t : List Int) (h : c = 44 ∨ c = 43) : valL f b (c :: t) = if b then none else some ([], c :: t) := by
  rw [valL.eq_def]
  simp only
  rw [if_pos h]
theorem val_esc (f b : Bool) {d : Int} (u : List Int) (h : esc d = true) : valL f b (92 :: d :: u) = (valL false false u).map fun x => (d :: x.1, x.2) := by
  rw [valL.eq_def]
  simp only
  rw [if_neg (by decide), if_pos trivial, if_pos h]
theorem val_hex (f b : Bool) {d : Int} (e : Int) (r : List Int) (h : esc d = false) : valL f b (92 :: d :: e :: r) = if unh d < 16 ∧ unh e < 16 then (valL false false r).map fun x => ((16 * unh d + unh e) :: x.1, x.2) else none := by
  rw [valL.eq_def]
  simp only
  rw [if_neg (by decide), if_pos trivial, if_neg (by rw [h]; decide)]
theorem val_one (f b : Bool) : valL f b [92] = none := by
  rw [valL.eq_def]
  simp only
  rw [if_neg (by decide), if_pos trivial]
theorem val_two (f b : Bool) {d : Int} (h : esc d = false) : valL f b [92, d] = none := by
  rw [valL.eq_def]
  simp only
  rw [if_neg (by decide), if_pos trivial, if_neg (by rw [h]; decide)]
theorem val_bare (f b : Bool) {c : Int} (t : List Int) (h1 : ¬ (c = 44 ∨ c = 43)) (h2 : ¬ c = 92) : valL f b (c :: t) = if sgn c = true ∨ (f = true ∧ (c = 32 ∨ c = 35)) then none else (valL false (decide (c = 32)) t).map fun x => (c :: x.1, x.2) := by
  rw [valL.eq_def]
  simp only
  rw [if_neg h1, if_neg h2]
theorem unh_hex (n : Int) (h0 : 0 ≤ n) (h1 : n < 16) : unh (hexD n) = n := by
  unfold unh hexD
  by_cases h : n < 10
  · rw [if_pos h, if_pos (by omega)]; omega
  · rw [if_neg h, if_neg (by omega), if_pos (by omega)]; omega
theorem hex_plain (n : Int) (h0 : 0 ≤ n) (h1 : n < 16) : esc (hexD n) = false := by
  unfold esc sgn hexD
  by_cases h : n < 10
  · rw [if_pos h]
    simp
    omega
  · rw [if_neg h]
    simp
    omega
/-- A value's text is read as it was written. -/
theorem val_back (X : List Int) (hX : X = [] ∨ ∃ c t, X = c :: t ∧ (c = 44 ∨ c = 43)) : ∀ (l : List Int) (f b : Bool), (∀ x ∈ l, 0 ≤ x ∧ x < 256) → (l = [] → b = false) → valL f b (shV f l ++ X) = some (l, X)
  | [], f, b, _, hb => by
    rw [hb rfl]
    rcases hX with rfl | ⟨c, t, rfl, hc⟩
    · exact val_nil f false
    · exact val_sep f false t hc
  | c :: t, f, b, hl, _ => by
    have hc := hl c (by simp)
    have ht : ∀ x ∈ t, 0 ≤ x ∧ x < 256 := fun x hx => hl x (by simp [hx])
    rw [shV]
    unfold escB
    by_cases h1 : c < 32 ∨ c = 127
    · rw [if_pos h1]
      simp only [List.cons_append, List.nil_append]
      rw [val_hex f b _ _ (hex_plain _ (by omega) (by omega)), unh_hex _ (by omega) (by omega), unh_hex _ (by omega) (by omega), val_back X hX t false false ht (fun _ => rfl), if_pos (by omega)]
      simp
      omega
    · rw [if_neg h1]
      by_cases h2 : (sgn c || (decide (c = 32) && (f || t.isEmpty) || (decide (c = 35) && f))) = true
      · rw [if_pos h2]
        have he : esc c = true := by
          unfold esc
          simp only [Bool.or_eq_true, Bool.and_eq_true, decide_eq_true_eq] at h2 ⊢
          rcases h2 with h | ⟨h, _⟩ | ⟨h, _⟩
          · exact .inl h
          · exact .inr (.inl h)
          · exact .inr (.inr h)
        simp only [List.cons_append, List.nil_append]
        rw [val_esc f b _ he, val_back X hX t false false ht (fun _ => rfl)]
        rfl
      · rw [if_neg h2]
        have h3 : sgn c = false := by
          cases h : sgn c
          · rfl
          · rw [h] at h2; simp at h2
        have h4 : ¬ (c = 44 ∨ c = 43) ∧ ¬ c = 92 := by
          unfold sgn at h3
          simp at h3
          omega
        rw [h3] at h2
        simp only [Bool.false_or, Bool.or_eq_true, Bool.and_eq_true, decide_eq_true_eq, not_or, not_and] at h2
        simp only [List.cons_append, List.nil_append]
        rw [val_bare f b _ h4.1 h4.2, h3, if_neg, val_back X hX t false _ ht]
        · rfl
        · intro e
          subst e
          have := h2.1
          simp at this ⊢
          omega
        · intro h
          rcases h with h | ⟨hf, h | h⟩
          · simp at h
          · exact (h2.1 h).1 hf
          · exact h2.2 h hf
theorem cutE_word (Y : List Int) : ∀ (l : List Int), (∀ x ∈ l, x ≠ 61) → cutE (l ++ 61 :: Y) = (l, Y)
  | [], _ => by simp [cutE]
  | c :: t, h => by
    have := cutE_word Y t (fun x hx => h x (by simp [hx]))
    have hc := h c (by simp)
    simp only [List.cons_append, cutE]
    rw [if_neg hc, this]
theorem wrdC_in {c : Int} (h : wrdC c = true) : (97 ≤ c ∧ c ≤ 122) ∨ (48 ≤ c ∧ c ≤ 57) ∨ c = 45 := by
  unfold wrdC lowB digB at h
  simpa using h
theorem wrd_all {l : List Int} (h : wrdB l = true) : ∀ x ∈ l, wrdC x = true := by
  unfold wrdB at h
  simp only [Bool.and_eq_true, List.all_eq_true] at h
  exact h.2.2
theorem wrd_len {l : List Int} (h : wrdB l = true) : 1 ≤ l.length ∧ l.length ≤ 16 := by
  unfold wrdB at h
  simp only [Bool.and_eq_true, decide_eq_true_eq] at h
  exact h.1
theorem okP_parts {p : Pr} (h : okP p = true) : wrdB (nums p.nam) = true ∧ 1 ≤ p.val.size ∧ p.val.size ≤ 400 := by
  unfold okP at h
  simpa using h
theorem sml_word {l : List Int} (h : ∀ x ∈ l, wrdC x = true) : l.map smlC = l := by
  conv => rhs; rw [← List.map_id l]
  apply List.map_congr_left
  intro x hx
  have := wrdC_in (h x hx)
  unfold smlC
  rw [if_neg (by omega)]
  rfl
theorem pair_back (p : Pr) (hp : okP p = true) (X : List Int) (hX : X = [] ∨ ∃ c t, X = c :: t ∧ (c = 44 ∨ c = 43)) : pairL (shP p ++ X) = some (p, X) := by
  obtain ⟨hw, hv, _⟩ := okP_parts hp
  have ha := wrd_all hw
  have e : cutE (shP p ++ X) = (nums p.nam, shV true (nums p.val) ++ X) := by
    unfold shP
    rw [List.append_assoc, List.cons_append]
    exact cutE_word _ _ fun x hx => by have := wrdC_in (ha x hx); omega
  unfold pairL
  rw [e]
  simp only
  rw [val_back X hX _ true false (nums_bound _) (fun _ => rfl), sml_word ha]
  simp only [Option.map_some, strOfNums_nums]
theorem shR_plus (p : Pr) (t : List Pr) : shR false (p :: t) = 43 :: shR true (p :: t) := rfl
theorem shN_comma (r : List Pr) (t : List (List Pr)) : shN false (r :: t) = 44 :: (shR true r ++ shN false t) := rfl
theorem parts_back : ∀ (k : Nat) (ps : List Pr) (ns n : List (List Pr)) (r : List Pr), ps ≠ [] → (∀ p ∈ ps, okP p = true) → (∀ q ∈ ns, q ≠ [] ∧ ∀ p ∈ q, okP p = true) → (shR true ps ++ shN false ns).length < k →
    partsL k n r (shR true ps ++ shN false ns) = some (n ++ [r ++ ps] ++ ns)
  | 0, _, _, _, _, _, _, _, h => absurd h (Nat.not_lt_zero _)
  | k + 1, [], _, _, _, h, _, _, _ => absurd rfl h
  | k + 1, p :: pt, ns, n, r, _, hp, hn, hk => by
    have hX : (shR false pt ++ shN false ns) = [] ∨ ∃ c t, (shR false pt ++ shN false ns) = c :: t ∧ (c = 44 ∨ c = 43) := by
      cases pt with
      | cons q t => exact .inr ⟨_, _, by rw [shR_plus]; rfl, .inr rfl⟩
      | nil =>
        cases ns with
        | nil => exact .inl rfl
        | cons q t => exact .inr ⟨_, _, by rw [shN_comma]; rfl, .inl rfl⟩
    have e : shR true (p :: pt) ++ shN false ns = shP p ++ (shR false pt ++ shN false ns) := by simp [shR]
    rw [e] at hk ⊢
    have hpb := pair_back p (hp p (by simp)) _ hX
    have h1 : 1 ≤ (shP p).length := by unfold shP; simp; omega
    rw [List.length_append] at hk
    rw [partsL, hpb]
    cases pt with
    | cons q t =>
      rw [shR_plus] at hk ⊢
      simp only [List.cons_append] at hk ⊢
      rw [if_pos trivial, parts_back k (q :: t) ns n (r ++ [p]) (by simp) (fun x hx => hp x (by simp at hx ⊢; exact .inr hx)) hn (by simp at hk ⊢; omega)]
      simp
    | nil =>
      cases ns with
      | nil => simp [shR, shN]
      | cons q t =>
        obtain ⟨q1, q2⟩ := hn q (by simp)
        rw [show shR false [] ++ shN false (q :: t) = 44 :: (shR true q ++ shN false t) from rfl] at hk ⊢
        simp only
        rw [if_neg (by decide), parts_back k q t (n ++ [r ++ [p]]) [] q1 q2 (fun x hx => hn x (by simp [hx])) (by simp at hk ⊢; omega)]
        simp
theorem okN_parts {n : List (List Pr)} (h : okN n = true) : n.length ≤ 6 ∧ ∀ r ∈ n, okR r = true := by
  unfold okN at h
  simpa using h
theorem okR_parts {r : List Pr} (h : okR r = true) : (1 ≤ r.length ∧ r.length ≤ 3) ∧ ∀ p ∈ r, okP p = true := by
  unfold okR at h
  simpa using h
theorem okR_ne {r : List Pr} (h : okR r = true) : r ≠ [] := fun e => by
  have := (okR_parts h).1
  rw [e] at this
  simp at this
theorem shN_ne {n : List (List Pr)} (h : okN n = true) (hn : n ≠ []) : (shN true n).length ≠ 0 := by
  cases n with
  | nil => exact absurd rfl hn
  | cons r t =>
    have hr := (okN_parts h).2 r (by simp)
    cases r with
    | nil => exact absurd rfl (okR_ne hr)
    | cons p u => simp [shN, shR, shP]
/-- P18.5: a name that may be is read as it was written. -/
theorem par_back {n : List (List Pr)} (h : okN n = true) (hl : (shN true n).length ≤ 3000) : parN (shN true n) = n ∧ parE (shN true n) = 0 := by
  cases n with
  | nil => exact ⟨rfl, rfl⟩
  | cons r t =>
    have h0 := shN_ne h (by simp)
    have hp := (okN_parts h).2
    have e : parR (shN true (r :: t)) = some (r :: t) := by
      unfold parR
      have e2 : shN true (r :: t) = shR true r ++ shN false t := rfl
      rw [e2, parts_back _ r t [] [] (okR_ne (hp r (by simp))) (okR_parts (hp r (by simp))).2 (fun q hq => ⟨okR_ne (hp q (by simp [hq])), (okR_parts (hp q (by simp [hq]))).2⟩) (by omega)]
      simp only [List.nil_append, List.singleton_append]
      rw [if_pos h]
    unfold parN parE
    rw [if_neg (by omega), if_neg h0, if_neg (by omega), if_neg h0, e]
    exact ⟨rfl, rfl⟩
theorem par_long {l : List Int} (h : 3000 < l.length) : parN l = [] ∧ parE l = 3 := by
  unfold parN parE
  rw [if_pos h, if_pos h]
  exact ⟨rfl, rfl⟩
theorem par_empty : parN [] = [] ∧ parE [] = 0 := ⟨rfl, rfl⟩
theorem par_yes {l : List Int} {n : List (List Pr)} (h1 : ¬ 3000 < l.length) (h2 : l.length ≠ 0) (h : parR l = some n) : parN l = n ∧ parE l = 0 := by
  unfold parN parE
  rw [if_neg h1, if_neg h1, if_neg h2, if_neg h2, h]
  exact ⟨rfl, rfl⟩
theorem par_no {l : List Int} (h1 : ¬ 3000 < l.length) (h2 : l.length ≠ 0) (h : parR l = none) : parN l = [] ∧ parE l = 220 := by
  unfold parN parE
  rw [if_neg h1, if_neg h1, if_neg h2, if_neg h2, h]
  exact ⟨rfl, rfl⟩
theorem parR_some {l : List Int} {n : List (List Pr)} (h : partsL (l.length + 1) [] [] l = some n) : parR l = if okN n = true then some n else none := by
  unfold parR
  rw [h]
theorem parR_none {l : List Int} (h : partsL (l.length + 1) [] [] l = none) : parR l = none := by
  unfold parR
  rw [h]
theorem parR_ok {l : List Int} {n : List (List Pr)} (h : parR l = some n) : okN n = true := by
  unfold parR at h
  split at h
  · cases h
  · split at h
    · rename_i hk
      cases h
      exact hk
    · cases h
/-- What is read may be; where there is an error nothing is told. -/
theorem par_ok (l : List Int) : okN (parN l) = true := by
  unfold parN
  split
  · rfl
  · split
    · rfl
    · cases h : parR l with
      | none => rfl
      | some n => exact parR_ok h
theorem par_err {l : List Int} (h : parE l ≠ 0) : parN l = [] := by
  unfold parN parE at *
  split at h
  · rw [if_pos (by assumption)]
  · rw [if_neg (by assumption)]
    split at h
    · exact absurd rfl h
    · rw [if_neg (by assumption)]
      cases hp : parR l with
      | none => rfl
      | some n => rw [hp] at h; exact absurd rfl h
theorem parE_in (l : List Int) : parE l = 0 ∨ parE l = 3 ∨ parE l = 220 := by
  unfold parE
  repeat' split
  all_goals simp
end Go.Proofs.Ytjjildpdelkejaa
/- Attribute types, plainly: what the document says of layer 20; P20.4, P20.5. -/
namespace Go.Proofs.Ytjjildpdelkejaa
open Go.RowKit

/-- A type: its name, the name above, its syntax and rule, and two marks. -/
structure Ty where
  nam : ByteArray
  abv : ByteArray
  syn : Int
  rul : Int
  sgl : Bool
  cls : Bool
/-- The empty text; the type that is none. -/
def te : ByteArray := ⟨#[]⟩
def ty0 : Ty := ⟨te, te, 0, 0, false, false⟩
/-- Is a text ahead of another one? -/
def lsT (a b : ByteArray) : Bool := Op.bytesLess a.toList b.toList
theorem ls_irr : ∀ x : List UInt8, Op.bytesLess x x = false
  | [] => rfl
  | a :: t => by simp [Op.bytesLess, ls_irr t]
theorem ls_tr : ∀ x y z : List UInt8, Op.bytesLess x y = true → Op.bytesLess y z = true → Op.bytesLess x z = true
  | x, [], _, h1, _ => by cases x <;> simp [Op.bytesLess] at h1
  | _, _ :: _, [], _, h2 => by simp [Op.bytesLess] at h2
  | [], _ :: _, _ :: _, _, _ => by simp [Op.bytesLess]
  | a :: x, b :: y, c :: z, h1, h2 => by
    simp only [Op.bytesLess] at h1 h2 ⊢
    by_cases hab : a = b
    · subst hab
      by_cases hac : a = c
      · subst hac
        simp at h1 h2 ⊢
        exact ls_tr x y z h1 h2
      · simp [hac] at h2 ⊢
        exact h2
    · by_cases hbc : b = c
      · subst hbc
        simp [hab] at h1 ⊢
        exact h1
      · simp [hab] at h1
        simp [hbc] at h2
        have h3 : a < c := UInt8.lt_trans h1 h2
        simp [h3]
/-- The rules of a syntax; is a rule one of them? -/
def rulL (s : Int) : List Int := if s = 1 ∨ s = 2 then [0, 1, 2] else if s = 10 then [0, 10, 11] else if 3 ≤ s ∧ s ≤ 9 then [0, s] else []
def fitR (s r : Int) : Bool := if s < 1 ∨ 10 < s then false else if s = 1 ∨ s = 2 then decide (0 ≤ r ∧ r ≤ 2) else if s = 10 then decide (r = 0 ∨ r = 10 ∨ r = 11) else decide (r = 0 ∨ r = s)
/-- The type of a name. -/
def fndT (l : List Ty) (n : ByteArray) : Option Ty := l.find? fun x => decide (x.nam = n)
/-- Does a line end? -/
def upT (l : List Ty) : Nat → Ty → Bool
  | 0, a => decide (a.abv = te)
  | k + 1, a => if a.abv = te then true else match fndT l a.abv with
    | none => false
    | some b => if b.syn = a.syn then upT l k b else false
def oneT (l : List Ty) (a : Ty) : Bool := fitR a.syn a.rul && wrdB (nums a.nam) && upT l (l.length + 1) a
def okAt20 (l : List Ty) (n : Nat) : Bool := oneT l (l.getD n ty0) && (decide (n = 0) || lsT (l.getD (n - 1) ty0).nam (l.getD n ty0).nam)
def okTo20 (l : List Ty) : Nat → Bool
  | 0 => true
  | n + 1 => okTo20 l n && okAt20 l n
/-- May types be? -/
def okT (l : List Ty) : Bool := decide (l.length ≤ 24) && okTo20 l l.length
def chkT (l : List Ty) : Int := if okT l then 0 else 190
def findT (l : List Ty) (n : ByteArray) : Option Ty := if okT l then fndT l n else none
/-- A line. -/
def lnF (l : List Ty) : Nat → Ty → List ByteArray
  | 0, a => [a.nam]
  | k + 1, a => a.nam :: match fndT l a.abv with
    | none => []
    | some b => lnF l k b
def lineT (l : List Ty) (n : ByteArray) : List ByteArray := match findT l n with
  | none => []
  | some a => lnF l (l.length + 1) a
def isT (l : List Ty) (n a : ByteArray) : Bool := (lineT l n).any fun x => decide (x = a)
def belT (l : List Ty) (ns : List ByteArray) : List ByteArray := (l.filter fun x => ns.any fun n => isT l x.nam n).map (·.nam)

theorem okTo20_at {l : List Ty} {n k : Nat} (h : okTo20 l n = true) (hk : k < n) : okAt20 l k = true := by
  induction n with
  | zero => omega
  | succ n ih =>
    simp only [okTo20, Bool.and_eq_true] at h
    rcases Nat.lt_or_ge k n with h1 | h1
    · exact ih h.1 h1
    · obtain rfl : k = n := by omega
      exact h.2
theorem okTo20_bad {l : List Ty} {n k : Nat} (hk : k < n) (h : okAt20 l k = false) : okTo20 l n = false := by
  cases hq : okTo20 l n
  · rfl
  · rw [okTo20_at hq hk] at h; cases h
theorem okT_at {l : List Ty} (h : okT l = true) {k : Nat} (hk : k < l.length) : okAt20 l k = true := by
  unfold okT at h
  rw [Bool.and_eq_true] at h
  exact okTo20_at h.2 hk
theorem okT_one {l : List Ty} (h : okT l = true) {a : Ty} (ha : a ∈ l) : oneT l a = true := by
  obtain ⟨k, hk, rfl⟩ := List.getElem_of_mem ha
  have := okT_at h hk
  unfold okAt20 at this
  rw [Bool.and_eq_true] at this
  simpa [List.getD, hk] using this.1
/-- Names rise. -/
theorem okT_rise {l : List Ty} (h : okT l = true) : ∀ (d i : Nat), i + d + 1 < l.length → lsT (l.getD i ty0).nam (l.getD (i + d + 1) ty0).nam = true := by
  have one : ∀ i, i + 1 < l.length → lsT (l.getD i ty0).nam (l.getD (i + 1) ty0).nam = true := fun i hi => by
    have := okT_at h hi
    unfold okAt20 at this
    rw [Bool.and_eq_true, Bool.or_eq_true] at this
    rcases this.2 with q | q
    · simp at q
    · simpa using q
  intro d
  induction d with
  | zero => exact fun i hi => one i hi
  | succ d ih =>
    intro i hi
    exact ls_tr _ _ _ (ih i (by omega)) (one (i + d + 1) (by omega))
theorem okT_inj {l : List Ty} (h : okT l = true) {i j : Nat} (hi : i < l.length) (hj : j < l.length) (e : (l.getD i ty0).nam = (l.getD j ty0).nam) : i = j := by
  apply Classical.byContradiction
  intro hn
  rcases Nat.lt_or_ge i j with q | q
  · have := okT_rise h (j - i - 1) i (by omega)
    rw [show i + (j - i - 1) + 1 = j by omega, e] at this
    unfold lsT at this
    rw [ls_irr] at this
    cases this
  · have := okT_rise h (i - j - 1) j (by omega)
    rw [show j + (i - j - 1) + 1 = i by omega, e] at this
    unfold lsT at this
    rw [ls_irr] at this
    cases this
theorem fnd_in {l : List Ty} {n : ByteArray} {a : Ty} (h : fndT l n = some a) : a ∈ l ∧ a.nam = n := by
  unfold fndT at h
  exact ⟨List.mem_of_find?_eq_some h, by simpa using List.find?_some h⟩
theorem fnd_of {l : List Ty} (h : okT l = true) {a : Ty} (ha : a ∈ l) : fndT l a.nam = some a := by
  cases hf : fndT l a.nam with
  | none =>
    unfold fndT at hf
    rw [List.find?_eq_none] at hf
    exact absurd (decide_eq_true rfl) (hf a ha)
  | some b =>
    obtain ⟨hb, e⟩ := fnd_in hf
    obtain ⟨i, hi, rfl⟩ := List.getElem_of_mem ha
    obtain ⟨j, hj, rfl⟩ := List.getElem_of_mem hb
    have := okT_inj h hj hi (by simpa [List.getD, hi, hj] using e)
    subst this
    rfl
theorem fnd_empty {l : List Ty} (h : okT l = true) : fndT l te = none := by
  cases hf : fndT l te with
  | none => rfl
  | some b =>
    obtain ⟨hb, e⟩ := fnd_in hf
    have := okT_one h hb
    unfold oneT at this
    rw [e] at this
    have hw : wrdB (nums te) = false := by kernel_rfl
    rw [hw] at this
    simp at this
theorem up_line {l : List Ty} (h : okT l = true) : ∀ (k k' : Nat) (a : Ty), upT l k a = true → k ≤ k' → lnF l k' a = lnF l k a := by
  have stop : ∀ (k : Nat) (a : Ty), a.abv = te → lnF l k a = [a.nam] := fun k a e => by
    cases k with
    | zero => rfl
    | succ k => rw [lnF, e, fnd_empty h]
  intro k
  induction k with
  | zero =>
    intro k' a hu _
    have e : a.abv = te := of_decide_eq_true hu
    rw [stop k' a e, stop 0 a e]
  | succ k ih =>
    intro k' a hu hk
    by_cases e : a.abv = te
    · rw [stop k' a e, stop (k + 1) a e]
    · obtain ⟨k', rfl⟩ : ∃ m, k' = m + 1 := ⟨k' - 1, by omega⟩
      rw [upT, if_neg e] at hu
      rw [lnF, lnF]
      cases hf : fndT l a.abv with
      | none => rfl
      | some b =>
        rw [hf] at hu
        simp only at hu ⊢
        split at hu
        · rw [ih k' b hu (by omega)]
        · cases hu
theorem okT_up {l : List Ty} (h : okT l = true) {a : Ty} (ha : a ∈ l) : upT l (l.length + 1) a = true := by
  have := okT_one h ha
  unfold oneT at this
  rw [Bool.and_eq_true] at this
  exact this.2
theorem line_of {l : List Ty} (h : okT l = true) {a : Ty} (ha : a ∈ l) : lineT l a.nam = lnF l (l.length + 1) a := by
  unfold lineT findT
  rw [if_pos h, fnd_of h ha]
/-- P20.4, but that no name is there twice. -/
theorem line_all {l : List Ty} (h : okT l = true) : ∀ (k : Nat) (a : Ty), a ∈ l → upT l k a = true → k ≤ l.length + 1 → ∀ i, i < (lnF l k a).length → ∃ b ∈ l, b.nam = (lnF l k a).getD i te ∧ b.syn = a.syn ∧ lineT l b.nam = (lnF l k a).drop i := by
  intro k
  induction k with
  | zero =>
    intro a ha hu hk i hi
    have e : i = 0 := by simp [lnF] at hi; omega
    subst e
    exact ⟨a, ha, rfl, rfl, by rw [line_of h ha, up_line h 0 _ a hu (by omega), List.drop_zero]⟩
  | succ k ih =>
    intro a ha hu hk i hi
    cases i with
    | zero => exact ⟨a, ha, by simp [lnF], rfl, by rw [line_of h ha, up_line h (k + 1) _ a hu hk, List.drop_zero]⟩
    | succ i =>
      have hu' := hu
      rw [lnF] at hi ⊢
      cases hf : fndT l a.abv with
      | none => rw [hf] at hi; simp at hi
      | some b =>
        rw [hf] at hi
        simp only [List.length_cons] at hi ⊢
        obtain ⟨hb, eb⟩ := fnd_in hf
        have e : ¬ a.abv = te := fun q => by rw [q, fnd_empty h] at hf; cases hf
        rw [upT, if_neg e, hf] at hu
        simp only at hu
        split at hu
        · rename_i hs
          obtain ⟨c, c1, c2, c3, c4⟩ := ih b hb hu (by omega) i (by omega)
          exact ⟨c, c1, by simpa using c2, by rw [c3, hs], by simpa using c4⟩
        · cases hu
theorem find_line {l : List Ty} (n : ByteArray) : (findT l n).isSome = decide (0 < (lineT l n).length) := by
  unfold lineT
  cases hf : findT l n with
  | none => rfl
  | some a =>
    simp only [Option.isSome_some]
    cases l.length + 1 <;> simp [lnF]
theorem find_some {l : List Ty} {n : ByteArray} {a : Ty} (h : findT l n = some a) : okT l = true ∧ a ∈ l ∧ a.nam = n := by
  unfold findT at h
  split at h
  · exact ⟨by assumption, fnd_in h⟩
  · cases h
theorem line_head {l : List Ty} {n : ByteArray} {a : Ty} (h : findT l n = some a) : (lineT l n).getD 0 te = n := by
  obtain ⟨_, _, e⟩ := find_some h
  unfold lineT
  rw [h]
  simp [lnF, e]
/-- P20.4. -/
theorem lines20 {l : List Ty} {n : ByteArray} {a : Ty} (h : findT l n = some a) (i : Nat) (hi : i < (lineT l n).length) : ∃ b, findT l ((lineT l n).getD i te) = some b ∧ b.syn = a.syn ∧ lineT l ((lineT l n).getD i te) = (lineT l n).drop i := by
  obtain ⟨hk, ha, e⟩ := find_some h
  have el : lineT l n = lnF l (l.length + 1) a := by rw [← e, line_of hk ha]
  rw [el] at hi ⊢
  obtain ⟨b, b1, b2, b3, b4⟩ := line_all hk _ a ha (okT_up hk ha) (Nat.le_refl _) i hi
  rw [← b2]
  refine ⟨b, ?_, b3, b4⟩
  unfold findT
  rw [if_pos hk, fnd_of hk b1]
theorem lines20_apart {l : List Ty} {n : ByteArray} {a : Ty} (h : findT l n = some a) (i k : Nat) (hi : i < (lineT l n).length) (hk : k < i) : (lineT l n).getD k te ≠ (lineT l n).getD i te := fun e => by
  obtain ⟨_, _, _, h1⟩ := lines20 h i hi
  obtain ⟨_, _, _, h2⟩ := lines20 h k (by omega)
  rw [e, h1] at h2
  have := congrArg List.length h2
  rw [List.length_drop, List.length_drop] at this
  omega
/-- P20.5. -/
theorem bel_mem {l : List Ty} {a : ByteArray} {ns : List ByteArray} : a ∈ belT l ns ↔ ∃ n ∈ ns, isT l a n = true := by
  unfold belT
  rw [List.mem_map]
  constructor
  · rintro ⟨x, hx, rfl⟩
    rw [List.mem_filter, List.any_eq_true] at hx
    exact hx.2
  · rintro ⟨n, hn, hi⟩
    have hs : (findT l a).isSome = true := by
      rw [find_line, decide_eq_true_eq]
      unfold isT at hi
      cases hl : lineT l a with
      | nil => rw [hl] at hi; simp at hi
      | cons _ _ => simp
    obtain ⟨x, hx⟩ := Option.isSome_iff_exists.1 hs
    obtain ⟨_, hm, e⟩ := find_some hx
    exact ⟨x, by rw [List.mem_filter, List.any_eq_true]; exact ⟨hm, n, hn, by rw [e]; exact hi⟩, e⟩
theorem bel_some {l : List Ty} (b : ByteArray) : (findT l b).isSome = decide (0 < (belT l [b]).length) := by
  cases hf : findT l b with
  | some x =>
    have hi : isT l b b = true := by
      unfold isT
      rw [List.any_eq_true]
      have := line_head hf
      have hl := find_line (l := l) b
      rw [hf] at hl
      have h0 := of_decide_eq_true hl.symm
      have hm : (lineT l b).getD 0 te ∈ lineT l b := by simp [List.getD, h0]
      rw [this] at hm
      exact ⟨b, hm, by simp⟩
    have := (bel_mem (l := l) (a := b) (ns := [b])).2 ⟨b, by simp, hi⟩
    simp only [Option.isSome_some]
    exact (decide_eq_true (List.length_pos_of_mem this)).symm
  | none =>
    simp only [Option.isSome_none]
    refine (decide_eq_false fun h0 => ?_).symm
    obtain ⟨a, ha⟩ := List.exists_mem_of_length_pos h0
    obtain ⟨n, hn, hi⟩ := bel_mem.1 ha
    have en : n = b := by simpa using hn
    subst en
    unfold isT at hi
    rw [List.any_eq_true] at hi
    obtain ⟨x, hx, ex⟩ := hi
    have ex : x = n := by simpa using ex
    subst ex
    obtain ⟨i, h1, h2⟩ := List.getElem_of_mem hx
    cases hg : findT l a with
    | none =>
      have := find_line (l := l) a
      rw [hg] at this
      have := of_decide_eq_false this.symm
      omega
    | some y =>
      obtain ⟨c, hc, _⟩ := lines20 hg i h1
      have e3 : (lineT l a).getD i te = x := by simp [List.getD, h1, h2]
      rw [e3, hf] at hc
      cases hc
theorem bel_rise {l : List Ty} (ns : List ByteArray) (i : Nat) (hi : i + 1 < (belT l ns).length) : lsT ((belT l ns).getD i te) ((belT l ns).getD (i + 1) te) = true := by
  have hk : okT l = true := by
    cases hq : okT l
    · have : belT l ns = [] := by
        unfold belT isT lineT findT
        rw [hq]
        simp
      rw [this] at hi
      simp at hi
    · rfl
  have hp : (l.map (·.nam)).Pairwise fun a b => lsT a b = true := by
    rw [List.pairwise_iff_getElem]
    intro i j hi hj hij
    have := okT_rise hk (j - i - 1) i (by simp at hj; omega)
    rw [show i + (j - i - 1) + 1 = j by omega] at this
    simp at hi hj
    simpa [List.getD, hi, hj] using this
  have hs : (belT l ns).Sublist (l.map (·.nam)) := List.Sublist.map _ List.filter_sublist
  have := List.pairwise_iff_getElem.1 (hp.sublist hs) i (i + 1) (by omega) hi (by omega)
  simpa [List.getD, hi, show i < (belT l ns).length by omega] using this
end Go.Proofs.Ytjjildpdelkejaa
/- Attribute types in memory. -/
namespace Go.Proofs.Ytjjildpdelkejaa
open Go.RowKit

/-- The six cells of a type. -/
def CellsT (w : World) (b o : Nat) (t : Ty) : Prop :=
  w.cell? ⟨b, o, none⟩ = some (.string t.nam) ∧ w.cell? ⟨b, o + 1, none⟩ = some (.string t.abv) ∧ w.cell? ⟨b, o + 2, none⟩ = some (.int .i64 t.syn) ∧ w.cell? ⟨b, o + 3, none⟩ = some (.int .i64 t.rul) ∧ w.cell? ⟨b, o + 4, none⟩ = some (.bool t.sgl) ∧ w.cell? ⟨b, o + 5, none⟩ = some (.bool t.cls)
theorem CellsT.below {w w2 : World} {b o : Nat} {t : Ty} (h : CellsT w b o t) (hb : Below w.heap.size w w2) : CellsT w2 b o t := by
  obtain ⟨h0, h1, h2, h3, h4, h5⟩ := h
  exact ⟨(hb.cell (cell_lt h0)).trans h0, (hb.cell (cell_lt h1)).trans h1, (hb.cell (cell_lt h2)).trans h2, (hb.cell (cell_lt h3)).trans h3, (hb.cell (cell_lt h4)).trans h4, (hb.cell (cell_lt h5)).trans h5⟩
/-- A slice that holds the types l. -/
def TysV (w : World) (v : Value) (l : List Ty) : Prop :=
  ∃ a cap, v = .slice a l.length cap ∧ (l.length ≤ cap ∧ l.length ≤ 9223372036854775807) ∧ (0 < l.length → ∃ b off, a = some ⟨b, off, none⟩ ∧ ∀ j, j < l.length → CellsT w b (off + j * 6) (l.getD j ty0))
theorem TysV.below {w w2 : World} {v : Value} {l : List Ty} (h : TysV w v l) (hb : Below w.heap.size w w2) : TysV w2 v l := by
  obtain ⟨a, cap, rfl, hn, hc⟩ := h
  refine ⟨a, cap, rfl, hn, fun i => ?_⟩
  obtain ⟨b, off, rfl, hcc⟩ := hc i
  exact ⟨b, off, rfl, fun j hj => (hcc j hj).below hb⟩
theorem TysV.shape {w : World} {v : Value} {l : List Ty} (h : TysV w v l) : ∃ a c, v = .slice a l.length c := by
  obtain ⟨a, c, h, _⟩ := h
  exact ⟨a, c, h⟩
/-- A box of a type. -/
def cellsOfT (a : Ty) : Array Value := #[.string a.nam, .string a.abv, .int .i64 a.syn, .int .i64 a.rul, .bool a.sgl, .bool a.cls]
def aggT (a : Ty) : Value := .agg (cellsOfT a)
def Bt (b : Nat) (a : Ty) (w : World) : Prop := w.heap[b]? = some (.cells #[.string a.nam, .string a.abv, .int .i64 a.syn, .int .i64 a.rul, .bool a.sgl, .bool a.cls] 65)
theorem bt_lt {w : World} {b : Nat} {o : Obj} (h : w.heap[b]? = some o) : b < w.heap.size := (Array.getElem?_eq_some_iff.1 h).1
theorem Bt.keep {b : Nat} {a : Ty} {w w2 : World} (h : Bt b a w) (hb : Below w.heap.size w w2) : Bt b a w2 := (hb.block _ (bt_lt h)).trans h
theorem Bt.free {b : Nat} {a : Ty} {w : World} (h : Bt b a w) (o : Nat) : w.frozen? ⟨b, o, none⟩ = false := by
  unfold World.frozen?
  rw [show w.heap[(⟨b, o, none⟩ : Addr).block]? = w.heap[b]? from rfl, h]
  simp
theorem Bt.cells {b : Nat} {a : Ty} {w : World} (h : Bt b a w) : CellsT w b 0 a := by
  have hc : ∀ o, w.cell? ⟨b, o, none⟩ = (#[Value.string a.nam, .string a.abv, .int .i64 a.syn, .int .i64 a.rul, .bool a.sgl, .bool a.cls] : Array Value)[o]? := fun o => by
    unfold World.cell?
    rw [show w.heap[(⟨b, o, none⟩ : Addr).block]? = w.heap[b]? from rfl, h]
    rfl
  exact ⟨hc 0, hc 1, hc 2, hc 3, hc 4, hc 5⟩
/-- A box that is written over. -/
def putT (w : World) (b : Nat) (a : Ty) : World := (((((w.setCell ⟨b, 0, none⟩ (.string a.nam)).setCell ⟨b, 1, none⟩ (.string a.abv)).setCell ⟨b, 2, none⟩ (.int .i64 a.syn)).setCell ⟨b, 3, none⟩ (.int .i64 a.rul)).setCell ⟨b, 4, none⟩ (.bool a.sgl)).setCell ⟨b, 5, none⟩ (.bool a.cls)
theorem Bt.put {b : Nat} {x : Ty} {w : World} (h : Bt b x w) (a : Ty) : Bt b a (putT w b a) := by
  unfold Bt putT at *
  have h1 := heap_setCell_same w b 0 _ _ (.string a.nam) h
  have h2 := heap_setCell_same _ b 1 _ _ (.string a.abv) h1
  have h3 := heap_setCell_same _ b 2 _ _ (.int .i64 a.syn) h2
  have h4 := heap_setCell_same _ b 3 _ _ (.int .i64 a.rul) h3
  have h5 := heap_setCell_same _ b 4 _ _ (.bool a.sgl) h4
  have h6 := heap_setCell_same _ b 5 _ _ (.bool a.cls) h5
  rw [h6]
  rfl
theorem put_below {B b : Nat} {w w2 : World} (h : Below B w w2) (hb : B ≤ b) (a : Ty) : Below B w (putT w2 b a) :=
  (((((h.setCell hb _).setCell hb _).setCell hb _).setCell hb _).setCell hb _).setCell hb _
/-- The place of a name. -/
def ixF (n : ByteArray) : List Ty → Nat → Int
  | [], _ => -1
  | x :: t, k => if x.nam = n then (k : Int) else ixF n t (k + 1)
def ixT (l : List Ty) (n : ByteArray) : Int := ixF n l 0
theorem drop_consT (l : List Ty) (i : Nat) (h : i < l.length) : l.drop i = l.getD i ty0 :: l.drop (i + 1) := by
  rw [List.drop_eq_getElem_cons h]
  simp [List.getD, h]
theorem ixF_fnd (n : ByteArray) : ∀ (l : List Ty) (k : Nat), (fndT l n = none ∧ ixF n l k = -1) ∨ ∃ j : Nat, j < l.length ∧ ixF n l k = ((k + j : Nat) : Int) ∧ fndT l n = some (l.getD j ty0)
  | [], k => .inl ⟨rfl, rfl⟩
  | x :: t, k => by
    unfold fndT ixF
    by_cases h : x.nam = n
    · right
      refine ⟨0, by simp, by rw [if_pos h]; simp, ?_⟩
      rw [List.find?_cons_of_pos (by simpa using h)]
      rfl
    · rw [List.find?_cons_of_neg (by simpa using h), if_neg h]
      rcases ixF_fnd n t (k + 1) with ⟨h1, h2⟩ | ⟨j, h1, h2, h3⟩
      · exact .inl ⟨h1, h2⟩
      · refine .inr ⟨j + 1, by simp; omega, by rw [h2]; omega, ?_⟩
        have := h3
        unfold fndT at this
        rw [this]
        simp
theorem ixT_fnd (l : List Ty) (n : ByteArray) : (fndT l n = none ∧ ixT l n = -1) ∨ ∃ j : Nat, j < l.length ∧ ixT l n = (j : Int) ∧ fndT l n = some (l.getD j ty0) := by
  rcases ixF_fnd n l 0 with h | ⟨j, h1, h2, h3⟩
  · exact .inl h
  · exact .inr ⟨j, h1, by unfold ixT; rw [h2]; simp, h3⟩
theorem txt_beq (a b : ByteArray) : (a.toList == b.toList) = decide (a = b) := by
  rw [Lib.toList_data, Lib.toList_data]
  by_cases h : a = b
  · rw [decide_eq_true h, h]; simp
  · rw [decide_eq_false h, beq_eq_false_iff_ne]
    intro e
    apply h
    cases a with | mk x => cases b with | mk y =>
    simp only at e
    rw [Array.toList_inj.1 e]
end Go.Proofs.Ytjjildpdelkejaa
/- Names in memory: slices of pairs, slices of parts. -/
namespace Go.Proofs.Ytjjildpdelkejaa
open Go.RowKit

/-- A slice that holds the pairs l. -/
def PsV (w : World) (v : Value) (l : List Pr) : Prop :=
  ∃ a cap, v = .slice a l.length cap ∧ l.length ≤ 9223372036854775807 ∧ (0 < l.length → ∃ b off, a = some ⟨b, off, none⟩ ∧ ∀ j, j < l.length →
    w.cell? ⟨b, off + j * 2, none⟩ = some (.string (l.getD j pr0).nam) ∧ w.cell? ⟨b, off + j * 2 + 1, none⟩ = some (.string (l.getD j pr0).val))
theorem PsV.below {w w2 : World} {v : Value} {l : List Pr} (h : PsV w v l) (hb : Below w.heap.size w w2) : PsV w2 v l := by
  obtain ⟨a, cap, rfl, hn, hc⟩ := h
  refine ⟨a, cap, rfl, hn, fun i => ?_⟩
  obtain ⟨b, off, rfl, hcc⟩ := hc i
  refine ⟨b, off, rfl, fun j hj => ?_⟩
  obtain ⟨h1, h2⟩ := hcc j hj
  exact ⟨(hb.cell (p := ⟨b, off + j * 2, none⟩) (cell_lt h1)).trans h1, (hb.cell (p := ⟨b, off + j * 2 + 1, none⟩) (cell_lt h2)).trans h2⟩
theorem PsV.nil (w : World) (a : Option Addr) (c : Nat) : PsV w (.slice a 0 c) [] := ⟨a, c, rfl, by simp, fun h => absurd h (Nat.lt_irrefl _)⟩
theorem PsV.shape {w : World} {v : Value} {l : List Pr} (h : PsV w v l) : ∃ a c, v = .slice a l.length c := by
  obtain ⟨a, c, h, _⟩ := h
  exact ⟨a, c, h⟩
/-- A slice that holds the parts n. -/
def NmV (w : World) (v : Value) (n : List (List Pr)) : Prop :=
  ∃ a cap, v = .slice a n.length cap ∧ n.length ≤ cap ∧ n.length ≤ 9223372036854775807 ∧ (0 < n.length → ∃ b off, a = some ⟨b, off, none⟩ ∧ ∀ j, j < n.length → ∃ rv, w.cell? ⟨b, off + j, none⟩ = some rv ∧ PsV w rv (n.getD j []))
theorem NmV.below {w w2 : World} {v : Value} {n : List (List Pr)} (h : NmV w v n) (hb : Below w.heap.size w w2) : NmV w2 v n := by
  obtain ⟨a, cap, rfl, hn, hm, hc⟩ := h
  refine ⟨a, cap, rfl, hn, hm, fun i => ?_⟩
  obtain ⟨b, off, rfl, hcc⟩ := hc i
  refine ⟨b, off, rfl, fun j hj => ?_⟩
  obtain ⟨rv, h1, h2⟩ := hcc j hj
  exact ⟨rv, (hb.cell (p := ⟨b, off + j, none⟩) (cell_lt h1)).trans h1, h2.below hb⟩
theorem NmV.nil (w : World) (a : Option Addr) (c : Nat) : NmV w (.slice a 0 c) [] := ⟨a, c, rfl, Nat.zero_le _, by simp, fun h => absurd h (Nat.lt_irrefl _)⟩
theorem NmV.shape {w : World} {v : Value} {n : List (List Pr)} (h : NmV w v n) : ∃ a c, v = .slice a n.length c := by
  obtain ⟨a, c, h, _⟩ := h
  exact ⟨a, c, h⟩
theorem getD_memR (n : List (List Pr)) (k : Nat) (h : k < n.length) : n.getD k [] ∈ n := by simp [List.getD, h]
theorem getD_memP (n : List Pr) (k : Nat) (h : k < n.length) : n.getD k pr0 ∈ n := by simp [List.getD, h]
theorem drop_consR (l : List (List Pr)) (i : Nat) (h : i < l.length) : l.drop i = l.getD i [] :: l.drop (i + 1) := by
  rw [List.drop_eq_getElem_cons h]
  simp [List.getD, h]
theorem drop_consP (l : List Pr) (i : Nat) (h : i < l.length) : l.drop i = l.getD i pr0 :: l.drop (i + 1) := by
  rw [List.drop_eq_getElem_cons h]
  simp [List.getD, h]
theorem drop_consI (l : List Int) (i : Nat) (h : i < l.length) : l.drop i = l.getD i 0 :: l.drop (i + 1) := by
  rw [List.drop_eq_getElem_cons h]
  simp [List.getD, h]
/-- All in a list are so, told place by place. -/
theorem all_of {α : Type} (p : α → Bool) (d : α) (l : List α) (h : ∀ k, k < l.length → p (l.getD k d) = true) : l.all p = true := by
  rw [List.all_eq_true]
  intro x hx
  obtain ⟨k, hk, rfl⟩ := List.getElem_of_mem hx
  have := h k hk
  simpa [List.getD, hk] using this
theorem all_at {α : Type} {p : α → Bool} {d : α} {l : List α} (h : l.all p = true) (k : Nat) (hk : k < l.length) : p (l.getD k d) = true := by
  rw [List.all_eq_true] at h
  exact h _ (by simp [List.getD, hk])
theorem chk_yes {n : List (List Pr)} (h : okN n = true) : chkN n = 0 := by unfold chkN; rw [if_pos h]
theorem chk_no {n : List (List Pr)} (h : okN n = false) : chkN n = 220 := by unfold chkN; rw [h]; rfl
end Go.Proofs.Ytjjildpdelkejaa
