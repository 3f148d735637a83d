/- Pieces, plainly: whether texts stand in another one behind the other (P13.5, P13.6). -/
import Derived.Lib.Index
import Derived.Lib.Strings
namespace Go.Proofs.YtddliikhjilngaaGreatDoor
set_option maxRecDepth 100000

/-- Do the texts stand in l, one behind the other? As it is looked for. -/
def btw : List UInt8 → List (List UInt8) → Bool
  | _, [] => true
  | l, s :: ss => if Lib.index l s < 0 then false else btw (l.drop ((Lib.index l s).toNat + s.length)) ss
/-- The same, as it is meant. -/
def Emb : List UInt8 → List (List UInt8) → Prop
  | _, [] => True
  | l, s :: ss => ∃ a r, l = a ++ (s ++ r) ∧ Emb r ss

/-- The first place. -/
theorem index_spec (s : List UInt8) : ∀ l : List UInt8, (Lib.index l s = -1 ∧ ∀ a r, l ≠ a ++ (s ++ r)) ∨
    ∃ i : Nat, Lib.index l s = (i : Int) ∧ (∃ r, l.drop i = s ++ r) ∧ i + s.length ≤ l.length ∧ ∀ a r, l = a ++ (s ++ r) → i ≤ a.length
  | [] => by
    cases s with
    | nil => exact .inr ⟨0, rfl, ⟨[], rfl⟩, Nat.le_refl _, fun a r _ => Nat.zero_le _⟩
    | cons x t =>
      refine .inl ⟨rfl, fun a r h => ?_⟩
      have := congrArg List.length h
      simp at this
  | b :: l => by
    unfold Lib.index
    by_cases hp : s.isPrefixOf (b :: l) = true
    · rw [if_pos hp]
      obtain ⟨r, hr⟩ := List.isPrefixOf_iff_prefix.1 hp
      exact .inr ⟨0, rfl, ⟨r, by rw [List.drop_zero, hr]⟩, by rw [← hr]; simp, fun a r _ => Nat.zero_le _⟩
    · rw [if_neg hp]
      have hne : ∀ a r, b :: l = a ++ (s ++ r) → ∃ a', a = b :: a' ∧ l = a' ++ (s ++ r) := by
        intro a r h
        cases a with
        | nil => exact absurd (List.isPrefixOf_iff_prefix.2 ⟨r, h.symm⟩) hp
        | cons c a' =>
          rw [List.cons_append] at h
          obtain ⟨hb, hl⟩ := List.cons.inj h
          exact ⟨a', by rw [hb], hl⟩
      rcases index_spec s l with ⟨h1, h2⟩ | ⟨i, h1, ⟨r, hr⟩, h3, h4⟩
      · rw [h1]
        refine .inl ⟨rfl, fun a r h => ?_⟩
        obtain ⟨a', _, hl⟩ := hne a r h
        exact h2 a' r hl
      · rw [h1]
        have h5 : (((i : Int)) == -1) = false := by rw [beq_eq_false_iff_ne]; omega
        refine .inr ⟨i + 1, by rw [h5]; simp, ⟨r, by simpa using hr⟩, by simp; omega, fun a r h => ?_⟩
        obtain ⟨a', ha, hl⟩ := hne a r h
        have := h4 a' r hl
        rw [ha]; simp; omega

theorem emb_more {r : List UInt8} : ∀ {ss : List (List UInt8)} (x : List UInt8), Emb r ss → Emb (x ++ r) ss
  | [], _, _ => trivial
  | s :: ss, x, h => by
    obtain ⟨a, q, rfl, h⟩ := h
    exact ⟨x ++ a, q, by simp, h⟩
theorem emb_drop {l : List UInt8} {ss : List (List UInt8)} (n : Nat) (h : Emb (l.drop n) ss) : Emb l ss := by
  have := emb_more (l.take n) h
  rwa [List.take_append_drop] at this
theorem btw_iff : ∀ (ss : List (List UInt8)) (l : List UInt8), btw l ss = true ↔ Emb l ss
  | [], _ => by simp [btw, Emb]
  | s :: ss, l => by
    unfold btw Emb
    rcases index_spec s l with ⟨h1, h2⟩ | ⟨i, h1, ⟨r, hr⟩, h3, h4⟩
    · rw [h1]
      rw [if_pos (by decide)]
      constructor
      · intro h; cases h
      · rintro ⟨a, r, h, _⟩; exact absurd h (h2 a r)
    · rw [h1]
      have h5 : ¬ (i : Int) < 0 := by omega
      rw [if_neg h5, btw_iff ss, Int.toNat_natCast]
      have e : l.drop (i + s.length) = r := by rw [← List.drop_drop, hr]; simp
      constructor
      · intro h
        rw [e] at h
        exact ⟨l.take i, r, by rw [← hr, List.take_append_drop], h⟩
      · rintro ⟨a, q, ha, hq⟩
        have hle := h4 a q ha
        have e2 : q = (l.drop (i + s.length)).drop (a.length - i) := by
          rw [List.drop_drop, show i + s.length + (a.length - i) = a.length + s.length by omega, ha, ← List.drop_drop]
          simp
        rw [e2] at hq
        exact emb_drop _ hq
theorem emb_less : ∀ (xs : List (List UInt8)) (s : List UInt8) (ys : List (List UInt8)) (l : List UInt8), Emb l (xs ++ s :: ys) → Emb l (xs ++ ys)
  | [], s, ys, l, ⟨a, r, h, k⟩ => by
    rw [h, ← List.append_assoc]
    exact emb_more _ k
  | x :: xs, s, ys, l, ⟨a, r, h, k⟩ => ⟨a, r, h, emb_less xs s ys r k⟩
theorem btw_less (xs : List (List UInt8)) (s : List UInt8) (ys : List (List UInt8)) (l : List UInt8) (h : btw l (xs ++ s :: ys) = true) : btw l (xs ++ ys) = true :=
  (btw_iff _ _).2 (emb_less xs s ys l ((btw_iff _ _).1 h))

/-- May pieces be asked: a beginning and an end, whether they are asked, and how many stand between. -/
def fmd (a b : List UInt8) (n : Nat) (hi hf : Bool) : Bool := (hi || a.isEmpty) && (hf || b.isEmpty) && (hi || hf || decide (0 < n)) && decide (n ≤ 6)
/-- What is left behind the beginning, and ahead of the end. -/
def mid (V a b : List UInt8) : List UInt8 := (V.drop a.length).take ((V.drop a.length).length - b.length)
/-- Are pieces found? -/
def mat (V a b : List UInt8) (ss : List (List UInt8)) (hi hf : Bool) : Bool :=
  fmd a b ss.length hi hf && (Lib.hasPrefix V a && (Lib.hasSuffix (V.drop a.length) b && btw (mid V a b) ss))
theorem mat_less {V a b : List UInt8} {xs : List (List UInt8)} {s : List UInt8} {ys : List (List UInt8)} {hi hf : Bool} (h : mat V a b (xs ++ s :: ys) hi hf = true) (hq : fmd a b (xs ++ ys).length hi hf = true) :
    mat V a b (xs ++ ys) hi hf = true := by
  unfold mat at h ⊢
  simp only [Bool.and_eq_true] at h ⊢
  exact ⟨hq, h.2.1, h.2.2.1, btw_less _ _ _ _ h.2.2.2⟩
/-- P13.6. -/
def endsB (V a b : List UInt8) : Bool := decide (a.length ≤ V.length) && (decide (b.length ≤ V.length - a.length) && (V.take a.length == a && V.drop (V.length - b.length) == b))
theorem mat_ends (V a b : List UInt8) : mat V a b [] true true = endsB V a b := by
  have e : mat V a b [] true true = (Lib.hasPrefix V a && Lib.hasSuffix (V.drop a.length) b) := by simp [mat, fmd, btw]
  rw [e]
  unfold endsB Lib.hasPrefix Lib.hasSuffix
  rw [Bool.eq_iff_iff]
  simp only [Bool.and_eq_true, decide_eq_true_eq, beq_iff_eq, List.isPrefixOf_iff_prefix, List.isSuffixOf_iff_suffix]
  constructor
  · rintro ⟨h1, h2⟩
    have l1 := h1.length_le
    have l2 := h2.length_le
    rw [List.length_drop] at l2
    refine ⟨l1, l2, (List.prefix_iff_eq_take.1 h1).symm, ?_⟩
    have := List.suffix_iff_eq_drop.1 h2
    rw [List.length_drop, List.drop_drop, show a.length + (V.length - a.length - b.length) = V.length - b.length by omega] at this
    exact this.symm
  · rintro ⟨l1, l2, h1, h2⟩
    refine ⟨List.prefix_iff_eq_take.2 h1.symm, List.suffix_iff_eq_drop.2 ?_⟩
    rw [List.length_drop, List.drop_drop, show a.length + (V.length - a.length - b.length) = V.length - b.length by omega]
    exact h2.symm
theorem mat_both (a b : List UInt8) : mat (a ++ b) a b [] true true = true := by
  simp [mat, fmd, btw, Lib.hasPrefix, Lib.hasSuffix]

/-- P13.5: the cuts of a text. -/
def cutp (V : List UInt8) (i j : Nat) : List UInt8 := (V.drop i).take (j - i)
theorem cutp_len {V : List UInt8} {i j : Nat} (h : j ≤ V.length) : (cutp V i j).length = j - i := by
  unfold cutp; rw [List.length_take, List.length_drop]; omega
theorem cutp_in {V : List UInt8} {a i j b : Nat} (h1 : a ≤ i) (h2 : i ≤ j) (h3 : j ≤ b) : cutp V a b = cutp V a i ++ (cutp V i j ++ cutp V j b) := by
  have cut : ∀ {p q r : Nat}, p ≤ q → q ≤ r → cutp V p r = cutp V p q ++ cutp V q r := by
    intro p q r hpq hqr
    unfold cutp
    rw [show r - p = (q - p) + (r - q) by omega, List.take_add, List.drop_drop, show p + (q - p) = q by omega]
  rw [cut (Nat.le_trans h1 h2) h3, cut h1 h2, List.append_assoc]
theorem cutp_pre {V : List UInt8} {k : Nat} : Lib.hasPrefix V (cutp V 0 k) = true := by
  unfold Lib.hasPrefix cutp
  rw [List.isPrefixOf_iff_prefix, List.drop_zero, Nat.sub_zero]
  exact List.take_prefix _ _
theorem cutp_suf {V : List UInt8} {a k : Nat} (h : a ≤ k) : Lib.hasSuffix (V.drop a) (cutp V k V.length) = true := by
  unfold Lib.hasSuffix cutp
  rw [List.isSuffixOf_iff_suffix, List.take_of_length_le (by rw [List.length_drop]; omega)]
  have : V.drop k = (V.drop a).drop (k - a) := by rw [List.drop_drop, show a + (k - a) = k by omega]
  rw [this]
  exact List.drop_suffix _ _
/-- The middle of a text whose beginning and end are cut off. -/
theorem mid_cutp {V A B : List UInt8} {a b : Nat} (ha : A.length = a) (hb : B.length = V.length - b) (hab : a ≤ b) (hl : b ≤ V.length) : mid V A B = cutp V a b := by
  unfold mid cutp
  rw [ha, hb, List.length_drop, show V.length - a - (V.length - b) = b - a by omega]
theorem emb_none (l : List UInt8) : Emb l [] := trivial
theorem emb_one {V : List UInt8} {a i j b : Nat} (h1 : a ≤ i) (h2 : i ≤ j) (h3 : j ≤ b) : Emb (cutp V a b) [cutp V i j] := ⟨_, _, cutp_in h1 h2 h3, trivial⟩
theorem emb_two {V : List UInt8} {a i j m n b : Nat} (h1 : a ≤ i) (h2 : i ≤ j) (h3 : j ≤ m) (h4 : m ≤ n) (h5 : n ≤ b) : Emb (cutp V a b) [cutp V i j, cutp V m n] :=
  ⟨_, _, cutp_in h1 h2 (by omega), _, _, cutp_in h3 h4 h5, trivial⟩
end Go.Proofs.YtddliikhjilngaaGreatDoor
