/- Attribute types, plainly: what the document says of layer 20; P20.4, P20.5. -/
import Derived.Test.YtoaoplfbnjajiaaMath18
namespace Go.Proofs.Ytoaoplfbnjajiaa
open Go.RowKit

/-- A type: its name, the name above, its syntax and rule, and two marks. -/
structure Ty where
  nam : ByteArray
  abv : ByteArray
  syn : Int
  rul : Int
  sgl : Bool
  cls : Bool
/-- The empty text; the type that is none. -/
def te : ByteArray := ⟨#[]⟩
def ty0 : Ty := ⟨te, te, 0, 0, false, false⟩
/-- Is a text ahead of another one? -/
def lsT (a b : ByteArray) : Bool := Op.bytesLess a.toList b.toList
theorem ls_irr : ∀ x : List UInt8, Op.bytesLess x x = false
  | [] => rfl
  | a :: t => by simp [Op.bytesLess, ls_irr t]
theorem ls_tr : ∀ x y z : List UInt8, Op.bytesLess x y = true → Op.bytesLess y z = true → Op.bytesLess x z = true
  | x, [], _, h1, _ => by cases x <;> simp [Op.bytesLess] at h1
  | _, _ :: _, [], _, h2 => by simp [Op.bytesLess] at h2
  | [], _ :: _, _ :: _, _, _ => by simp [Op.bytesLess]
  | a :: x, b :: y, c :: z, h1, h2 => by
    simp only [Op.bytesLess] at h1 h2 ⊢
    by_cases hab : a = b
    · subst hab
      by_cases hac : a = c
      · subst hac
        simp at h1 h2 ⊢
        exact ls_tr x y z h1 h2
      · simp [hac] at h2 ⊢
        exact h2
    · by_cases hbc : b = c
      · subst hbc
        simp [hab] at h1 ⊢
        exact h1
      · simp [hab] at h1
        simp [hbc] at h2
        have h3 : a < c := UInt8.lt_trans h1 h2
        simp [h3]
/-- The rules of a syntax; is a rule one of them? -/
def rulL (s : Int) : List Int := if s = 1 ∨ s = 2 then [0, 1, 2] else if s = 10 then [0, 10, 11] else if 3 ≤ s ∧ s ≤ 9 then [0, s] else []
def fitR (s r : Int) : Bool := if s < 1 ∨ 10 < s then false else if s = 1 ∨ s = 2 then decide (0 ≤ r ∧ r ≤ 2) else if s = 10 then decide (r = 0 ∨ r = 10 ∨ r = 11) else decide (r = 0 ∨ r = s)
/-- The type of a name. -/
def fndT (l : List Ty) (n : ByteArray) : Option Ty := l.find? fun x => decide (x.nam = n)
/-- Does a line end? -/
def upT (l : List Ty) : Nat → Ty → Bool
  | 0, a => decide (a.abv = te)
  | k + 1, a => if a.abv = te then true else match fndT l a.abv with
    | none => false
    | some b => if b.syn = a.syn then upT l k b else false
def oneT (l : List Ty) (a : Ty) : Bool := fitR a.syn a.rul && wrdB (nums a.nam) && upT l (l.length + 1) a
def okAt20 (l : List Ty) (n : Nat) : Bool := oneT l (l.getD n ty0) && (decide (n = 0) || lsT (l.getD (n - 1) ty0).nam (l.getD n ty0).nam)
def okTo20 (l : List Ty) : Nat → Bool
  | 0 => true
  | n + 1 => okTo20 l n && okAt20 l n
/-- May types be? -/
def okT (l : List Ty) : Bool := decide (l.length ≤ 24) && okTo20 l l.length
def chkT (l : List Ty) : Int := if okT l then 0 else 190
def findT (l : List Ty) (n : ByteArray) : Option Ty := if okT l then fndT l n else none
/-- A line. -/
def lnF (l : List Ty) : Nat → Ty → List ByteArray
  | 0, a => [a.nam]
  | k + 1, a => a.nam :: match fndT l a.abv with
    | none => []
    | some b => lnF l k b
def lineT (l : List Ty) (n : ByteArray) : List ByteArray := match findT l n with
  | none => []
  | some a => lnF l (l.length + 1) a
def isT (l : List Ty) (n a : ByteArray) : Bool := (lineT l n).any fun x => decide (x = a)
def belT (l : List Ty) (ns : List ByteArray) : List ByteArray := (l.filter fun x => ns.any fun n => isT l x.nam n).map (·.nam)

theorem okTo20_at {l : List Ty} {n k : Nat} (h : okTo20 l n = true) (hk : k < n) : okAt20 l k = true := by
  induction n with
  | zero => omega
  | succ n ih =>
    simp only [okTo20, Bool.and_eq_true] at h
    rcases Nat.lt_or_ge k n with h1 | h1
    · exact ih h.1 h1
    · obtain rfl : k = n := by omega
      exact h.2
theorem okTo20_bad {l : List Ty} {n k : Nat} (hk : k < n) (h : okAt20 l k = false) : okTo20 l n = false := by
  cases hq : okTo20 l n
  · rfl
  · rw [okTo20_at hq hk] at h; cases h
theorem okT_at {l : List Ty} (h : okT l = true) {k : Nat} (hk : k < l.length) : okAt20 l k = true := by
  unfold okT at h
  rw [Bool.and_eq_true] at h
  exact okTo20_at h.2 hk
theorem okT_one {l : List Ty} (h : okT l = true) {a : Ty} (ha : a ∈ l) : oneT l a = true := by
  obtain ⟨k, hk, rfl⟩ := List.getElem_of_mem ha
  have := okT_at h hk
  unfold okAt20 at this
  rw [Bool.and_eq_true] at this
  simpa [List.getD, hk] using this.1
/-- Names rise. -/
theorem okT_rise {l : List Ty} (h : okT l = true) : ∀ (d i : Nat), i + d + 1 < l.length → lsT (l.getD i ty0).nam (l.getD (i + d + 1) ty0).nam = true := by
  have one : ∀ i, i + 1 < l.length → lsT (l.getD i ty0).nam (l.getD (i + 1) ty0).nam = true := fun i hi => by
    have := okT_at h hi
    unfold okAt20 at this
    rw [Bool.and_eq_true, Bool.or_eq_true] at this
    rcases this.2 with q | q
    · simp at q
    · simpa using q
  intro d
  induction d with
  | zero => exact fun i hi => one i hi
  | succ d ih =>
    intro i hi
    exact ls_tr _ _ _ (ih i (by omega)) (one (i + d + 1) (by omega))
theorem okT_inj {l : List Ty} (h : okT l = true) {i j : Nat} (hi : i < l.length) (hj : j < l.length) (e : (l.getD i ty0).nam = (l.getD j ty0).nam) : i = j := by
  apply Classical.byContradiction
  intro hn
  rcases Nat.lt_or_ge i j with q | q
  · have := okT_rise h (j - i - 1) i (by omega)
    rw [show i + (j - i - 1) + 1 = j by omega, e] at this
    unfold lsT at this
    rw [ls_irr] at this
    cases this
  · have := okT_rise h (i - j - 1) j (by omega)
    rw [show j + (i - j - 1) + 1 = i by omega, e] at this
    unfold lsT at this
    rw [ls_irr] at this
    cases this
theorem fnd_in {l : List Ty} {n : ByteArray} {a : Ty} (h : fndT l n = some a) : a ∈ l ∧ a.nam = n := by
  unfold fndT at h
  exact ⟨List.mem_of_find?_eq_some h, by simpa using List.find?_some h⟩
theorem fnd_of {l : List Ty} (h : okT l = true) {a : Ty} (ha : a ∈ l) : fndT l a.nam = some a := by
  cases hf : fndT l a.nam with
  | none =>
    unfold fndT at hf
    rw [List.find?_eq_none] at hf
    exact absurd (decide_eq_true rfl) (hf a ha)
  | some b =>
    obtain ⟨hb, e⟩ := fnd_in hf
    obtain ⟨i, hi, rfl⟩ := List.getElem_of_mem ha
    obtain ⟨j, hj, rfl⟩ := List.getElem_of_mem hb
    have := okT_inj h hj hi (by simpa [List.getD, hi, hj] using e)
    subst this
    rfl
theorem fnd_empty {l : List Ty} (h : okT l = true) : fndT l te = none := by
  cases hf : fndT l te with
  | none => rfl
  | some b =>
    obtain ⟨hb, e⟩ := fnd_in hf
    have := okT_one h hb
    unfold oneT at this
    rw [e] at this
    have hw : wrdB (nums te) = false := by kernel_rfl
    rw [hw] at this
    simp at this
theorem up_line {l : List Ty} (h : okT l = true) : ∀ (k k' : Nat) (a : Ty), upT l k a = true → k ≤ k' → lnF l k' a = lnF l k a := by
  have stop : ∀ (k : Nat) (a : Ty), a.abv = te → lnF l k a = [a.nam] := fun k a e => by
    cases k with
    | zero => rfl
    | succ k => rw [lnF, e, fnd_empty h]
  intro k
  induction k with
  | zero =>
    intro k' a hu _
    have e : a.abv = te := of_decide_eq_true hu
    rw [stop k' a e, stop 0 a e]
  | succ k ih =>
    intro k' a hu hk
    by_cases e : a.abv = te
    · rw [stop k' a e, stop (k + 1) a e]
    · obtain ⟨k', rfl⟩ : ∃ m, k' = m + 1 := ⟨k' - 1, by omega⟩
      rw [upT, if_neg e] at hu
      rw [lnF, lnF]
      cases hf : fndT l a.abv with
      | none => rfl
      | some b =>
        rw [hf] at hu
        simp only at hu ⊢
        split at hu
        · rw [ih k' b hu (by omega)]
        · cases hu
theorem okT_up {l : List Ty} (h : okT l = true) {a : Ty} (ha : a ∈ l) : upT l (l.length + 1) a = true := by
  have := okT_one h ha
  unfold oneT at this
  rw [Bool.and_eq_true] at this
  exact this.2
theorem line_of {l : List Ty} (h : okT l = true) {a : Ty} (ha : a ∈ l) : lineT l a.nam = lnF l (l.length + 1) a := by
  unfold lineT findT
  rw [if_pos h, fnd_of h ha]
/-- P20.4, but that no name is there twice. -/
theorem line_all {l : List Ty} (h : okT l = true) : ∀ (k : Nat) (a : Ty), a ∈ l → upT l k a = true → k ≤ l.length + 1 → ∀ i, i < (lnF l k a).length → ∃ b ∈ l, b.nam = (lnF l k a).getD i te ∧ b.syn = a.syn ∧ lineT l b.nam = (lnF l k a).drop i := by
  intro k
  induction k with
  | zero =>
    intro a ha hu hk i hi
    have e : i = 0 := by simp [lnF] at hi; omega
    subst e
    exact ⟨a, ha, rfl, rfl, by rw [line_of h ha, up_line h 0 _ a hu (by omega), List.drop_zero]⟩
  | succ k ih =>
    intro a ha hu hk i hi
    cases i with
    | zero => exact ⟨a, ha, by simp [lnF], rfl, by rw [line_of h ha, up_line h (k + 1) _ a hu hk, List.drop_zero]⟩
    | succ i =>
      have hu' := hu
      rw [lnF] at hi ⊢
      cases hf : fndT l a.abv with
      | none => rw [hf] at hi; simp at hi
      | some b =>
        rw [hf] at hi
        simp only [List.length_cons] at hi ⊢
        obtain ⟨hb, eb⟩ := fnd_in hf
        have e : ¬ a.abv = te := fun q => by rw [q, fnd_empty h] at hf; cases hf
        rw [upT, if_neg e, hf] at hu
        simp only at hu
        split at hu
        · rename_i hs
          obtain ⟨c, c1, c2, c3, c4⟩ := ih b hb hu (by omega) i (by omega)
          exact ⟨c, c1, by simpa using c2, by rw [c3, hs], by simpa using c4⟩
        · cases hu
theorem find_line {l : List Ty} (n : ByteArray) : (findT l n).isSome = decide (0 < (lineT l n).length) := by
  unfold lineT
  cases hf : findT l n with
  | none => rfl
  | some a =>
    simp only [Option.isSome_some]
    cases l.length + 1 <;> simp [lnF]
theorem find_some {l : List Ty} {n : ByteArray} {a : Ty} (h : findT l n = some a) : okT l = true ∧ a ∈ l ∧ a.nam = n := by
  unfold findT at h
  split at h
  · exact ⟨by assumption, fnd_in h⟩
  · cases h
theorem line_head {l : List Ty} {n : ByteArray} {a : Ty} (h : findT l n = some a) : (lineT l n).getD 0 te = n := by
  obtain ⟨_, _, e⟩ := find_some h
  unfold lineT
  rw [h]
  simp [lnF, e]
/-- P20.4. -/
theorem lines20 {l : List Ty} {n : ByteArray} {a : Ty} (h : findT l n = some a) (i : Nat) (hi : i < (lineT l n).length) : ∃ b, findT l ((lineT l n).getD i te) = some b ∧ b.syn = a.syn ∧ lineT l ((lineT l n).getD i te) = (lineT l n).drop i := by
  obtain ⟨hk, ha, e⟩ := find_some h
  have el : lineT l n = lnF l (l.length + 1) a := by rw [← e, line_of hk ha]
  rw [el] at hi ⊢
  obtain ⟨b, b1, b2, b3, b4⟩ := line_all hk _ a ha (okT_up hk ha) (Nat.le_refl _) i hi
  rw [← b2]
  refine ⟨b, ?_, b3, b4⟩
  unfold findT
  rw [if_pos hk, fnd_of hk b1]
theorem lines20_apart {l : List Ty} {n : ByteArray} {a : Ty} (h : findT l n = some a) (i k : Nat) (hi : i < (lineT l n).length) (hk : k < i) : (lineT l n).getD k te ≠ (lineT l n).getD i te := fun e => by
  obtain ⟨_, _, _, h1⟩ := lines20 h i hi
  obtain ⟨_, _, _, h2⟩ := lines20 h k (by omega)
  rw [e, h1] at h2
  have := congrArg List.length h2
  rw [List.length_drop, List.length_drop] at this
  omega
/-- P20.5. -/
theorem bel_mem {l : List Ty} {a : ByteArray} {ns : List ByteArray} : a ∈ belT l ns ↔ ∃ n ∈ ns, isT l a n = true := by
  unfold belT
  rw [List.mem_map]
  constructor
  · rintro ⟨x, hx, rfl⟩
    rw [List.mem_filter, List.any_eq_true] at hx
    exact hx.2
  · rintro ⟨n, hn, hi⟩
    have hs : (findT l a).isSome = true := by
      rw [find_line, decide_eq_true_eq]
      unfold isT at hi
      cases hl : lineT l a with
      | nil => rw [hl] at hi; simp at hi
      | cons _ _ => simp
    obtain ⟨x, hx⟩ := Option.isSome_iff_exists.1 hs
    obtain ⟨_, hm, e⟩ := find_some hx
    exact ⟨x, by rw [List.mem_filter, List.any_eq_true]; exact ⟨hm, n, hn, by rw [e]; exact hi⟩, e⟩
theorem bel_some {l : List Ty} (b : ByteArray) : (findT l b).isSome = decide (0 < (belT l [b]).length) := by
  cases hf : findT l b with
  | some x =>
    have hi : isT l b b = true := by
      unfold isT
      rw [List.any_eq_true]
      have := line_head hf
      have hl := find_line (l := l) b
      rw [hf] at hl
      have h0 := of_decide_eq_true hl.symm
      have hm : (lineT l b).getD 0 te ∈ lineT l b := by simp [List.getD, h0]
      rw [this] at hm
      exact ⟨b, hm, by simp⟩
    have := (bel_mem (l := l) (a := b) (ns := [b])).2 ⟨b, by simp, hi⟩
    simp only [Option.isSome_some]
    exact (decide_eq_true (List.length_pos_of_mem this)).symm
  | none =>
    simp only [Option.isSome_none]
    refine (decide_eq_false fun h0 => ?_).symm
    obtain ⟨a, ha⟩ := List.exists_mem_of_length_pos h0
    obtain ⟨n, hn, hi⟩ := bel_mem.1 ha
    have en : n = b := by simpa using hn
    subst en
    unfold isT at hi
    rw [List.any_eq_true] at hi
    obtain ⟨x, hx, ex⟩ := hi
    have ex : x = n := by simpa using ex
    subst ex
    obtain ⟨i, h1, h2⟩ := List.getElem_of_mem hx
    cases hg : findT l a with
    | none =>
      have := find_line (l := l) a
      rw [hg] at this
      have := of_decide_eq_false this.symm
      omega
    | some y =>
      obtain ⟨c, hc, _⟩ := lines20 hg i h1
      have e3 : (lineT l a).getD i te = x := by simp [List.getD, h1, h2]
      rw [e3, hf] at hc
      cases hc
theorem bel_rise {l : List Ty} (ns : List ByteArray) (i : Nat) (hi : i + 1 < (belT l ns).length) : lsT ((belT l ns).getD i te) ((belT l ns).getD (i + 1) te) = true := by
  have hk : okT l = true := by
    cases hq : okT l
    · have : belT l ns = [] := by
        unfold belT isT lineT findT
        rw [hq]
        simp
      rw [this] at hi
      simp at hi
    · rfl
  have hp : (l.map (·.nam)).Pairwise fun a b => lsT a b = true := by
    rw [List.pairwise_iff_getElem]
    intro i j hi hj hij
    have := okT_rise hk (j - i - 1) i (by simp at hj; omega)
    rw [show i + (j - i - 1) + 1 = j by omega] at this
    simp at hi hj
    simpa [List.getD, hi, hj] using this
  have hs : (belT l ns).Sublist (l.map (·.nam)) := List.Sublist.map _ List.filter_sublist
  have := List.pairwise_iff_getElem.1 (hp.sublist hs) i (i + 1) (by omega) hi (by omega)
  simpa [List.getD, hi, show i < (belT l ns).length by omega] using this
end Go.Proofs.Ytoaoplfbnjajiaa
