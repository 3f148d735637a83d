/- Texts, as lists of numbers. -/
import Derived.Test.YthbldkkjjjmegaaGreatDoorM03
import Derived.Shelf.RegionOpen
import Derived.Deep.RegionHeld3
namespace Go.Proofs.YthbldkkjjjmegaaGreatDoor
set_option maxRecDepth 100000
open Go.RowKit

/-- A text's bytes, as numbers. -/
def nums (t : ByteArray) : List Int := t.data.toList.map fun b => (b.toNat : Int)
theorem nums_length (t : ByteArray) : (nums t).length = t.size := by simp [nums]
theorem nums_bound (t : ByteArray) : ∀ x ∈ nums t, 0 ≤ x ∧ x < 256 := by
  intro x hx
  simp only [nums, List.mem_map] at hx
  obtain ⟨b, _, rfl⟩ := hx
  have := b.toNat_lt
  omega
theorem nums_at (t : ByteArray) (k : Nat) (h : k < t.size) : (nums t).getD k 0 = (t[k].toNat : Int) := by
  have h' : k < t.data.toList.length := by simpa using h
  simp [nums, List.getD, h]
  rfl
theorem strOfNums_nums (t : ByteArray) : strOfNums (nums t) = t := by
  apply ByteArray.ext
  apply Array.toList_inj.1
  rw [strOfNums_data]
  unfold nums
  rw [List.map_map]
  conv => rhs; rw [← List.map_id t.data.toList]
  apply List.map_congr_left
  intro x _
  simp
theorem nums_strOfNums (xs : List Int) (h : ∀ x ∈ xs, 0 ≤ x ∧ x < 256) : nums (strOfNums xs) = xs := by
  unfold nums
  rw [strOfNums_data, List.map_map]
  conv => rhs; rw [← List.map_id xs]
  apply List.map_congr_left
  intro x hx
  have := h x hx
  simp
  omega
theorem strOfNums_app (a b : List Int) : strOfNums a ++ strOfNums b = strOfNums (a ++ b) := by
  unfold strOfNums
  rw [ByteArray.mk_append_mk, List.map_append]
theorem str_same (xs : List Int) (h : ∀ x ∈ xs, 0 ≤ x ∧ x < 256) (t : ByteArray) : ((strOfNums xs).toList == t.toList) = decide (xs = nums t) := by
  rw [Bool.eq_iff_iff]
  simp
  constructor
  · intro e
    have e' : strOfNums xs = t := by
      apply ByteArray.ext
      apply Array.toList_inj.1
      rw [← ByteArray.toList_eq, ← ByteArray.toList_eq]
      exact e
    rw [← e', nums_strOfNums _ h]
  · intro e
    rw [e, strOfNums_nums]
theorem ret_str {a b : ByteArray} (h : a = b) : Ending.returned (.string a) = .returned (.string b) := by rw [h]
theorem ret_se {a b : ByteArray} {c d : Int} (h : a = b) (h' : c = d) : Ending.returned (.tuple #[.string a, .int .i64 c]) = .returned (.tuple #[.string b, .int .i64 d]) := by rw [h, h']
/-- One byte as a text. -/
theorem conv_one {W : World} {b : Nat} {z : Int} (h : W.cell? ⟨b, 0, none⟩ = some (.int .u8 z)) :
    (convert 44 9 (.slice (some ⟨b, 0, none⟩) 1 1)).run Tryz.prog W = .ok (.string (strOfNums [z])) W := by
  refine run_convert_bytes_arg W 44 5 Tryz.underlying44 Tryz.underlying5 b 0 1 1 [z] rfl ?_ 9 Tryz.underlying9
  intro i hi
  have : i = 0 := by omega
  subst this
  simpa using h
theorem conv_new1 (w : World) (z : Int) : (convert 44 9 (.slice (some ⟨w.heap.size, 0, none⟩) 1 1)).run Tryz.prog (w.alloc (.cells #[.int .u8 z] 5)) = .ok (.string (strOfNums [z])) (w.alloc (.cells #[.int .u8 z] 5)) :=
  conv_one (box1 w _ _)
end Go.Proofs.YthbldkkjjjmegaaGreatDoor
/- Names and their texts, plainly: what may be, how it is written, how it is read; P18.5, P18.6. -/
namespace Go.Proofs.YthbldkkjjjmegaaGreatDoor
set_option maxRecDepth 100000
open Go.RowKit

/-- A pair: its name, its value. -/
structure Pr where
  nam : ByteArray
  val : ByteArray
/-- The pair that is none. -/
def pr0 : Pr := ⟨ByteArray.empty, ByteArray.empty⟩
def lowB (c : Int) : Bool := decide (97 ≤ c ∧ c ≤ 122)
def digB (c : Int) : Bool := decide (48 ≤ c ∧ c ≤ 57)
def wrdC (c : Int) : Bool := lowB c || (digB c || decide (c = 45))
/-- Is a text a word? -/
def wrdB (l : List Int) : Bool := decide (1 ≤ l.length ∧ l.length ≤ 16) && (lowB (l.getD 0 0) && l.all wrdC)
/-- May a pair, a part, a name be? -/
def okP (p : Pr) : Bool := wrdB (nums p.nam) && decide (1 ≤ p.val.size ∧ p.val.size ≤ 400)
def okR (r : List Pr) : Bool := decide (1 ≤ r.length ∧ r.length ≤ 3) && r.all okP
def okN (n : List (List Pr)) : Bool := decide (n.length ≤ 6) && n.all okR
def chkN (n : List (List Pr)) : Int := if okN n = true then 0 else 220
/-- The bytes that have a slash ahead wherever they stand. -/
def sgn (c : Int) : Bool := decide (c = 44 ∨ c = 43 ∨ c = 34 ∨ c = 92 ∨ c = 60 ∨ c = 62 ∨ c = 59 ∨ c = 61)
def esc (c : Int) : Bool := sgn c || decide (c = 32 ∨ c = 35)
def hexD (n : Int) : Int := if n < 10 then 48 + n else 87 + n
def unh (c : Int) : Int := if 48 ≤ c ∧ c ≤ 57 then c - 48 else if 97 ≤ c ∧ c ≤ 102 then c - 87 else if 65 ≤ c ∧ c ≤ 70 then c - 55 else 16
/-- The text of one byte of a value, which stands first, or last. -/
def escB (f la : Bool) (c : Int) : List Int :=
  if c < 32 ∨ c = 127 then [92, hexD (c / 16), hexD (c % 16)] else if (sgn c || (decide (c = 32) && (f || la) || (decide (c = 35) && f))) = true then [92, c] else [c]
/-- The text of a value, of a pair, of a part, of a name. -/
def shV (f : Bool) : List Int → List Int
  | [] => []
  | c :: t => escB f t.isEmpty c ++ shV false t
def shP (p : Pr) : List Int := nums p.nam ++ (61 :: shV true (nums p.val))
def shR (f : Bool) : List Pr → List Int
  | [] => []
  | p :: t => (if f then [] else [43]) ++ (shP p ++ shR false t)
def shN (f : Bool) : List (List Pr) → List Int
  | [] => []
  | r :: t => (if f then [] else [44]) ++ (shR true r ++ shN false t)
/-- What Show answers. -/
def shS (n : List (List Pr)) : ByteArray := if okN n = true then strOfNums (shN true n) else strOfNums []

/-- What a value's text says, and the rest: nothing, or what begins with a comma or a plus. f: it stands first; b: a bare space was read last. -/
def valL (f b : Bool) : List Int → Option (List Int × List Int)
  | [] => if b then none else some ([], [])
  | c :: t =>
    if c = 44 ∨ c = 43 then (if b then none else some ([], c :: t))
    else if c = 92 then
      match t with
      | [] => none
      | d :: u =>
        if esc d = true then (valL false false u).map fun x => (d :: x.1, x.2)
        else
          match u with
          | [] => none
          | e :: r => if unh d < 16 ∧ unh e < 16 then (valL false false r).map fun x => ((16 * unh d + unh e) :: x.1, x.2) else none
    else if sgn c = true ∨ (f = true ∧ (c = 32 ∨ c = 35)) then none
    else (valL false (decide (c = 32)) t).map fun x => (c :: x.1, x.2)
/-- A text, cut at the first = (which is left out). -/
def cutE : List Int → List Int × List Int
  | [] => ([], [])
  | c :: t => if c = 61 then ([], t) else (c :: (cutE t).1, (cutE t).2)
def smlC (c : Int) : Int := if 65 ≤ c ∧ c ≤ 90 then c + 32 else c
/-- The pair that a text begins with, and the rest. -/
def pairL (l : List Int) : Option (Pr × List Int) := (valL true false (cutE l).2).map fun x => (⟨strOfNums ((cutE l).1.map smlC), strOfNums x.1⟩, x.2)
/-- The parts of a text, behind parts n and pairs r. -/
def partsL : Nat → List (List Pr) → List Pr → List Int → Option (List (List Pr))
  | 0, _, _, _ => none
  | k + 1, n, r, l =>
    match pairL l with
    | none => none
    | some (p, []) => some (n ++ [r ++ [p]])
    | some (p, c :: t) => if c = 43 then partsL k n (r ++ [p]) t else partsL k (n ++ [r ++ [p]]) [] t
def parR (l : List Int) : Option (List (List Pr)) :=
  match partsL (l.length + 1) [] [] l with
  | none => none
  | some n => if okN n = true then some n else none
/-- The name of a text, and the error. -/
def parN (l : List Int) : List (List Pr) := if 3000 < l.length then [] else if l.length = 0 then [] else (parR l).getD []
def parE (l : List Int) : Int := if 3000 < l.length then 3 else if l.length = 0 then 0 else if (parR l).isSome = true then 0 else 220

theorem val_nil (f b : Bool) : valL f b [] = if b then none else some ([], []) := by rw [valL.eq_def]
theorem val_sep (f b : Bool) {c : Int} (t : List Int) (h : c = 44 ∨ c = 43) : valL f b (c :: t) = if b then none else some ([], c :: t) := by
  rw [valL.eq_def]
  simp only
  rw [if_pos h]
theorem val_esc (f b : Bool) {d : Int} (u : List Int) (h : esc d = true) : valL f b (92 :: d :: u) = (valL false false u).map fun x => (d :: x.1, x.2) := by
  rw [valL.eq_def]
  simp only
  rw [if_neg (by decide), if_pos trivial, if_pos h]
theorem val_hex (f b : Bool) {d : Int} (e : Int) (r : List Int) (h : esc d = false) : valL f b (92 :: d :: e :: r) = if unh d < 16 ∧ unh e < 16 then (valL false false r).map fun x => ((16 * unh d + unh e) :: x.1, x.2) else none := by
  rw [valL.eq_def]
  simp only
  rw [if_neg (by decide), if_pos trivial, if_neg (by rw [h]; decide)]
theorem val_one (f b : Bool) : valL f b [92] = none := by
  rw [valL.eq_def]
  simp only
  rw [if_neg (by decide), if_pos trivial]
theorem val_two (f b : Bool) {d : Int} (h : esc d = false) : valL f b [92, d] = none := by
  rw [valL.eq_def]
  simp only
  rw [if_neg (by decide), if_pos trivial, if_neg (by rw [h]; decide)]
theorem val_bare (f b : Bool) {c : Int} (t : List Int) (h1 : ¬ (c = 44 ∨ c = 43)) (h2 : ¬ c = 92) : valL f b (c :: t) = if sgn c = true ∨ (f = true ∧ (c = 32 ∨ c = 35)) then none else (valL false (decide (c = 32)) t).map fun x => (c :: x.1, x.2) := by
  rw [valL.eq_def]
  simp only
  rw [if_neg h1, if_neg h2]
theorem unh_hex (n : Int) (h0 : 0 ≤ n) (h1 : n < 16) : unh (hexD n) = n := by
  unfold unh hexD
  by_cases h : n < 10
  · rw [if_pos h, if_pos (by omega)]; omega
  · rw [if_neg h, if_neg (by omega), if_pos (by omega)]; omega
theorem hex_plain (n : Int) (h0 : 0 ≤ n) (h1 : n < 16) : esc (hexD n) = false := by
  unfold esc sgn hexD
  by_cases h : n < 10
  · rw [if_pos h]
    simp
    omega
  · rw [if_neg h]
    simp
    omega
/-- A value's text is read as it was written. -/
theorem val_back (X : List Int) (hX : X = [] ∨ ∃ c t, X = c :: t ∧ (c = 44 ∨ c = 43)) : ∀ (l : List Int) (f b : Bool), (∀ x ∈ l, 0 ≤ x ∧ x < 256) → (l = [] → b = false) → valL f b (shV f l ++ X) = some (l, X)
  | [], f, b, _, hb => by
    rw [hb rfl]
    rcases hX with rfl | ⟨c, t, rfl, hc⟩
    · exact val_nil f false
    · exact val_sep f false t hc
  | c :: t, f, b, hl, _ => by
    have hc := hl c (by simp)
    have ht : ∀ x ∈ t, 0 ≤ x ∧ x < 256 := fun x hx => hl x (by simp [hx])
    rw [shV]
    unfold escB
    by_cases h1 : c < 32 ∨ c = 127
    · rw [if_pos h1]
      simp only [List.cons_append, List.nil_append]
      rw [val_hex f b _ _ (hex_plain _ (by omega) (by omega)), unh_hex _ (by omega) (by omega), unh_hex _ (by omega) (by omega), val_back X hX t false false ht (fun _ => rfl), if_pos (by omega)]
      simp
      omega
    · rw [if_neg h1]
      by_cases h2 : (sgn c || (decide (c = 32) && (f || t.isEmpty) || (decide (c = 35) && f))) = true
      · rw [if_pos h2]
        have he : esc c = true := by
          unfold esc
          simp only [Bool.or_eq_true, Bool.and_eq_true, decide_eq_true_eq] at h2 ⊢
          rcases h2 with h | ⟨h, _⟩ | ⟨h, _⟩
          · exact .inl h
          · exact .inr (.inl h)
          · exact .inr (.inr h)
        simp only [List.cons_append, List.nil_append]
        rw [val_esc f b _ he, val_back X hX t false false ht (fun _ => rfl)]
        rfl
      · rw [if_neg h2]
        have h3 : sgn c = false := by
          cases h : sgn c
          · rfl
          · rw [h] at h2; simp at h2
        have h4 : ¬ (c = 44 ∨ c = 43) ∧ ¬ c = 92 := by
          unfold sgn at h3
          simp at h3
          omega
        rw [h3] at h2
        simp only [Bool.false_or, Bool.or_eq_true, Bool.and_eq_true, decide_eq_true_eq, not_or, not_and] at h2
        simp only [List.cons_append, List.nil_append]
        rw [val_bare f b _ h4.1 h4.2, h3, if_neg, val_back X hX t false _ ht]
        · rfl
        · intro e
          subst e
          have := h2.1
          simp at this ⊢
          omega
        · intro h
          rcases h with h | ⟨hf, h | h⟩
          · simp at h
          · exact (h2.1 h).1 hf
          · exact h2.2 h hf
theorem cutE_word (Y : List Int) : ∀ (l : List Int), (∀ x ∈ l, x ≠ 61) → cutE (l ++ 61 :: Y) = (l, Y)
  | [], _ => by simp [cutE]
  | c :: t, h => by
    have := cutE_word Y t (fun x hx => h x (by simp [hx]))
    have hc := h c (by simp)
    simp only [List.cons_append, cutE]
    rw [if_neg hc, this]
theorem wrdC_in {c : Int} (h : wrdC c = true) : (97 ≤ c ∧ c ≤ 122) ∨ (48 ≤ c ∧ c ≤ 57) ∨ c = 45 := by
  unfold wrdC lowB digB at h
  simpa using h
theorem wrd_all {l : List Int} (h : wrdB l = true) : ∀ x ∈ l, wrdC x = true := by
  unfold wrdB at h
  simp only [Bool.and_eq_true, List.all_eq_true] at h
  exact h.2.2
theorem wrd_len {l : List Int} (h : wrdB l = true) : 1 ≤ l.length ∧ l.length ≤ 16 := by
  unfold wrdB at h
  simp only [Bool.and_eq_true, decide_eq_true_eq] at h
  exact h.1
theorem okP_parts {p : Pr} (h : okP p = true) : wrdB (nums p.nam) = true ∧ 1 ≤ p.val.size ∧ p.val.size ≤ 400 := by
  unfold okP at h
  simpa using h
theorem sml_word {l : List Int} (h : ∀ x ∈ l, wrdC x = true) : l.map smlC = l := by
  conv => rhs; rw [← List.map_id l]
  apply List.map_congr_left
  intro x hx
  have := wrdC_in (h x hx)
  unfold smlC
  rw [if_neg (by omega)]
  rfl
theorem pair_back (p : Pr) (hp : okP p = true) (X : List Int) (hX : X = [] ∨ ∃ c t, X = c :: t ∧ (c = 44 ∨ c = 43)) : pairL (shP p ++ X) = some (p, X) := by
  obtain ⟨hw, hv, _⟩ := okP_parts hp
  have ha := wrd_all hw
  have e : cutE (shP p ++ X) = (nums p.nam, shV true (nums p.val) ++ X) := by
    unfold shP
    rw [List.append_assoc, List.cons_append]
    exact cutE_word _ _ fun x hx => by have := wrdC_in (ha x hx); omega
  unfold pairL
  rw [e]
  simp only
  rw [val_back X hX _ true false (nums_bound _) (fun _ => rfl), sml_word ha]
  simp only [Option.map_some, strOfNums_nums]
theorem shR_plus (p : Pr) (t : List Pr) : shR false (p :: t) = 43 :: shR true (p :: t) := rfl
theorem shN_comma (r : List Pr) (t : List (List Pr)) : shN false (r :: t) = 44 :: (shR true r ++ shN false t) := rfl
theorem parts_back : ∀ (k : Nat) (ps : List Pr) (ns n : List (List Pr)) (r : List Pr), ps ≠ [] → (∀ p ∈ ps, okP p = true) → (∀ q ∈ ns, q ≠ [] ∧ ∀ p ∈ q, okP p = true) → (shR true ps ++ shN false ns).length < k →
    partsL k n r (shR true ps ++ shN false ns) = some (n ++ [r ++ ps] ++ ns)
  | 0, _, _, _, _, _, _, _, h => absurd h (Nat.not_lt_zero _)
  | k + 1, [], _, _, _, h, _, _, _ => absurd rfl h
  | k + 1, p :: pt, ns, n, r, _, hp, hn, hk => by
    have hX : (shR false pt ++ shN false ns) = [] ∨ ∃ c t, (shR false pt ++ shN false ns) = c :: t ∧ (c = 44 ∨ c = 43) := by
      cases pt with
      | cons q t => exact .inr ⟨_, _, by rw [shR_plus]; rfl, .inr rfl⟩
      | nil =>
        cases ns with
        | nil => exact .inl rfl
        | cons q t => exact .inr ⟨_, _, by rw [shN_comma]; rfl, .inl rfl⟩
    have e : shR true (p :: pt) ++ shN false ns = shP p ++ (shR false pt ++ shN false ns) := by simp [shR]
    rw [e] at hk ⊢
    have hpb := pair_back p (hp p (by simp)) _ hX
    have h1 : 1 ≤ (shP p).length := by unfold shP; simp; omega
    rw [List.length_append] at hk
    rw [partsL, hpb]
    cases pt with
    | cons q t =>
      rw [shR_plus] at hk ⊢
      simp only [List.cons_append] at hk ⊢
      rw [if_pos trivial, parts_back k (q :: t) ns n (r ++ [p]) (by simp) (fun x hx => hp x (by simp at hx ⊢; exact .inr hx)) hn (by simp at hk ⊢; omega)]
      simp
    | nil =>
      cases ns with
      | nil => simp [shR, shN]
      | cons q t =>
        obtain ⟨q1, q2⟩ := hn q (by simp)
        rw [show shR false [] ++ shN false (q :: t) = 44 :: (shR true q ++ shN false t) from rfl] at hk ⊢
        simp only
        rw [if_neg (by decide), parts_back k q t (n ++ [r ++ [p]]) [] q1 q2 (fun x hx => hn x (by simp [hx])) (by simp at hk ⊢; omega)]
        simp
theorem okN_parts {n : List (List Pr)} (h : okN n = true) : n.length ≤ 6 ∧ ∀ r ∈ n, okR r = true := by
  unfold okN at h
  simpa using h
theorem okR_parts {r : List Pr} (h : okR r = true) : (1 ≤ r.length ∧ r.length ≤ 3) ∧ ∀ p ∈ r, okP p = true := by
  unfold okR at h
  simpa using h
theorem okR_ne {r : List Pr} (h : okR r = true) : r ≠ [] := fun e => by
  have := (okR_parts h).1
  rw [e] at this
  simp at this
theorem shN_ne {n : List (List Pr)} (h : okN n = true) (hn : n ≠ []) : (shN true n).length ≠ 0 := by
  cases n with
  | nil => exact absurd rfl hn
  | cons r t =>
    have hr := (okN_parts h).2 r (by simp)
    cases r with
    | nil => exact absurd rfl (okR_ne hr)
    | cons p u => simp [shN, shR, shP]
/-- P18.5: a name that may be is read as it was written. -/
theorem par_back {n : List (List Pr)} (h : okN n = true) (hl : (shN true n).length ≤ 3000) : parN (shN true n) = n ∧ parE (shN true n) = 0 := by
  cases n with
  | nil => exact ⟨rfl, rfl⟩
  | cons r t =>
    have h0 := shN_ne h (by simp)
    have hp := (okN_parts h).2
    have e : parR (shN true (r :: t)) = some (r :: t) := by
      unfold parR
      have e2 : shN true (r :: t) = shR true r ++ shN false t := rfl
      rw [e2, parts_back _ r t [] [] (okR_ne (hp r (by simp))) (okR_parts (hp r (by simp))).2 (fun q hq => ⟨okR_ne (hp q (by simp [hq])), (okR_parts (hp q (by simp [hq]))).2⟩) (by omega)]
      simp only [List.nil_append, List.singleton_append]
      rw [if_pos h]
    unfold parN parE
    rw [if_neg (by omega), if_neg h0, if_neg (by omega), if_neg h0, e]
    exact ⟨rfl, rfl⟩
theorem par_long {l : List Int} (h : 3000 < l.length) : parN l = [] ∧ parE l = 3 := by
  unfold parN parE
  rw [if_pos h, if_pos h]
  exact ⟨rfl, rfl⟩
theorem par_empty : parN [] = [] ∧ parE [] = 0 := ⟨rfl, rfl⟩
theorem par_yes {l : List Int} {n : List (List Pr)} (h1 : ¬ 3000 < l.length) (h2 : l.length ≠ 0) (h : parR l = some n) : parN l = n ∧ parE l = 0 := by
  unfold parN parE
  rw [if_neg h1, if_neg h1, if_neg h2, if_neg h2, h]
  exact ⟨rfl, rfl⟩
theorem par_no {l : List Int} (h1 : ¬ 3000 < l.length) (h2 : l.length ≠ 0) (h : parR l = none) : parN l = [] ∧ parE l = 220 := by
  unfold parN parE
  rw [if_neg h1, if_neg h1, if_neg h2, if_neg h2, h]
  exact ⟨rfl, rfl⟩
theorem parR_some {l : List Int} {n : List (List Pr)} (h : partsL (l.length + 1) [] [] l = some n) : parR l = if okN n = true then some n else none := by
  unfold parR
  rw [h]
theorem parR_none {l : List Int} (h : partsL (l.length + 1) [] [] l = none) : parR l = none := by
  unfold parR
  rw [h]
theorem parR_ok {l : List Int} {n : List (List Pr)} (h : parR l = some n) : okN n = true := by
  unfold parR at h
  split at h
  · cases h
  · split at h
    · rename_i hk
      cases h
      exact hk
    · cases h
/-- What is read may be; where there is an error nothing is told. -/
theorem par_ok (l : List Int) : okN (parN l) = true := by
  unfold parN
  split
  · rfl
  · split
    · rfl
    · cases h : parR l with
      | none => rfl
      | some n => exact parR_ok h
theorem par_err {l : List Int} (h : parE l ≠ 0) : parN l = [] := by
  unfold parN parE at *
  split at h
  · rw [if_pos (by assumption)]
  · rw [if_neg (by assumption)]
    split at h
    · exact absurd rfl h
    · rw [if_neg (by assumption)]
      cases hp : parR l with
      | none => rfl
      | some n => rw [hp] at h; exact absurd rfl h
theorem parE_in (l : List Int) : parE l = 0 ∨ parE l = 3 ∨ parE l = 220 := by
  unfold parE
  repeat' split
  all_goals simp
end Go.Proofs.YthbldkkjjjmegaaGreatDoor
/- Names in memory: slices of pairs, slices of parts. -/
namespace Go.Proofs.YthbldkkjjjmegaaGreatDoor
set_option maxRecDepth 100000
open Go.RowKit

/-- A slice that holds the pairs l. -/
def PsV (w : World) (v : Value) (l : List Pr) : Prop :=
  ∃ a cap, v = .slice a l.length cap ∧ l.length ≤ 9223372036854775807 ∧ (0 < l.length → ∃ b off, a = some ⟨b, off, none⟩ ∧ ∀ j, j < l.length →
    w.cell? ⟨b, off + j * 2, none⟩ = some (.string (l.getD j pr0).nam) ∧ w.cell? ⟨b, off + j * 2 + 1, none⟩ = some (.string (l.getD j pr0).val))
theorem PsV.below {w w2 : World} {v : Value} {l : List Pr} (h : PsV w v l) (hb : Below w.heap.size w w2) : PsV w2 v l := by
  obtain ⟨a, cap, rfl, hn, hc⟩ := h
  refine ⟨a, cap, rfl, hn, fun i => ?_⟩
  obtain ⟨b, off, rfl, hcc⟩ := hc i
  refine ⟨b, off, rfl, fun j hj => ?_⟩
  obtain ⟨h1, h2⟩ := hcc j hj
  exact ⟨(hb.cell (p := ⟨b, off + j * 2, none⟩) (cell_lt h1)).trans h1, (hb.cell (p := ⟨b, off + j * 2 + 1, none⟩) (cell_lt h2)).trans h2⟩
theorem PsV.nil (w : World) (a : Option Addr) (c : Nat) : PsV w (.slice a 0 c) [] := ⟨a, c, rfl, by simp, fun h => absurd h (Nat.lt_irrefl _)⟩
theorem PsV.shape {w : World} {v : Value} {l : List Pr} (h : PsV w v l) : ∃ a c, v = .slice a l.length c := by
  obtain ⟨a, c, h, _⟩ := h
  exact ⟨a, c, h⟩
/-- A slice that holds the parts n. -/
def NmV (w : World) (v : Value) (n : List (List Pr)) : Prop :=
  ∃ a cap, v = .slice a n.length cap ∧ n.length ≤ cap ∧ n.length ≤ 9223372036854775807 ∧ (0 < n.length → ∃ b off, a = some ⟨b, off, none⟩ ∧ ∀ j, j < n.length → ∃ rv, w.cell? ⟨b, off + j, none⟩ = some rv ∧ PsV w rv (n.getD j []))
theorem NmV.below {w w2 : World} {v : Value} {n : List (List Pr)} (h : NmV w v n) (hb : Below w.heap.size w w2) : NmV w2 v n := by
  obtain ⟨a, cap, rfl, hn, hm, hc⟩ := h
  refine ⟨a, cap, rfl, hn, hm, fun i => ?_⟩
  obtain ⟨b, off, rfl, hcc⟩ := hc i
  refine ⟨b, off, rfl, fun j hj => ?_⟩
  obtain ⟨rv, h1, h2⟩ := hcc j hj
  exact ⟨rv, (hb.cell (p := ⟨b, off + j, none⟩) (cell_lt h1)).trans h1, h2.below hb⟩
theorem NmV.nil (w : World) (a : Option Addr) (c : Nat) : NmV w (.slice a 0 c) [] := ⟨a, c, rfl, Nat.zero_le _, by simp, fun h => absurd h (Nat.lt_irrefl _)⟩
theorem NmV.shape {w : World} {v : Value} {n : List (List Pr)} (h : NmV w v n) : ∃ a c, v = .slice a n.length c := by
  obtain ⟨a, c, h, _⟩ := h
  exact ⟨a, c, h⟩
theorem getD_memR (n : List (List Pr)) (k : Nat) (h : k < n.length) : n.getD k [] ∈ n := by simp [List.getD, h]
theorem getD_memP (n : List Pr) (k : Nat) (h : k < n.length) : n.getD k pr0 ∈ n := by simp [List.getD, h]
theorem drop_consR (l : List (List Pr)) (i : Nat) (h : i < l.length) : l.drop i = l.getD i [] :: l.drop (i + 1) := by
  rw [List.drop_eq_getElem_cons h]
  simp [List.getD, h]
theorem drop_consP (l : List Pr) (i : Nat) (h : i < l.length) : l.drop i = l.getD i pr0 :: l.drop (i + 1) := by
  rw [List.drop_eq_getElem_cons h]
  simp [List.getD, h]
theorem drop_consI (l : List Int) (i : Nat) (h : i < l.length) : l.drop i = l.getD i 0 :: l.drop (i + 1) := by
  rw [List.drop_eq_getElem_cons h]
  simp [List.getD, h]
/-- All in a list are so, told place by place. -/
theorem all_of {α : Type} (p : α → Bool) (d : α) (l : List α) (h : ∀ k, k < l.length → p (l.getD k d) = true) : l.all p = true := by
  rw [List.all_eq_true]
  intro x hx
  obtain ⟨k, hk, rfl⟩ := List.getElem_of_mem hx
  have := h k hk
  simpa [List.getD, hk] using this
theorem all_at {α : Type} {p : α → Bool} {d : α} {l : List α} (h : l.all p = true) (k : Nat) (hk : k < l.length) : p (l.getD k d) = true := by
  rw [List.all_eq_true] at h
  exact h _ (by simp [List.getD, hk])
theorem chk_yes {n : List (List Pr)} (h : okN n = true) : chkN n = 0 := by unfold chkN; rw [if_pos h]
theorem chk_no {n : List (List Pr)} (h : okN n = false) : chkN n = 220 := by unfold chkN; rw [h]; rfl
end Go.Proofs.YthbldkkjjjmegaaGreatDoor
/- The document's Word and Check of layer 18. -/
namespace Go.Proofs.YthbldkkjjjmegaaGreatDoor
set_option maxRecDepth 100000
open Go.RowKit

theorem wrd_long {l : List Int} (h : l.length < 1 ∨ 16 < l.length) : wrdB l = false := by
  unfold wrdB
  rw [decide_eq_false (by omega)]
  rfl
/-- A word, told byte by byte. -/
def wrdK (l : List Int) (k : Nat) : Bool := wrdC (l.getD k 0) && (decide (k ≠ 0) || lowB (l.getD k 0))
theorem wrd_yes {l : List Int} (h1 : 1 ≤ l.length) (h2 : l.length ≤ 16) (h : ∀ k, k < l.length → wrdK l k = true) : wrdB l = true := by
  unfold wrdB
  rw [decide_eq_true ⟨h1, h2⟩, all_of wrdC 0 l (fun k hk => by have := h k hk; unfold wrdK at this; simp only [Bool.and_eq_true] at this; exact this.1)]
  have := h 0 (by omega)
  unfold wrdK at this
  simp at this
  simp [this.2]
theorem wrd_no {l : List Int} {k : Nat} (hk : k < l.length) (h : wrdK l k = false) : wrdB l = false := by
  cases hw : wrdB l
  · rfl
  · exfalso
    unfold wrdB at hw
    simp only [Bool.and_eq_true] at hw
    have ha := all_at (d := 0) hw.2.2 k hk
    unfold wrdK at h
    rw [ha, Bool.true_and, Bool.or_eq_false_iff, decide_eq_false_iff_not] at h
    obtain ⟨h1, h2⟩ := h
    have e : k = 0 := by omega
    subst e
    rw [hw.2.1] at h2
    cases h2
theorem wrdK_eq (l : List Int) (k : Nat) (c : Int) (hc : l.getD k 0 = c) : wrdK l k = ((decide (97 ≤ c) && decide (c ≤ 122)) || (decide (k ≠ 0) && ((decide (48 ≤ c) && decide (c ≤ 57)) || decide (c = 45)))) := by
  unfold wrdK wrdC lowB digB
  rw [hc, Bool.eq_iff_iff]
  simp
  omega
set_option maxHeartbeats 3200000 in
theorem rword_any (s : ByteArray) (w : World) : Calls Tryz.prog 56 #[.string s] w fun e w' => e = .returned (.bool (wrdB (nums s))) ∧ w' = w := by
  by_cases h1 : s.size < 1
  · have z1 : (s.size : Int) < 1 := by omega
    have HE := hide (wrd_long (l := nums s) (by rw [nums_length]; omega))
    generalize wrdB (nums s) = r at *
    go_enter Tryz.func56, Tryz.ntmps56
    go_wp2
    go_ret
    exact ⟨ret_bool (unhide HE).symm, rfl⟩
  · by_cases h2 : 16 < s.size
    · have z1 : ¬ (s.size : Int) < 1 := by omega
      have z2 : 16 < (s.size : Int) := by omega
      have HE := hide (wrd_long (l := nums s) (by rw [nums_length]; omega))
      generalize wrdB (nums s) = r at *
      go_enter Tryz.func56, Tryz.ntmps56
      go_wp2
      go_ret
      exact ⟨ret_bool (unhide HE).symm, rfl⟩
    · have z1 : ¬ (s.size : Int) < 1 := by omega
      have z2 : ¬ 16 < (s.size : Int) := by omega
      go_enter Tryz.func56, Tryz.ntmps56
      go_wp2
      go_loopw [3] (fun i wr => ∃ k : Nat, k ≤ s.size ∧ i = .int .i64 k ∧ Hid (∀ j, j < k → wrdK (nums s) j = true) ∧ wr = w) (fun i _ => s.size - (intOf i).toNat)
      case atStart => exact ⟨0, Nat.zero_le _, rfl, fun j hj => absurd hj (Nat.not_lt_zero _), rfl⟩
      case round =>
        obtain ⟨k, hk, rfl, HK, rfl⟩ := hrel
        by_cases hlt : k < s.size
        · have hzl : (k : Int) < (s.size : Int) := by omega
          have hz0 : (0 : Int) ≤ (k : Int) := by omega
          obtain ⟨c, hc⟩ : ∃ c : Int, (s[k].toNat : Int) = c := ⟨_, rfl⟩
          have HQ := hide (wrdK_eq (nums s) k c (by rw [nums_at s k hlt]; exact hc))
          have HN : Hid (wrdK (nums s) k = false → wrdB (nums s) = false) := fun h => wrd_no (by rw [nums_length]; exact hlt) h
          have HY : Hid (wrdK (nums s) k = true → ∀ j, j < k + 1 → wrdK (nums s) j = true) := fun h j hj => by
            by_cases e : j = k
            · rw [e]; exact h
            · exact unhide HK j (by omega)
          have hk0 : ((k : Int) = 0 ∧ k = 0) ∨ (¬ (k : Int) = 0 ∧ k ≠ 0) := by omega
          by_cases a1 : 97 ≤ c <;> by_cases a2 : c ≤ 122 <;> by_cases a3 : 48 ≤ c <;> by_cases a4 : c ≤ 57 <;> by_cases a5 : c = 45 <;> first
            | (exfalso; omega)
            | (have h00 : 0 < s.size := by omega
               have hc0 : k = 0 → (s[0].toNat : Int) = c := fun e => by subst e; exact hc
               rcases hk0 with ⟨k1, k2⟩ | ⟨k1, k2⟩ <;> (
                try have hc1 := hc0 k2
                clear hc0
                have HV : Hid (wrdK (nums s) k = ((decide (97 ≤ c) && decide (c ≤ 122)) || (decide (k ≠ 0) && ((decide (48 ≤ c) && decide (c ≤ 57)) || decide (c = 45))))) := HQ
                clear HQ
                first
                  | rw [decide_eq_false (p := k ≠ 0) (by omega)] at HV
                  | rw [decide_eq_true (p := k ≠ 0) k2] at HV
                clear k2
                have a5' : (c == 45) = decide (c = 45) := by rfl
                simp only [a1, a2, a3, a4, a5, decide_true, decide_false, Bool.and_true, Bool.and_false, Bool.or_true, Bool.or_false] at HV
                go_wp2
                first
                  | (go_ret; exact ⟨ret_bool (unhide HN (unhide HV)).symm, rfl⟩)
                  | (go_roundw
                     case rel => exact ⟨k + 1, by omega, by go_num, unhide HY (unhide HV), trivial⟩
                     case measure => simp [intOf]; omega)))
        · have hzl : ¬ (k : Int) < (s.size : Int) := by omega
          have HE : Hid (wrdB (nums s) = true) := wrd_yes (by rw [nums_length]; omega) (by rw [nums_length]; omega) (fun j hj => unhide HK j (by rw [nums_length] at hj; omega))
          go_wp2
          go_ret
          exact ⟨ret_bool (unhide HE).symm, rfl⟩
theorem okP_no {p : Pr} (h : wrdB (nums p.nam) = false ∨ p.val.size = 0 ∨ 400 < p.val.size) : okP p = false := by
  unfold okP
  rcases h with h | h
  · rw [h]; rfl
  · rw [decide_eq_false (by omega), Bool.and_false]
theorem okP_yes {p : Pr} (h : wrdB (nums p.nam) = true) (h1 : p.val.size ≠ 0) (h2 : ¬ 400 < p.val.size) : okP p = true := by
  unfold okP
  rw [h, decide_eq_true (by omega)]
  rfl
theorem okR_len {r : List Pr} (h : r.length = 0 ∨ 3 < r.length) : okR r = false := by
  unfold okR
  rw [decide_eq_false (by omega)]
  rfl
theorem okR_no {r : List Pr} {k : Nat} (hk : k < r.length) (h : okP (r.getD k pr0) = false) : okR r = false := by
  cases hr : okR r
  · rfl
  · have := (okR_parts hr).2 _ (getD_memP r k hk)
    rw [this] at h
    cases h
theorem okR_yes {r : List Pr} (h0 : r.length ≠ 0) (h1 : ¬ 3 < r.length) (h : ∀ k, k < r.length → okP (r.getD k pr0) = true) : okR r = true := by
  unfold okR
  rw [decide_eq_true (by omega), all_of okP pr0 r h]
  rfl
theorem okN_len {n : List (List Pr)} (h : 6 < n.length) : okN n = false := by
  unfold okN
  rw [decide_eq_false (by omega)]
  rfl
theorem okN_no {n : List (List Pr)} {k : Nat} (hk : k < n.length) (h : okR (n.getD k []) = false) : okN n = false := by
  cases hr : okN n
  · rfl
  · have := (okN_parts hr).2 _ (getD_memR n k hk)
    rw [this] at h
    cases h
theorem okN_yes {n : List (List Pr)} (h1 : ¬ 6 < n.length) (h : ∀ k, k < n.length → okR (n.getD k []) = true) : okN n = true := by
  unfold okN
  rw [decide_eq_true (by omega), all_of okR [] n h]
  rfl
theorem ok_next {α : Type} {p : α → Bool} {d : α} {l : List α} {k : Nat} (h : ∀ j, j < k → p (l.getD j d) = true) (h1 : p (l.getD k d) = true) : ∀ j, j < k + 1 → p (l.getD j d) = true := fun j hj => by
  by_cases e : j = k
  · rw [e]; exact h1
  · exact h j (by omega)
end Go.Proofs.YthbldkkjjjmegaaGreatDoor
