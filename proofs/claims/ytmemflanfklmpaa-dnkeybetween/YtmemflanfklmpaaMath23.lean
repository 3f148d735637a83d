/- Keys of layer 23, plainly: bytes that are empty, or parts that end with a byte 0. -/
import Derived.Test.YtmemflanfklmpaaProg
namespace Go.Proofs.Ytmemflanfklmpaa

/-- From a place at which a part begins (f), or within one: are these bytes the rest of a key? -/
def okF : Bool → List UInt8 → Bool
  | f, [] => f
  | f, c :: t => if c = 0 then !f && okF true t else okF false t
def okK (l : List UInt8) : Bool := okF true l
theorem okF_nil (f : Bool) : okF f [] = f := by cases f <;> rfl
theorem okF_cons (f : Bool) (c : UInt8) (t : List UInt8) : okF f (c :: t) = if c = 0 then !f && okF true t else okF false t := by cases f <;> rfl
/-- Behind a key the bytes are looked at anew. -/
theorem okF_app : ∀ (f : Bool) (p r : List UInt8), okF f p = true → okF f (p ++ r) = okF true r
  | f, [], r, h => by rw [okF_nil] at h; rw [h]; rfl
  | f, c :: t, r, h => by
    rw [okF_cons] at h
    rw [List.cons_append, okF_cons]
    by_cases hc : c = 0
    · rw [if_pos hc] at h ⊢
      rw [Bool.and_eq_true] at h
      rw [h.1, Bool.true_and, okF_app true t r h.2]
    · rw [if_neg hc] at h ⊢
      exact okF_app false t r h
theorem okK_app {p r : List UInt8} (h : okK p = true) : okK (p ++ r) = okK r := okF_app true p r h
/-- How many bytes are 0. -/
def zer (l : List UInt8) : Nat := (l.filter (fun c => c == 0)).length
theorem zer_app (a b : List UInt8) : zer (a ++ b) = zer a + zer b := by unfold zer; rw [List.filter_append, List.length_append]
def depK (l : List UInt8) : Int := if okK l then (zer l : Int) else -1
/-- Is a under b? -/
def undK (a b : List UInt8) : Bool := okK a && okK b && b.isPrefixOf a
theorem undK_iff {a b : List UInt8} : undK a b = true ↔ okK a = true ∧ okK b = true ∧ ∃ r, a = b ++ r := by
  unfold undK
  rw [Bool.and_eq_true, Bool.and_eq_true, List.isPrefixOf_iff_prefix]
  constructor
  · rintro ⟨⟨h1, h2⟩, r, h3⟩
    exact ⟨h1, h2, r, h3.symm⟩
  · rintro ⟨h1, h2, r, h3⟩
    exact ⟨⟨h1, h2⟩, r, h3.symm⟩
/-- A key without its last part. -/
def lastZ : List UInt8 → List UInt8
  | [] => []
  | c :: t => if c = 0 then c :: t else lastZ t
def aboK (l : List UInt8) : List UInt8 := ((lastZ (l.reverse.drop 1)).reverse)
def behK (l : List UInt8) : List UInt8 := if okK l && !l.isEmpty then l.dropLast ++ [1] else [255]
def nexK (a b : List UInt8) : Bool := undK a b && decide (depK a = depK b + 1)
def movE (key fro dst : List UInt8) : Int := if okK dst && undK key fro then 0 else 220
def movK (key fro dst : List UInt8) : List UInt8 := if okK dst && undK key fro then dst ++ key.drop fro.length else []
/-- A key that is not empty ends with a byte 0. -/
theorem okF_last : ∀ (f : Bool) (l : List UInt8), l ≠ [] → okF f l = true → ∃ c, l = c ++ [0]
  | f, [], h, _ => absurd rfl h
  | f, [c], _, h => by
    rw [okF_cons] at h
    by_cases hc : c = 0
    · exact ⟨[], by rw [hc]; rfl⟩
    · rw [if_neg hc, okF_nil] at h; cases h
  | f, c :: d :: t, _, h => by
    rw [okF_cons] at h
    have : ∃ g, okF g (d :: t) = true := by
      by_cases hc : c = 0
      · rw [if_pos hc, Bool.and_eq_true] at h; exact ⟨true, h.2⟩
      · rw [if_neg hc] at h; exact ⟨false, h⟩
    obtain ⟨g, hg⟩ := this
    obtain ⟨x, hx⟩ := okF_last g (d :: t) (by simp) hg
    exact ⟨c :: x, by rw [hx]; rfl⟩
/-- Every key is made of parts: the last part apart. -/
theorem okF_split : ∀ (f : Bool) (l : List UInt8), l ≠ [] → okF f l = true → (∃ p q, l = p ++ (q ++ [0]) ∧ okF f p = true ∧ (∀ c ∈ q, c ≠ 0) ∧ q ≠ []) ∨ (f = false ∧ ∃ q, l = q ++ [0] ∧ ∀ c ∈ q, c ≠ 0)
  | f, [], h, _ => absurd rfl h
  | f, c :: t, _, h => by
    rw [okF_cons] at h
    by_cases hc : c = 0
    · rw [if_pos hc, Bool.and_eq_true] at h
      have hf : f = false := by cases f <;> simp at h; rfl
      subst hf
      by_cases ht : t = []
      · subst ht
        exact .inr ⟨rfl, [], by rw [hc]; rfl, by simp⟩
      · rcases okF_split true t ht h.2 with ⟨p, q, e, h1, h2, h3⟩ | ⟨h1, _⟩
        · refine .inl ⟨c :: p, q, by rw [e]; rfl, ?_, h2, h3⟩
          rw [okF_cons, if_pos hc, h1]; rfl
        · cases h1
    · rw [if_neg hc] at h
      have ht : t ≠ [] := fun e => by subst e; rw [okF_nil] at h; cases h
      rcases okF_split false t ht h with ⟨p, q, e, h1, h2, h3⟩ | ⟨_, q, e, h2⟩
      · refine .inl ⟨c :: p, q, by rw [e]; rfl, ?_, h2, h3⟩
        rw [okF_cons, if_neg hc]; exact h1
      · cases f
        · exact .inr ⟨rfl, c :: q, by rw [e]; rfl, fun x hx => by rcases List.mem_cons.1 hx with rfl | hx; exact hc; exact h2 x hx⟩
        · refine .inl ⟨[], c :: q, by rw [e]; rfl, rfl, fun x hx => by rcases List.mem_cons.1 hx with rfl | hx; exact hc; exact h2 x hx, by simp⟩
theorem okK_split {l : List UInt8} (h0 : l ≠ []) (h : okK l = true) : ∃ p q, l = p ++ (q ++ [0]) ∧ okK p = true ∧ (∀ c ∈ q, c ≠ 0) ∧ q ≠ [] := by
  rcases okF_split true l h0 h with h | ⟨h, _⟩
  · exact h
  · cases h
theorem lastZ_skip : ∀ (q p : List UInt8), (∀ c ∈ q, c ≠ 0) → lastZ (q ++ p) = lastZ p
  | [], p, _ => rfl
  | c :: q, p, h => by
    rw [List.cons_append, lastZ, if_neg (h c (by simp))]
    exact lastZ_skip q p fun x hx => h x (List.mem_cons_of_mem _ hx)
theorem lastZ_key {p : List UInt8} (h : okK p = true) : lastZ p.reverse = p.reverse := by
  by_cases h0 : p = []
  · subst h0; rfl
  · obtain ⟨c, hc⟩ := okF_last true p h0 h
    rw [hc, List.reverse_append]
    rfl
/-- The key above: all but the last part. -/
theorem abo_at {p q : List UInt8} (hp : okK p = true) (hq : ∀ c ∈ q, c ≠ 0) : aboK (p ++ (q ++ [0])) = p := by
  unfold aboK
  rw [List.reverse_append, List.reverse_append]
  show (lastZ (q.reverse ++ p.reverse)).reverse = p
  rw [lastZ_skip _ _ (fun c hc => hq c (by simpa using hc)), lastZ_key hp, List.reverse_reverse]
theorem zer_part {q : List UInt8} (hq : ∀ c ∈ q, c ≠ 0) : zer (q ++ [0]) = 1 := by
  rw [zer_app]
  have : zer q = 0 := by
    unfold zer
    rw [List.filter_eq_nil_iff.2 (fun c hc => by simpa using hq c hc)]
    rfl
  rw [this]
  rfl
/-- What the key above is. -/
theorem above_key {l : List UInt8} (h0 : l ≠ []) (h : okK l = true) : okK (aboK l) = true ∧ (∃ r, l = aboK l ++ r) ∧ zer l = zer (aboK l) + 1 := by
  obtain ⟨p, q, rfl, hp, hq, _⟩ := okK_split h0 h
  rw [abo_at hp hq]
  exact ⟨hp, ⟨_, rfl⟩, by rw [zer_app, zer_part hq]⟩
theorem zer_nil {l : List UInt8} (h : okK l = true) (hz : zer l = 0) : l = [] := by
  by_cases h0 : l = []
  · exact h0
  · have := (above_key h0 h).2.2
    omega
theorem nil_zer {l : List UInt8} (hz : zer l ≠ 0) : l ≠ [] := fun h => hz (by rw [h]; rfl)
/-! The order of texts. -/
theorem bls_irr : ∀ x : List UInt8, Op.bytesLess x x = false
  | [] => rfl
  | a :: t => by simp [Op.bytesLess, bls_irr t]
theorem bls_app : ∀ (p x y : List UInt8), Op.bytesLess (p ++ x) (p ++ y) = Op.bytesLess x y
  | [], _, _ => rfl
  | a :: p, x, y => by simp [Op.bytesLess, bls_app p x y]
theorem bls_nil (x : List UInt8) : Op.bytesLess x [] = false := by cases x <;> rfl
theorem bls_cons (a b : UInt8) (x y : List UInt8) : Op.bytesLess (a :: x) (b :: y) = (decide (a < b) || (a == b && Op.bytesLess x y)) := rfl
theorem bls_asymm : ∀ x y : List UInt8, Op.bytesLess x y = true → Op.bytesLess y x = false
  | [], _, _ => bls_nil _
  | _ :: _, [], h => by simp [Op.bytesLess] at h
  | a :: x, b :: y, h => by
    rw [bls_cons, Bool.or_eq_true, Bool.and_eq_true] at h
    rw [bls_cons, Bool.or_eq_false_iff]
    rcases h with h | ⟨h1, h2⟩
    · have h1 := of_decide_eq_true h
      rw [UInt8.lt_iff_toNat_lt] at h1
      refine ⟨decide_eq_false (fun h2 => ?_), ?_⟩
      · rw [UInt8.lt_iff_toNat_lt] at h2; omega
      · have : (b == a) = false := by
          rw [beq_eq_false_iff_ne]
          intro e
          subst e
          omega
        rw [this, Bool.false_and]
    · have e : a = b := by simpa using h1
      subst e
      refine ⟨decide_eq_false (fun h2 => ?_), ?_⟩
      · rw [UInt8.lt_iff_toNat_lt] at h2; omega
      · rw [bls_asymm x y h2, Bool.and_false]
/-- No greater. -/
theorem bls_le {x y : List UInt8} (h : Op.bytesLess x y = true ∨ x = y) : Op.bytesLess y x = false := by
  rcases h with h | h
  · exact bls_asymm _ _ h
  · rw [h, bls_irr]
/-- What lies between a beginning and what begins so begins so. -/
theorem between_pre : ∀ (p a b : List UInt8), Op.bytesLess b p = false → Op.bytesLess (p ++ a) b = false → p.isPrefixOf b = true
  | [], _, _, _, _ => by simp
  | c :: p, a, [], h, _ => by simp [Op.bytesLess] at h
  | c :: p, a, d :: b, h1, h2 => by
    rw [bls_cons, Bool.or_eq_false_iff] at h1
    rw [List.cons_append, bls_cons, Bool.or_eq_false_iff] at h2
    have e : c = d := by
      have l1 := of_decide_eq_false h1.1
      have l2 := of_decide_eq_false h2.1
      rw [UInt8.lt_iff_toNat_lt] at l1 l2
      exact UInt8.toNat_inj.1 (by omega)
    subst e
    simp at h1 h2
    rw [List.isPrefixOf]
    simp [between_pre p a b h1 h2]
/-- What is from c, 0 on, and ahead of c, 1, begins with c, 0. -/
theorem behind_pre : ∀ (c a : List UInt8), (Op.bytesLess a (c ++ [0]) = false ∧ Op.bytesLess a (c ++ [1]) = true) ↔ (c ++ [0]).isPrefixOf a = true
  | [], [] => by simp [Op.bytesLess]
  | [], d :: a => by
    simp only [List.nil_append, bls_cons, bls_nil, Bool.and_false, Bool.or_false, List.isPrefixOf, Bool.and_true, beq_iff_eq, decide_eq_true_eq, decide_eq_false_iff_not, UInt8.lt_iff_toNat_lt]
    constructor
    · rintro ⟨_, h⟩
      have : d.toNat = 0 := by have : (1 : UInt8).toNat = 1 := rfl; omega
      exact UInt8.toNat_inj.1 this.symm
    · intro h
      rw [← h]
      exact ⟨by decide, by decide⟩
  | x :: c, [] => by simp [Op.bytesLess]
  | x :: c, d :: a => by
    have ih := behind_pre c a
    rw [List.cons_append, List.cons_append, bls_cons, bls_cons, List.isPrefixOf]
    by_cases e : d = x
    · subst e
      simp at ih ⊢
      exact ih
    · have e2 : (x == d) = false := by simpa using fun h => e h.symm
      have e3 : (d == x) = false := by simpa using e
      rw [e2, e3]
      simp
/-- Keys under one are those from it on, up to what stands behind it. -/
theorem under_range {a b : List UInt8} (ha : okK a = true) (hb : okK b = true) (hf : ¬ (b = [] ∧ a ≠ [] ∧ a.getD 0 0 = 255)) : undK a b = (!Op.bytesLess a b && Op.bytesLess a (behK b)) := by
  by_cases h0 : b = []
  · subst h0
    have e1 : undK a [] = true := undK_iff.2 ⟨ha, rfl, a, rfl⟩
    have e2 : behK [] = [255] := rfl
    rw [e1, e2, bls_nil]
    cases a with
    | nil => rfl
    | cons d t =>
      rw [bls_cons, bls_nil]
      have : d ≠ 255 := fun e => hf ⟨rfl, by simp, by rw [e]; rfl⟩
      have hl : d < 255 := by
        rw [UInt8.lt_iff_toNat_lt]
        have h1 : d.toNat ≠ 255 := fun e => this (UInt8.toNat_inj.1 e)
        have h2 := UInt8.toNat_lt d
        have : (255 : UInt8).toNat = 255 := rfl
        omega
      simp [hl]
  · obtain ⟨c, rfl⟩ := okF_last true b h0 hb
    have e1 : behK (c ++ [0]) = c ++ [1] := by
      unfold behK
      rw [hb]
      simp
    rw [e1, Bool.eq_iff_iff, Bool.and_eq_true, Bool.not_eq_true', behind_pre c a]
    unfold undK
    rw [ha, hb]
    simp
/-! What is moved. -/
theorem und_self {a : List UInt8} (h : okK a = true) : undK a a = true := undK_iff.2 ⟨h, h, [], by simp⟩
theorem und_nil {a : List UInt8} (h : okK a = true) : undK a [] = true := undK_iff.2 ⟨h, rfl, a, rfl⟩
theorem move_back {key fro dst : List UInt8} (h : movE key fro dst = 0) : movE (movK key fro dst) dst fro = 0 ∧ movK (movK key fro dst) dst fro = key ∧ undK (movK key fro dst) dst = true ∧ depK (movK key fro dst) - depK dst = depK key - depK fro := by
  unfold movE at h
  by_cases hc : (okK dst && undK key fro) = true
  · have hm : movK key fro dst = dst ++ key.drop fro.length := by unfold movK; rw [if_pos hc]
    rw [Bool.and_eq_true] at hc
    obtain ⟨hd, hu⟩ := hc
    obtain ⟨hk, hf, r, rfl⟩ := undK_iff.1 hu
    rw [List.drop_left] at hm
    have hr : okK r = true := by rw [okK_app hf] at hk; exact hk
    have hm2 : okK (dst ++ r) = true := by rw [okK_app hd]; exact hr
    have hu2 : undK (dst ++ r) dst = true := undK_iff.2 ⟨hm2, hd, r, rfl⟩
    rw [hm]
    refine ⟨?_, ?_, hu2, ?_⟩
    · unfold movE; rw [hf, hu2]; rfl
    · unfold movK; rw [hf, hu2, List.drop_left]; rfl
    · unfold depK
      rw [hm2, hd, hk, hf, zer_app, zer_app]
      simp
      omega
  · rw [if_neg hc] at h
    cases h
theorem move_bad {key fro dst : List UInt8} (h : movE key fro dst ≠ 0) : movE key fro dst = 220 ∧ movK key fro dst = [] := by
  unfold movE at h ⊢
  unfold movK
  by_cases hc : (okK dst && undK key fro) = true
  · rw [if_pos hc] at h; exact absurd rfl h
  · rw [if_neg hc, if_neg hc]; exact ⟨rfl, rfl⟩
/-- All keys between one and another one under it are under it. -/
theorem between_und {a b top : List UInt8} (hb : okK b = true) (hu : undK a top = true) (h1 : Op.bytesLess b top = false) (h2 : Op.bytesLess a b = false) : undK b top = true := by
  obtain ⟨_, ht, r, rfl⟩ := undK_iff.1 hu
  have := between_pre top r b h1 h2
  unfold undK
  rw [hb, ht, this]
  rfl
end Go.Proofs.Ytmemflanfklmpaa
