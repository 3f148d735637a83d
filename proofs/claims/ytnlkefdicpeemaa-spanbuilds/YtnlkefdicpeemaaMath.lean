/- Plain mathematics: a table is told by what it tells. -/
import Derived.Test.YtnlkefdicpeemaaPlain
namespace Go.Proofs.Ytnlkefdicpeemaa

/-- A table, but for its length. -/
def isTb (l : List Sp) : Prop := okTo l l.length = true

theorem tb_tail {s : Sp} {l : List Sp} (h : isTb (s :: l)) : isTb l := by
  refine okTo_of fun i hi => ?_
  have h1 := okTo_at h (i + 1) (by simpa using hi)
  simp only [okAt, Bool.and_eq_true, Bool.or_eq_true, decide_eq_true_eq] at h1 ⊢
  refine ⟨by simpa using h1.1, by simpa using h1.2.1, ?_⟩
  by_cases h0 : i = 0
  · exact .inl h0
  · right
    rcases h1.2.2 with h2 | h2
    · omega
    · obtain ⟨j, rfl⟩ : ∃ j, i = j + 1 := ⟨i - 1, by omega⟩
      simpa using h2
theorem tb_head {s : Sp} {l : List Sp} (h : isTb (s :: l)) : 0 ≤ s.f ∧ s.f ≤ s.t ∧ s.t ≤ 1114111 ∧ s.h ≠ 0 := by
  have h1 := okTo_at h 0 (by simp)
  have h2 := okAt_may h1
  simp only [okAt, Bool.and_eq_true, Bool.or_eq_true, decide_eq_true_eq] at h1
  have h3 := h1.2.1
  simp at h2 h3
  exact ⟨h2.1, h2.2.1, h2.2.2, h3⟩
theorem tb_next {s : Sp} {l : List Sp} (h : isTb (s :: l)) : ∀ x, x ∈ l → s.t < x.f := by
  intro x hx
  obtain ⟨k, hk, he⟩ := List.getElem_of_mem hx
  have := ok_lt h (i := 0) (j := k + 1) (by omega) (by simpa using hk)
  simp at this
  rw [← he]
  simpa [hk] using this
theorem tb_join {s x : Sp} {l : List Sp} (h : isTb (s :: x :: l)) : ¬ (x.f = s.t + 1 ∧ x.h = s.h) := by
  have h1 := okTo_at h 1 (by simp)
  simp only [okAt, folS, Bool.and_eq_true, Bool.or_eq_true, decide_eq_true_eq] at h1
  rcases h1.2.2 with h2 | h2
  · omega
  · have := h2.2
    simp at this
    exact (joinS_not _ _).1 this

theorem fnd_zero (l : List Sp) (r : Int) (h : ∀ x, x ∈ l → inS x r = false) : fnd l r = 0 := by
  induction l with
  | nil => rfl
  | cons s l ih =>
    simp only [fnd]
    rw [if_neg (by rw [h s (by simp)]; exact Bool.false_ne_true)]
    exact ih fun x hx => h x (by simp [hx])
theorem fnd_cons_in {s : Sp} {l : List Sp} {r : Int} (h : s.f ≤ r ∧ r ≤ s.t) : fnd (s :: l) r = s.h := by
  simp only [fnd]; rw [if_pos ((inS_iff _ _).2 h)]
theorem fnd_cons_out {s : Sp} {l : List Sp} {r : Int} (h : ¬ (s.f ≤ r ∧ r ≤ s.t)) : fnd (s :: l) r = fnd l r := by
  simp only [fnd]; rw [if_neg (by rw [(inS_not _ _).2 h]; exact Bool.false_ne_true)]
theorem fnd_early {s : Sp} {l : List Sp} (h : isTb (s :: l)) {r : Int} (hr : r < s.f) : fnd (s :: l) r = 0 := by
  refine fnd_zero _ _ fun x hx => ?_
  rw [inS_not]
  rcases List.mem_cons.1 hx with rfl | hx
  · omega
  · have := tb_next h x hx; have := tb_head h; omega
theorem fnd_behind {s : Sp} {l : List Sp} (h : isTb (s :: l)) {r : Int} (hr : r ≤ s.t) : fnd l r = 0 := by
  refine fnd_zero _ _ fun x hx => ?_
  rw [inS_not]
  have := tb_next h x hx; omega
/-- Right behind a span its own is not told. -/
theorem fnd_after {s : Sp} {l : List Sp} (h : isTb (s :: l)) : fnd (s :: l) (s.t + 1) ≠ s.h := by
  have hh := tb_head h
  rw [fnd_cons_out (by omega)]
  cases l with
  | nil => simp only [fnd]; omega
  | cons x l =>
    have hx := tb_head (tb_tail h)
    have hn := tb_next h x (by simp)
    by_cases hf : x.f = s.t + 1
    · rw [fnd_cons_in (by omega)]
      have := tb_join h
      omega
    · rw [fnd_early (tb_tail h) (by omega)]; omega

/-- Two tables that tell the same are the same. -/
theorem tb_unique : ∀ (a b : List Sp), isTb a → isTb b → (∀ r, fnd a r = fnd b r) → a = b
  | [], [], _, _, _ => rfl
  | [], s :: b, _, hb, h => by
    have := h s.f
    have h2 := tb_head hb
    rw [fnd_cons_in (by omega)] at this
    simp only [fnd] at this
    omega
  | s :: a, [], ha, _, h => by
    have := h s.f
    have h2 := tb_head ha
    rw [fnd_cons_in (by omega)] at this
    simp only [fnd] at this
    omega
  | s :: a, s2 :: b, ha, hb, h => by
    have h1 := tb_head ha
    have h2 := tb_head hb
    have hf : s.f = s2.f := by
      rcases Int.lt_trichotomy s.f s2.f with hlt | he | hgt
      · have := h s.f
        rw [fnd_cons_in (by omega), fnd_early hb hlt] at this
        omega
      · exact he
      · have := h s2.f
        rw [fnd_early ha hgt, fnd_cons_in (by omega)] at this
        omega
    have hh : s.h = s2.h := by
      have := h s.f
      rw [fnd_cons_in (by omega), fnd_cons_in (by omega)] at this
      exact this
    have ht : s.t = s2.t := by
      rcases Int.lt_trichotomy s.t s2.t with hlt | he | hgt
      · have := h (s.t + 1)
        rw [fnd_cons_in (s := s2) (by omega)] at this
        exact absurd (by rw [this, hh]) (fnd_after ha)
      · exact he
      · have := h (s2.t + 1)
        rw [fnd_cons_in (s := s) (by omega)] at this
        exact absurd (by rw [← this, hh]) (fnd_after hb)
    have hs : s = s2 := by
      cases s; cases s2; simp at hf hh ht ⊢; exact ⟨hf, ht, hh⟩
    subst hs
    rw [tb_unique a b (tb_tail ha) (tb_tail hb) (fun r => ?_)]
    by_cases hr : r ≤ s.t
    · rw [fnd_behind ha hr, fnd_behind hb hr]
    · have := h r
      rwa [fnd_cons_out (by omega), fnd_cons_out (by omega)] at this

/-- Where no span begins or has ended, the same is told as ahead of it. -/
theorem fnd_noedge (l : List Sp) (r : Int) (h : ∀ x, x ∈ l → r ≠ x.f ∧ r ≠ x.t + 1) : fnd l r = fnd l (r - 1) := by
  induction l with
  | nil => rfl
  | cons s l ih =>
    have h1 := h s (by simp)
    have h2 : inS s r = inS s (r - 1) := by
      unfold inS
      congr 1
      apply propext
      omega
    simp only [fnd]
    rw [h2, ih fun x hx => h x (by simp [hx])]
theorem fnd_at_mem {l : List Sp} (h : isTb l) {s : Sp} (hs : s ∈ l) {r : Int} (hr : s.f ≤ r ∧ r ≤ s.t) : fnd l r = s.h := by
  obtain ⟨k, hk, he⟩ := List.getElem_of_mem hs
  have hg : l.getD k sp0 = s := by simp [List.getD, hk, he]
  have := search_in (l := l) r h (m := k) hk (by rw [hg]; exact (inS_iff _ _).2 hr)
  rw [this, hg]
theorem tb_mem_may {l : List Sp} (h : isTb l) {s : Sp} (hs : s ∈ l) : 0 ≤ s.f ∧ s.f ≤ s.t ∧ s.t ≤ 1114111 := by
  obtain ⟨k, hk, he⟩ := List.getElem_of_mem hs
  have hg : l.getD k sp0 = s := by simp [List.getD, hk, he]
  have := okAt_may (okTo_at h k hk)
  rwa [hg] at this
/-- Tables that tell the same at all their edges tell the same. -/
theorem edges_tell {a b : List Sp} (ha : isTb a) (hb : isTb b) (h1 : ∀ s, s ∈ a → fnd b s.f = s.h ∧ fnd b (s.t + 1) = fnd a (s.t + 1)) (h2 : ∀ s, s ∈ b → fnd a s.f = s.h ∧ fnd a (s.t + 1) = fnd b (s.t + 1)) : ∀ r, fnd a r = fnd b r := by
  have neg : ∀ (l : List Sp), isTb l → ∀ r, r < 0 → fnd l r = 0 := fun l hl r hr => fnd_zero l r fun x hx => by
    rw [inS_not]; have := tb_mem_may hl hx; omega
  have up : ∀ n : Nat, fnd a ((n : Int) - 1) = fnd b ((n : Int) - 1) := by
    intro n
    induction n with
    | zero => rw [neg a ha _ (by omega), neg b hb _ (by omega)]
    | succ n ih =>
      rw [show ((n + 1 : Nat) : Int) - 1 = (n : Int) by omega]
      by_cases ea : ∃ x, x ∈ a ∧ ((n : Int) = x.f ∨ (n : Int) = x.t + 1)
      · obtain ⟨x, hx, he⟩ := ea
        have hm := tb_mem_may ha hx
        rcases he with he | he
        · rw [he, (h1 x hx).1, fnd_at_mem ha hx (by omega)]
        · rw [he, (h1 x hx).2]
      · by_cases eb : ∃ x, x ∈ b ∧ ((n : Int) = x.f ∨ (n : Int) = x.t + 1)
        · obtain ⟨x, hx, he⟩ := eb
          have hm := tb_mem_may hb hx
          rcases he with he | he
          · rw [he, (h2 x hx).1, fnd_at_mem hb hx (by omega)]
          · rw [he, (h2 x hx).2]
        · rw [fnd_noedge a n (fun x hx => ⟨fun e => ea ⟨x, hx, .inl e⟩, fun e => ea ⟨x, hx, .inr e⟩⟩), fnd_noedge b n (fun x hx => ⟨fun e => eb ⟨x, hx, .inl e⟩, fun e => eb ⟨x, hx, .inr e⟩⟩)]
          exact ih
  intro r
  by_cases hr : r < 0
  · rw [neg a ha r hr, neg b hb r hr]
  · have := up (r + 1).toNat
    rwa [show (((r + 1).toNat : Nat) : Int) - 1 = r by omega] at this

/-- What the law SpanSame asks of the spans of a, up to place k. -/
def smTo (a b : List Sp) : Nat → Bool
  | 0 => true
  | k + 1 => smTo a b k && (fndT b (a.getD k sp0).f == (a.getD k sp0).h) && (fndT b (a.getD k sp0).t == (a.getD k sp0).h) && (fndT b ((a.getD k sp0).t + 1) == fndT a ((a.getD k sp0).t + 1))
theorem smTo_at {a b : List Sp} {n : Nat} (h : smTo a b n = true) : ∀ k, k < n → fndT b (a.getD k sp0).f = (a.getD k sp0).h ∧ fndT b ((a.getD k sp0).t + 1) = fndT a ((a.getD k sp0).t + 1) := by
  induction n with
  | zero => intro k hk; omega
  | succ n ih =>
    simp only [smTo, Bool.and_eq_true, beq_iff_eq] at h
    intro k hk
    rcases Nat.lt_succ_iff_lt_or_eq.1 hk with h1 | rfl
    · exact ih h.1.1.1 k h1
    · exact ⟨h.1.1.2, h.2⟩
theorem smTo_self {a : List Sp} (ha : chk a = 0) : ∀ n, n ≤ a.length → smTo a a n = true
  | 0, _ => rfl
  | n + 1, hn => by
    simp only [smTo, Bool.and_eq_true, beq_iff_eq]
    have hm : a.getD n sp0 ∈ a := by simp [List.getD, show n < a.length by omega]
    have ht := (chk_zero ha).2
    have h1 := tb_mem_may ht hm
    refine ⟨⟨⟨smTo_self ha n (by omega), ?_⟩, ?_⟩, trivial⟩
    · rw [fndT_yes ha, fnd_at_mem ht hm (by omega)]
    · rw [fndT_yes ha, fnd_at_mem ht hm (by omega)]
theorem same_iff {a b : List Sp} (ha : chk a = 0) (hb : chk b = 0) : (smTo a b a.length && smTo b a b.length) = eqL a b := by
  by_cases he : a = b
  · subst he
    rw [smTo_self ha _ (Nat.le_refl _), eqL_true rfl]
    rfl
  · rw [eqL_false he, Bool.eq_false_iff]
    intro h
    rw [Bool.and_eq_true] at h
    refine he (tb_unique a b (chk_zero ha).2 (chk_zero hb).2 (edges_tell (chk_zero ha).2 (chk_zero hb).2 (fun s hs => ?_) (fun s hs => ?_)))
    · obtain ⟨k, hk, e⟩ := List.getElem_of_mem hs
      have := smTo_at h.1 k hk
      rwa [show a.getD k sp0 = s by simp [List.getD, hk, e], fndT_yes hb, fndT_yes hb, fndT_yes ha] at this
    · obtain ⟨k, hk, e⟩ := List.getElem_of_mem hs
      have := smTo_at h.2 k hk
      rwa [show b.getD k sp0 = s by simp [List.getD, hk, e], fndT_yes ha, fndT_yes ha, fndT_yes hb] at this
end Go.Proofs.Ytnlkefdicpeemaa
