/- The parts of bytes, plainly: what the landed code goes through. -/
import Derived.Test.YtmemflanfklmpaaRf23
import Derived.Lib.Bytealg
namespace Go.Proofs.Ytmemflanfklmpaa
open Go.RowKit

/-- The parts, each with the byte 0 that ends it (acc: what of the first one has come). -/
def prtA : List UInt8 → List UInt8 → List (List UInt8)
  | acc, [] => if acc.isEmpty then [] else [acc]
  | acc, c :: t => if c = 0 then (acc ++ [0]) :: prtA [] t else prtA (acc ++ [c]) t
def prtS (s : ByteArray) : List ByteArray := (prtA [] (bts s)).map ofb
/-- Is this a part: a byte at least, and the 0 that ends it? -/
def goodL (p : List UInt8) : Bool := decide (2 ≤ p.length) && (p.getD (p.length - 1) 0 == 0)
def goodS (p : ByteArray) : Bool := goodL (bts p)
theorem prtA_skip : ∀ (q acc t : List UInt8), (∀ c ∈ q, c ≠ 0) → prtA acc (q ++ t) = prtA (acc ++ q) t
  | [], acc, t, _ => by rw [List.append_nil]; rfl
  | c :: q, acc, t, h => by
    rw [List.cons_append, prtA, if_neg (h c (by simp)), prtA_skip q _ t (fun x hx => h x (List.mem_cons_of_mem _ hx)), List.append_assoc]
    rfl
theorem prtA_zero (q t : List UInt8) (h : ∀ c ∈ q, c ≠ 0) : prtA [] (q ++ 0 :: t) = (q ++ [0]) :: prtA [] t := by
  rw [prtA_skip q [] _ h, prtA, if_pos rfl]; rfl
theorem prtA_rest (q : List UInt8) (h : ∀ c ∈ q, c ≠ 0) (h0 : q ≠ []) : prtA [] q = [q] := by
  have := prtA_skip q [] [] h
  rw [List.append_nil, List.nil_append] at this
  rw [this, prtA, if_neg (by simpa using h0)]
theorem good_end (acc : List UInt8) : goodL (acc ++ [0]) = !acc.isEmpty := by
  unfold goodL
  rw [List.length_append]
  cases acc with
  | nil => rfl
  | cons a t => simp [List.getD]
theorem good_bad (acc : List UInt8) (h : ∀ c ∈ acc, c ≠ 0) (h0 : acc ≠ []) : goodL acc = false := by
  unfold goodL
  have : (acc.getD (acc.length - 1) 0 == 0) = false := by
    have hl : acc.length - 1 < acc.length := by
      have : acc.length ≠ 0 := fun e => h0 (List.length_eq_zero_iff.1 e)
      omega
    have e : acc.getD (acc.length - 1) 0 = acc[acc.length - 1] := by simp [List.getD, hl]
    rw [e, beq_eq_false_iff_ne]
    exact h _ (List.getElem_mem hl)
  rw [this, Bool.and_false]
theorem prtA_ok : ∀ (l acc : List UInt8), (∀ c ∈ acc, c ≠ 0) → (prtA acc l).all goodL = okF acc.isEmpty l
  | [], acc, h => by
    rw [prtA, okF_nil]
    by_cases h0 : acc = []
    · subst h0; rfl
    · have e : acc.isEmpty = false := by simpa using h0
      rw [e, if_neg (by simp), List.all_cons, good_bad acc h h0]
      rfl
  | c :: t, acc, h => by
    rw [prtA, okF_cons]
    by_cases hc : c = 0
    · rw [if_pos hc, if_pos hc, List.all_cons, good_end, prtA_ok t [] (by simp)]
      rfl
    · rw [if_neg hc, if_neg hc, prtA_ok t (acc ++ [c]) (fun x hx => by
        rcases List.mem_append.1 hx with hx | hx
        · exact h x hx
        · simp at hx; rw [hx]; exact hc)]
      congr 1
      simp
theorem prtS_ok (s : ByteArray) : (prtS s).all goodS = okK (bts s) := by
  have := prtA_ok (bts s) [] (by simp)
  unfold prtS okK
  rw [List.all_map, show okF true (bts s) = okF ([] : List UInt8).isEmpty (bts s) from rfl, ← this]
  congr 1
theorem ne_emp (acc : List UInt8) (c : UInt8) : (acc ++ [c]).isEmpty = false := by cases acc <;> rfl
theorem prtA_num : ∀ (l acc : List UInt8), okF acc.isEmpty l = true → (prtA acc l).length = zer l
  | [], acc, h => by
    rw [okF_nil] at h
    rw [prtA, if_pos h]
    rfl
  | c :: t, acc, h => by
    rw [okF_cons] at h
    by_cases hc : c = 0
    · rw [if_pos hc, Bool.and_eq_true] at h
      have ez : zer (c :: t) = zer t + 1 := by unfold zer; rw [hc, List.filter_cons_of_pos (by simp), List.length_cons]
      rw [prtA, if_pos hc, List.length_cons, prtA_num t [] h.2, ez]
    · rw [if_neg hc] at h
      have ez : zer (c :: t) = zer t := by unfold zer; rw [List.filter_cons_of_neg (by simpa using hc)]
      rw [prtA, if_neg hc, prtA_num t (acc ++ [c]) (by rw [ne_emp]; exact h), ez]
theorem prtS_num {s : ByteArray} (h : okK (bts s) = true) : (prtS s).length = zer (bts s) := by
  unfold prtS
  rw [List.length_map]
  exact prtA_num (bts s) [] h
theorem prtA_app : ∀ (p acc r : List UInt8), okF acc.isEmpty p = true → prtA acc (p ++ r) = prtA acc p ++ prtA [] r
  | [], acc, r, h => by
    rw [okF_nil] at h
    have : acc = [] := by simpa using h
    subst this
    rfl
  | c :: t, acc, r, h => by
    rw [okF_cons] at h
    by_cases hc : c = 0
    · rw [if_pos hc, Bool.and_eq_true] at h
      rw [List.cons_append, prtA, prtA, if_pos hc, if_pos hc, prtA_app t [] r h.2, List.cons_append]
    · rw [if_neg hc] at h
      rw [List.cons_append, prtA, prtA, if_neg hc, if_neg hc, prtA_app t (acc ++ [c]) r (by rw [ne_emp]; exact h)]
/-- Of a key with a part: the last part, and what is ahead of it. -/
theorem prtS_last {s : ByteArray} (h0 : bts s ≠ []) (h : okK (bts s) = true) : ∃ ini last, prtS s = ini ++ [last] ∧ bts s = aboK (bts s) ++ bts last := by
  obtain ⟨p, q, e, hp, hq, hq0⟩ := okK_split h0 h
  refine ⟨(prtA [] p).map ofb, ofb (q ++ [0]), ?_, ?_⟩
  · unfold prtS
    rw [e, prtA_app p [] _ hp, List.map_append]
    congr 1
    rw [show q ++ [0] = q ++ 0 :: [] from rfl, prtA_zero q [] hq]
    rfl
  · have := abo_at hp hq
    rw [← e] at this
    rw [this, bts_ofb]
    exact e
theorem prtA_len : ∀ (l acc : List UInt8), (prtA acc l).length ≤ acc.length + l.length
  | [], acc => by
    rw [prtA]
    by_cases h : acc.isEmpty = true
    · rw [if_pos h]; simp
    · rw [if_neg h]
      have : acc.length ≠ 0 := fun e => h (by rw [List.length_eq_zero_iff.1 e]; rfl)
      simp
      omega
  | c :: t, acc => by
    rw [prtA]
    by_cases hc : c = 0
    · rw [if_pos hc]
      have := prtA_len t []
      simp at this ⊢
      omega
    · rw [if_neg hc]
      have := prtA_len t (acc ++ [c])
      simp at this ⊢
      omega
/-- The first byte 0, or none. -/
theorem ixz : ∀ l : List UInt8, (∃ q t, l = q ++ 0 :: t ∧ (∀ c ∈ q, c ≠ 0) ∧ Lib.indexByte l 0 = q.length) ∨ ((∀ c ∈ l, c ≠ 0) ∧ Lib.indexByte l 0 = -1)
  | [] => .inr ⟨by simp, rfl⟩
  | c :: l => by
    by_cases hc : c = 0
    · exact .inl ⟨[], l, by rw [hc]; rfl, by simp, by rw [hc]; rfl⟩
    · have e : (c == 0) = false := by simpa using hc
      rcases ixz l with ⟨q, t, h1, h2, h3⟩ | ⟨h1, h2⟩
      · refine .inl ⟨c :: q, t, by rw [h1]; rfl, fun x hx => ?_, ?_⟩
        · rcases List.mem_cons.1 hx with rfl | hx
          · exact hc
          · exact h2 x hx
        · rw [Lib.indexByte, e, h3]
          have : ((q.length : Int) == -1) = false := by rw [beq_eq_false_iff_ne]; omega
          rw [this]
          simp
      · refine .inr ⟨fun x hx => ?_, ?_⟩
        · rcases List.mem_cons.1 hx with rfl | hx
          · exact hc
          · exact h1 x hx
        · rw [Lib.indexByte, e, h2]
          rfl
/-- Where the first part of a text ends, and what is left then. -/
theorem part_at (s : ByteArray) (h : s.size ≠ 0) : ∃ k : Nat, 0 < k ∧ k ≤ s.size ∧ ((Lib.indexByte s.data.toList 0 = (k : Int) - 1) ∨ (Lib.indexByte s.data.toList 0 = -1 ∧ k = s.size)) ∧ prtS s = s.extract 0 k :: prtS (s.extract k s.size) := by
  have hl := bts_len s
  have hx : ∀ k, k ≤ s.size → bts (s.extract 0 k) = (bts s).take k ∧ bts (s.extract k s.size) = (bts s).drop k := fun k hk => by
    constructor
    · show (s.extract 0 k).data.toList = _
      rw [← Lib.toList_data, Lib.extract_toList]
      simp
    · show (s.extract k s.size).data.toList = _
      rw [← Lib.toList_data, Lib.extract_toList]
      rw [List.take_of_length_le (by rw [List.length_drop, hl]; omega)]
  rcases ixz (bts s) with ⟨q, t, h1, h2, h3⟩ | ⟨h1, h2⟩
  · have hk : q.length + 1 ≤ s.size := by rw [← hl, h1]; simp
    obtain ⟨e1, e2⟩ := hx _ hk
    refine ⟨q.length + 1, by omega, hk, .inl (by rw [show s.data.toList = bts s from rfl, h3]; omega), ?_⟩
    have e3 : (bts s).take (q.length + 1) = q ++ [0] := by rw [h1, List.take_append, List.take_of_length_le (by omega)]; simp
    have e4 : (bts s).drop (q.length + 1) = t := by rw [h1, List.drop_append]; simp
    rw [← ofb_bts (s.extract 0 (q.length + 1)), e1, e3]
    unfold prtS
    rw [e2, e4, h1, prtA_zero q t h2]
    rfl
  · obtain ⟨e1, e2⟩ := hx s.size (Nat.le_refl _)
    refine ⟨s.size, by omega, Nat.le_refl _, .inr ⟨h2, rfl⟩, ?_⟩
    have e3 : (bts s).take s.size = bts s := List.take_of_length_le (by omega)
    have e4 : (bts s).drop s.size = [] := List.drop_of_length_le (by omega)
    rw [← ofb_bts (s.extract 0 s.size), e1, e3]
    unfold prtS
    rw [e2, e4, prtA_rest (bts s) h1 (fun e => by rw [e] at hl; simp at hl; omega)]
    rfl
theorem prtS_none (s : ByteArray) (h : s.size = 0) : prtS s = [] := by
  have hl := bts_len s
  have : bts s = [] := List.length_eq_zero_iff.1 (by omega)
  unfold prtS
  rw [this]
  rfl
theorem prtS_len (s : ByteArray) : (prtS s).length ≤ s.size := by
  have := prtA_len (bts s) []
  unfold prtS
  rw [List.length_map, ← bts_len s]
  simpa using this
end Go.Proofs.Ytmemflanfklmpaa
