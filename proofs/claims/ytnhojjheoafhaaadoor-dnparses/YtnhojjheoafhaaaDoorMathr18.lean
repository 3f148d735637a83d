/- The document's reading of names, plainly: it is the landed one. -/
import Derived.Test.YtnhojjheoafhaaaDoorVal18
namespace Go.Proofs.YtnhojjheoafhaaaDoor
set_option maxRecDepth 100000
open Go.RowKit

/-- The pieces of a text between the bytes of a kind that have no slash ahead; cur: what was gone through of the piece. -/
def cutG (d : Int) (cur : List Int) : List Int → List (List Int)
  | [] => [cur]
  | c :: t =>
    if c = 92 then
      match t with
      | [] => [cur ++ [92]]
      | e :: u => cutG d (cur ++ [92, e]) u
    else if c = d then cur :: cutG d [] t
    else cutG d (cur ++ [c]) t
theorem cutG_nil (d : Int) (cur : List Int) : cutG d cur [] = [cur] := by rw [cutG.eq_def]
theorem cutG_last (d : Int) (cur : List Int) : cutG d cur [92] = [cur ++ [92]] := by
  rw [cutG.eq_def]
  simp only
  rw [if_pos trivial]
theorem cutG_esc (d : Int) (cur : List Int) (e : Int) (u : List Int) : cutG d cur (92 :: e :: u) = cutG d (cur ++ [92, e]) u := by
  rw [cutG.eq_def]
  simp only
  rw [if_pos trivial]
theorem cutG_sep (d : Int) (cur t : List Int) (h : d ≠ 92) : cutG d cur (d :: t) = cur :: cutG d [] t := by
  rw [cutG.eq_def]
  simp only
  rw [if_neg h, if_pos trivial]
theorem cutG_one (d : Int) (cur : List Int) (c : Int) (t : List Int) (h : c ≠ 92) (h2 : c ≠ d) : cutG d cur (c :: t) = cutG d (cur ++ [c]) t := by
  rw [cutG.eq_def]
  simp only
  rw [if_neg h, if_neg h2]
/-- A text that ends where a byte ends, without a bare comma or plus. -/
def segB : List Int → Bool
  | [] => true
  | c :: t =>
    if c = 92 then
      match t with
      | [] => false
      | _ :: u => segB u
    else decide (c ≠ 44 ∧ c ≠ 43) && segB t
theorem segB_esc (e : Int) (u : List Int) : segB (92 :: e :: u) = segB u := by
  rw [segB.eq_def]
  simp only
  rw [if_pos trivial]
theorem segB_one (c : Int) (t : List Int) (h : c ≠ 92) : segB (c :: t) = (decide (c ≠ 44 ∧ c ≠ 43) && segB t) := by
  rw [segB.eq_def]
  simp only
  rw [if_neg h]
theorem segB_last : segB [92] = false := by
  rw [segB.eq_def]
  simp only
  rw [if_pos trivial]
theorem cutG_seg (d : Int) (hd : d = 44 ∨ d = 43) (Y : List Int) : ∀ (k : Nat) (P cur : List Int), P.length ≤ k → segB P = true → cutG d cur (P ++ Y) = cutG d (cur ++ P) Y := by
  intro k
  induction k with
  | zero =>
    intro P cur hl _
    obtain rfl : P = [] := List.length_eq_zero_iff.1 (by omega)
    simp
  | succ k ih =>
    intro P cur hl hs
    match P with
    | [] => simp
    | c :: t =>
      by_cases h92 : c = 92
      · subst h92
        match t with
        | [] => rw [segB_last] at hs; cases hs
        | e :: u =>
          rw [segB_esc] at hs
          simp only [List.cons_append]
          rw [cutG_esc, ih u _ (by simp at hl; omega) hs]
          simp
      · rw [segB_one c t h92, Bool.and_eq_true, decide_eq_true_eq] at hs
        simp only [List.cons_append]
        rw [cutG_one d cur c _ h92 (by omega), ih t _ (by simp at hl; omega) hs.2]
        simp
/-- What is read of a value's text alone is read with a rest behind it. -/
theorem val_rest (X : List Int) (hX : X = [] ∨ ∃ c t, X = c :: t ∧ (c = 44 ∨ c = 43)) : ∀ (k : Nat) (l : List Int) (f b : Bool) (v : List Int), l.length ≤ k → valL f b l = some (v, []) → valL f b (l ++ X) = some (v, X) ∧ segB l = true := by
  intro k
  induction k with
  | zero =>
    intro l f b v hl h
    obtain rfl : l = [] := List.length_eq_zero_iff.1 (by omega)
    rw [val_nil] at h
    refine ⟨?_, rfl⟩
    rw [List.nil_append, val_end f b X (by
      rcases hX with rfl | ⟨c, t, rfl, hc⟩
      · exact .inl rfl
      · exact .inr (by simpa using hc))]
    cases b
    · simp at h; simp [h]
    · simp at h
  | succ k ih =>
    intro l f b v hl h
    match l with
    | [] => exact ih [] f b v (by simp) h
    | c :: t =>
      by_cases hs : c = 44 ∨ c = 43
      · rw [val_sep f b t hs] at h
        cases b <;> simp at h
      · by_cases h92 : c = 92
        · subst h92
          match t with
          | [] => rw [val_one] at h; cases h
          | d :: u =>
            cases he : esc d
            · match u with
              | [] => rw [val_two f b he] at h; cases h
              | e :: r =>
                rw [val_hex f b e r he] at h
                split at h
                · rename_i hh
                  cases hv : valL false false r with
                  | none => rw [hv] at h; cases h
                  | some y =>
                    rw [hv] at h
                    simp only [Option.map_some, Option.some.injEq, Prod.mk.injEq] at h
                    obtain ⟨h1, h2⟩ := h
                    obtain ⟨a1, a2⟩ := ih r false false y.1 (by simp at hl; omega) (by rw [hv, ← h2])
                    simp only [List.cons_append]
                    rw [val_hex f b e _ he, if_pos hh, a1, segB_esc]
                    have e1 : e ≠ 92 := by intro q; subst q; have := hh.2; revert this; decide
                    have e2 : e ≠ 44 ∧ e ≠ 43 := by
                      have := hh.2
                      refine ⟨fun q => ?_, fun q => ?_⟩ <;> (subst q; revert this; decide)
                    rw [segB_one e r e1, a2, decide_eq_true e2]
                    exact ⟨by simp [h1], rfl⟩
                · cases h
            · rw [val_esc f b u he] at h
              cases hv : valL false false u with
              | none => rw [hv] at h; cases h
              | some y =>
                rw [hv] at h
                simp only [Option.map_some, Option.some.injEq, Prod.mk.injEq] at h
                obtain ⟨h1, h2⟩ := h
                obtain ⟨a1, a2⟩ := ih u false false y.1 (by simp at hl; omega) (by rw [hv, ← h2])
                simp only [List.cons_append]
                rw [val_esc f b _ he, a1, segB_esc]
                exact ⟨by simp [h1], a2⟩
        · rw [val_bare f b t hs h92] at h
          split at h
          · cases h
          · rename_i hh
            cases hv : valL false (decide (c = 32)) t with
            | none => rw [hv] at h; cases h
            | some y =>
              rw [hv] at h
              simp only [Option.map_some, Option.some.injEq, Prod.mk.injEq] at h
              obtain ⟨h1, h2⟩ := h
              obtain ⟨a1, a2⟩ := ih t false _ y.1 (by simp at hl; omega) (by rw [hv, ← h2])
              simp only [List.cons_append]
              rw [val_bare f b _ hs h92, if_neg hh, a1, segB_one c t h92, a2, decide_eq_true (by omega)]
              exact ⟨by simp [h1], rfl⟩
/-- What is read with a rest behind it is read alone. -/
theorem val_alone : ∀ (k : Nat) (l : List Int) (f b : Bool) (v X : List Int), l.length ≤ k → valL f b l = some (v, X) → (X = [] ∨ ∃ c t, X = c :: t ∧ (c = 44 ∨ c = 43)) ∧ ∃ Q, l = Q ++ X ∧ valL f b Q = some (v, []) := by
  intro k
  induction k with
  | zero =>
    intro l f b v X hl h
    obtain rfl : l = [] := List.length_eq_zero_iff.1 (by omega)
    rw [val_nil] at h
    cases b
    · simp at h
      obtain ⟨h1, h2⟩ := h
      subst h1 h2
      exact ⟨.inl rfl, [], rfl, val_nil f false⟩
    · simp at h
  | succ k ih =>
    intro l f b v X hl h
    match l with
    | [] => exact ih [] f b v X (by simp) h
    | c :: t =>
      by_cases hs : c = 44 ∨ c = 43
      · rw [val_sep f b t hs] at h
        cases b
        · simp at h
          obtain ⟨h1, h2⟩ := h
          subst h1 h2
          exact ⟨.inr ⟨c, t, rfl, hs⟩, [], rfl, val_nil f false⟩
        · simp at h
      · by_cases h92 : c = 92
        · subst h92
          match t with
          | [] => rw [val_one] at h; cases h
          | d :: u =>
            cases he : esc d
            · match u with
              | [] => rw [val_two f b he] at h; cases h
              | e :: r =>
                rw [val_hex f b e r he] at h
                split at h
                · rename_i hh
                  cases hv : valL false false r with
                  | none => rw [hv] at h; cases h
                  | some y =>
                    rw [hv] at h
                    simp only [Option.map_some, Option.some.injEq, Prod.mk.injEq] at h
                    obtain ⟨h1, h2⟩ := h
                    obtain ⟨a0, Q, a1, a2⟩ := ih r false false y.1 y.2 (by simp at hl; omega) hv
                    subst h2
                    refine ⟨a0, 92 :: d :: e :: Q, by rw [a1]; rfl, ?_⟩
                    rw [val_hex f b e _ he, if_pos hh, a2]
                    simp [h1]
                · cases h
            · rw [val_esc f b u he] at h
              cases hv : valL false false u with
              | none => rw [hv] at h; cases h
              | some y =>
                rw [hv] at h
                simp only [Option.map_some, Option.some.injEq, Prod.mk.injEq] at h
                obtain ⟨h1, h2⟩ := h
                obtain ⟨a0, Q, a1, a2⟩ := ih u false false y.1 y.2 (by simp at hl; omega) hv
                subst h2
                refine ⟨a0, 92 :: d :: Q, by rw [a1]; rfl, ?_⟩
                rw [val_esc f b _ he, a2]
                simp [h1]
        · rw [val_bare f b t hs h92] at h
          split at h
          · cases h
          · rename_i hh
            cases hv : valL false (decide (c = 32)) t with
            | none => rw [hv] at h; cases h
            | some y =>
              rw [hv] at h
              simp only [Option.map_some, Option.some.injEq, Prod.mk.injEq] at h
              obtain ⟨h1, h2⟩ := h
              obtain ⟨a0, Q, a1, a2⟩ := ih t false _ y.1 y.2 (by simp at hl; omega) hv
              subst h2
              refine ⟨a0, c :: Q, by rw [a1]; rfl, ?_⟩
              rw [val_bare f b _ hs h92, if_neg hh, a2]
              simp [h1]
end Go.Proofs.YtnhojjheoafhaaaDoor
