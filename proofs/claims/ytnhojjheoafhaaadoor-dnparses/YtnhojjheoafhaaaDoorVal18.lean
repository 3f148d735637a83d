/- A value's text, read byte by byte: the landed way is the plain one. -/
import Derived.Test.YtnhojjheoafhaaaDoorDh18
namespace Go.Proofs.YtnhojjheoafhaaaDoor
set_option maxRecDepth 100000
open Go.RowKit

theorem rd_size (l : List Int) (h : 0 < l.length) : ((rdB l).2 = 0 ∨ (rdB l).2 = 1 ∨ (rdB l).2 = 2 ∨ (rdB l).2 = 3) ∧ (rdB l).2 ≤ l.length ∧ ((rdB l).2 = 1 → (rdB l).1 = l.getD 0 0) := by
  unfold rdB
  repeat' split
  all_goals simp
  all_goals omega
theorem rd_in (l : List Int) (h : ∀ j, 0 ≤ l.getD j 0 ∧ l.getD j 0 < 256) : 0 ≤ (rdB l).1 ∧ (rdB l).1 < 256 := by
  unfold rdB
  split
  · split
    · simp
    · exact h 0
  · split
    · exact h 1
    · split
      · cases hg : hexG [l.getD 1 0, l.getD 2 0] 0 with
        | none => simp
        | some x => exact ⟨(hexG_in hg).1, (hexG_in hg).2.1⟩
      · simp
theorem hexG_yes {d e : Int} (h1 : unh d < 16) (h2 : unh e < 16) : hexG [d, e] 0 = some (16 * unh d + unh e) := by
  unfold hexG hexG hexG
  rw [if_pos h1, if_pos h2]
  simp
theorem hexG_no {d e : Int} (h : ¬ (unh d < 16 ∧ unh e < 16)) : hexG [d, e] 0 = none := by
  unfold hexG hexG hexG
  by_cases h1 : unh d < 16
  · rw [if_pos h1, if_neg (fun h2 => h ⟨h1, h2⟩)]
  · rw [if_neg h1]
/-- A step through a value's text. -/
theorem val_rd (f b : Bool) (l : List Int) (h : 0 < l.length) (h1 : ¬ (l.getD 0 0 = 44 ∨ l.getD 0 0 = 43)) :
    valL f b l = if (rdB l).2 = 0 ∨ (f = true ∧ (rdB l).2 = 1 ∧ ((rdB l).1 = 32 ∨ (rdB l).1 = 35)) then none
      else (valL false (decide ((rdB l).2 = 1 ∧ (rdB l).1 = 32)) (l.drop (rdB l).2.toNat)).map fun x => ((rdB l).1 :: x.1, x.2) := by
  match l, h with
  | c :: t, _ =>
    simp only [List.getD_cons_zero] at h1
    by_cases h92 : c = 92
    · subst h92
      match t with
      | [] => rw [val_one, rd_short (by rfl) (by simp) (by simp)]; simp
      | d :: u =>
        cases he : esc d
        · match u with
          | [] => rw [val_two f b he, rd_short (by rfl) (by simp) (by simp [he])]; simp
          | e :: r =>
            rw [val_hex f b e r he]
            by_cases hh : unh d < 16 ∧ unh e < 16
            · rw [if_pos hh, rd_hex (x := 16 * unh d + unh e) (by rfl) (by simp) (by simp [he]) (by simpa using hexG_yes hh.1 hh.2)]
              simp
            · rw [if_neg hh, rd_none (by rfl) (by simp) (by simp [he]) (by simpa using hexG_no hh)]
              simp
        · rw [val_esc f b u he, rd_esc (by rfl) (by simp) (by simp [he])]
          simp
    · rw [val_bare f b t h1 h92]
      cases hs : sgn c
      · rw [rd_bare (by simpa using h92) (by simpa using hs)]
        simp
      · rw [rd_sgn (by simpa using h92) (by simpa using hs)]
        simp
theorem val_end (f b : Bool) (l : List Int) (h : l.length = 0 ∨ l.getD 0 0 = 44 ∨ l.getD 0 0 = 43) : valL f b l = if b then none else some ([], l) := by
  cases l with
  | nil => exact val_nil f b
  | cons c t => exact val_sep f b t (by simpa using h)
/-- What readValue tells, against what is read. -/
def rvOk (l : List Int) (a r : ByteArray) (ok : Bool) : Prop := match valL true false l with
  | none => ok = false
  | some (v, x) => ok = true ∧ a = strOfNums v ∧ nums r = x
theorem rv_none {l : List Int} (h : valL true false l = none) (a r : ByteArray) : rvOk l a r false := by unfold rvOk; rw [h]
theorem rv_some {l v x : List Int} (h : valL true false l = some (v, x)) {r : ByteArray} (hr : nums r = x) : rvOk l (strOfNums v) r true := by unfold rvOk; rw [h]; exact ⟨rfl, rfl, hr⟩
/-- What was read so far, at the label. -/
def atL (l : List Int) (t : Nat) (bs : Bool) (out : List Int) : Prop := (valL (decide (t = 0)) bs (l.drop t)).map (fun x => (out ++ x.1, x.2)) = valL true false l
theorem atL_start (l : List Int) : atL l 0 false [] := by
  unfold atL
  rw [List.drop_zero, decide_eq_true rfl]
  cases valL true false l <;> rfl
theorem atL_end {l : List Int} {t : Nat} {bs : Bool} {out : List Int} (h : atL l t bs out) (he : l.length ≤ t ∨ l.getD t 0 = 44 ∨ l.getD t 0 = 43) : valL true false l = if bs then none else some (out, l.drop t) := by
  unfold atL at h
  rw [← h, val_end]
  · cases bs <;> simp
  · rcases he with he | he
    · exact .inl (by rw [List.length_drop]; omega)
    · exact .inr (by simpa [List.getD] using he)
theorem getD_drop (l : List Int) (t j : Nat) : (l.drop t).getD j 0 = l.getD (t + j) 0 := by simp [List.getD]
theorem atL_none {l : List Int} {t : Nat} {bs : Bool} {out : List Int} (h : atL l t bs out) (ht : t < l.length) (h1 : ¬ (l.getD t 0 = 44 ∨ l.getD t 0 = 43)) (h2 : (rdB (l.drop t)).2 = 0 ∨ (t = 0 ∧ (rdB (l.drop t)).2 = 1 ∧ ((rdB (l.drop t)).1 = 32 ∨ (rdB (l.drop t)).1 = 35))) : valL true false l = none := by
  unfold atL at h
  rw [← h, val_rd _ _ _ (by rw [List.length_drop]; omega) (by rw [getD_drop]; exact h1), if_pos]
  · rfl
  · rcases h2 with h2 | ⟨h2, h3⟩
    · exact .inl h2
    · exact .inr ⟨by simp [h2], h3⟩
theorem atL_step {l : List Int} {t : Nat} {bs : Bool} {out : List Int} (h : atL l t bs out) (ht : t < l.length) (h1 : ¬ (l.getD t 0 = 44 ∨ l.getD t 0 = 43)) (h2 : (rdB (l.drop t)).2 ≠ 0) (h3 : ¬ (t = 0 ∧ (rdB (l.drop t)).2 = 1 ∧ ((rdB (l.drop t)).1 = 32 ∨ (rdB (l.drop t)).1 = 35))) :
    atL l (t + (rdB (l.drop t)).2.toNat) (decide ((rdB (l.drop t)).2 = 1 ∧ (rdB (l.drop t)).1 = 32)) (out ++ [(rdB (l.drop t)).1]) := by
  have hz := (rd_size (l.drop t) (by rw [List.length_drop]; omega)).1
  unfold atL at h ⊢
  rw [← h, val_rd (decide (t = 0)) bs _ (by rw [List.length_drop]; omega) (by rw [getD_drop]; exact h1), if_neg, List.drop_drop, decide_eq_false (p := t + _ = 0) (by omega)]
  · generalize valL _ _ _ = o
    cases o <;> simp
  · intro h4
    rcases h4 with h4 | ⟨h4, h5⟩
    · exact h2 h4
    · exact h3 ⟨by simpa using h4, h5⟩
/-- All that is to be known of a byte that is read. -/
theorem rd_facts (s : ByteArray) (t : Nat) (bs : Bool) (out : List Int) (ha : atL (nums s) t bs out) (ht : t < s.size) (c : Int) (hc : (s[t].toNat : Int) = c) (h44 : ¬ c = 44) (h43 : ¬ c = 43) :
    ∃ B Z : Int, rdB ((nums s).drop t) = (B, Z) ∧ 0 ≤ B ∧ B < 256 ∧ 0 ≤ Z ∧ Z ≤ 3 ∧ (t : Int) + Z ≤ s.size ∧ ((Z = 0 ∨ (t = 0 ∧ Z = 1 ∧ (B = 32 ∨ B = 35))) → ∀ a r, rvOk (nums s) a r false) ∧
      (Z ≠ 0 → ¬ (t = 0 ∧ Z = 1 ∧ (B = 32 ∨ B = 35)) → ∀ T : Nat, (t : Int) + Z = T → atL (nums s) T ((Z == 1) && decide ((nums s).getD (T - 1) 0 = 32)) (out ++ [B])) := by
  have hnl := nums_length s
  have hat : (nums s).getD t 0 = c := by rw [nums_at s t ht]; exact hc
  obtain ⟨z1, z2, z3⟩ := rd_size ((nums s).drop t) (by rw [List.length_drop]; omega)
  rw [List.length_drop, hnl] at z2
  rw [getD_drop, Nat.add_zero] at z3
  obtain ⟨b1, b2⟩ := rd_in ((nums s).drop t) (fun j => by rw [getD_drop]; exact getD_nums s _)
  refine ⟨(rdB ((nums s).drop t)).1, (rdB ((nums s).drop t)).2, rfl, b1, b2, by omega, by omega, by omega, fun h a r => rv_none (atL_none ha (by omega) (by rw [hat]; omega) h) a r, fun h2 h3 T hT => ?_⟩
  have := atL_step ha (by omega) (by rw [hat]; omega) h2 h3
  generalize (rdB ((nums s).drop t)).1 = B at *
  generalize (rdB ((nums s).drop t)).2 = Z at *
  have e0 : t + Z.toNat = T := by omega
  rw [e0] at this
  by_cases h1 : Z = 1
  · have e1 : T - 1 = t := by omega
    rw [e1, ← z3 h1, h1]
    rw [h1] at this
    simpa using this
  · rw [decide_eq_false (fun h => h1 h.1)] at this
    rw [beq_eq_false_iff_ne.2 h1]
    exact this
end Go.Proofs.YtnhojjheoafhaaaDoor
