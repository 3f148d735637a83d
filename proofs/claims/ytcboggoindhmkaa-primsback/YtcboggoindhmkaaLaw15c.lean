/- Stage 15: BerForms, over the contracts. -/
import Derived.Test.YtcboggoindhmkaaLaw15a
namespace Go.Proofs.Ytcboggoindhmkaa
open Go.RowKit

theorem takeH_err (inner : List Int → List El × Int) (s : List Int) (h : (takeH inner s).2.2 ≠ 0) : (takeH inner s).1 = el0 := by
  unfold takeH at h ⊢
  repeat' split
  all_goals first | rfl | skip
  · rename_i h1 h2 h3 h4 h5
    rw [if_neg h1, if_neg h2, if_neg h3, if_pos h4, if_neg h5] at h
    exact absurd rfl h
  · rename_i h1 h2 h3 h4
    rw [if_neg h1, if_neg h2, if_neg h3, if_neg h4] at h
    exact absurd rfl h
theorem decB_err (s : List Int) (i : Int) (h : (decB s i).2.2 ≠ 0) : (decB s i).1 = el0 ∧ (decB s i).2.1 = 0 := by
  unfold decB at h ⊢
  by_cases hb : i < 0 ∨ (s.length : Int) < i
  · rw [if_pos hb]; exact ⟨rfl, rfl⟩
  · rw [if_neg hb] at h ⊢
    simp only at h ⊢
    rw [if_neg h]
    rw [takeB_of] at h ⊢
    exact ⟨takeH_err _ _ h, rfl⟩
theorem decB_good (s : ByteArray) (at_ : Int) (h : (decB (nums s) at_).2.2 = 0) : ∃ i j : Nat, at_ = (i : Int) ∧ i + j ≤ s.size ∧ (decB (nums s) at_).2.1 = ((i + j : Nat) : Int) ∧ chkB (decB (nums s) at_).1 = 0 ∧ encS [(decB (nums s) at_).1] = s.extract i (i + j) ∧ encE [(decB (nums s) at_).1] = 0 ∧ deepE (decB (nums s) at_).1 13 ≤ 12 := by
  by_cases hb : at_ < 0 ∨ ((nums s).length : Int) < at_
  · unfold decB at h; rw [if_pos hb] at h; simp at h
  · rw [nums_length] at hb
    obtain ⟨i, rfl⟩ : ∃ i : Nat, at_ = i := ⟨at_.toNat, by omega⟩
    have hi : i ≤ s.size := by omega
    obtain ⟨e, j, x, hr⟩ : ∃ e j x, takeB 11 ((nums s).drop i) = (e, j, x) := ⟨_, _, _, rfl⟩
    have e1 : decB (nums s) (i : Int) = (e, (if x = 0 then (i : Int) + (j : Int) else 0), x) := by
      unfold decB
      rw [if_neg (by rw [nums_length]; exact hb), show ((i : Int)).toNat = i from rfl, hr]
    rw [e1] at h ⊢
    simp only at h ⊢
    subst h
    obtain ⟨hl, hj, hf, hz, hd⟩ := take_back 11 _ e j ((byt_nums s).drop i) hr
    rw [List.length_drop, nums_length] at hj
    have hck : chkB e = 0 := by
      unfold chkB
      rw [if_neg (by show ¬ 12 < deepE e 13; exact fun h => by have : deepE e 13 ≤ 12 := hd; omega), if_neg (by simp [hf]), if_neg (by omega)]
    have hcl : chkL [e] = 0 := by simp [chkL, hck]
    have hll : layE.L [e] = layE e := by simp [layE.L]
    obtain ⟨s1, s2⟩ := enc_ok (l := [e]) hcl (by rw [hll, lay_len e hf hz]; exact hz)
    refine ⟨i, j, rfl, by omega, ?_, hck, ?_, s2, hd⟩
    · rw [if_pos rfl]; omega
    · rw [s1, hll, hl, ← nums_extract, strOfNums_nums]
end Go.Proofs.Ytcboggoindhmkaa
