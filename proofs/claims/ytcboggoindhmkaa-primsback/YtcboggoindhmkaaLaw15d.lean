/- Stage 15: BerBack, over the contracts. -/
import Derived.Test.YtcboggoindhmkaaLaw15c
namespace Go.Proofs.Ytcboggoindhmkaa
open Go.RowKit

theorem nums_app (a b : ByteArray) : nums (a ++ b) = nums a ++ nums b := by simp [nums]
theorem enc_bad1 {e : El} (h : encE [e] ≠ 0) : encS [e] = ⟨#[]⟩ ∧ encE [e] = chkB e := by
  by_cases hc : chkB e = 0
  · obtain ⟨_, hf, hz⟩ := chkB_ok hc
    have hcl : chkL [e] = 0 := by simp [chkL, hc]
    have hll : layE.L [e] = layE e := by simp [layE.L]
    exact absurd (enc_ok (l := [e]) hcl (by rw [hll, lay_len e hf hz]; exact hz)).2 h
  · have hcl : chkL [e] = chkB e := by simp [chkL, hc]
    unfold encS encE
    rw [hcl, if_neg (fun h => hc h.1), if_neg hc]
    exact ⟨by rfl, rfl⟩
theorem enc_good1 {e : El} (h : encE [e] = 0) : chkB e = 0 ∧ nums (encS [e]) = layE e ∧ (encS [e]).size ≤ 4000 ∧ ∀ r, takeB 11 (layE e ++ r) = (e, (layE e).length, 0) := by
  by_cases hc : chkB e = 0
  · obtain ⟨hd, hf, hz⟩ := chkB_ok hc
    have hcl : chkL [e] = 0 := by simp [chkL, hc]
    have hll : layE.L [e] = layE e := by simp [layE.L]
    have hes := (enc_ok (l := [e]) hcl (by rw [hll, lay_len e hf hz]; exact hz)).1
    have hn : nums (encS [e]) = layE e := by rw [hes, hll]; exact nums_strOfNums _ (lay_byte e hf hz)
    refine ⟨hc, hn, ?_, fun r => take_lay e 11 r hf hz hd⟩
    rw [← nums_length, hn, lay_len e hf hz]; exact hz
  · have hcl : chkL [e] = chkB e := by simp [chkL, hc]
    unfold encE at h
    rw [hcl, if_neg hc] at h
    exact absurd h hc
theorem dec_back (e : El) (bf bh : ByteArray) (h : encE [e] = 0) : decB (nums (bf ++ encS [e] ++ bh)) (bf.size : Int) = (e, ((bf.size + (encS [e]).size : Nat) : Int), 0) := by
  obtain ⟨_, hn, _, ht⟩ := enc_good1 h
  have hl : (layE e).length = (encS [e]).size := by rw [← hn, nums_length]
  unfold decB
  rw [if_neg (by rw [nums_length]; simp [ByteArray.size_append]; omega), show ((bf.size : Int)).toNat = bf.size from rfl, nums_app, nums_app, hn, List.append_assoc, ← nums_length bf, List.drop_left, ht]
  simp only [if_true]
  refine Prod.ext rfl (Prod.ext ?_ rfl)
  show ((nums bf).length : Int) + ((layE e).length : Int) = (((nums bf).length + (encS [e]).size : Nat) : Int)
  rw [hl]; omega
end Go.Proofs.Ytcboggoindhmkaa
