/- The document's Encode of layer 15. -/
import Derived.Test.YtcboggoindhmkaaRLay15
namespace Go.Proofs.Ytcboggoindhmkaa
open Go.RowKit

/-- The first error. -/
def chkL : List El → Int
  | [] => 0
  | e :: t => if chkB e = 0 then chkL t else chkB e
def encS (l : List El) : ByteArray := if chkL l = 0 ∧ (layE.L l).length ≤ 4000 then strOfNums (layE.L l) else strOfNums []
def encE (l : List El) : Int := if chkL l = 0 then (if (layE.L l).length ≤ 4000 then 0 else 3) else chkL l
theorem chkB_ok {e : El} (h : chkB e = 0) : deepE e 13 ≤ 12 ∧ fineE e = true ∧ sizeE e ≤ 4000 := by
  unfold chkB at h
  split at h
  · omega
  · split at h
    · omega
    · split at h
      · omega
      · rename_i h1 h2 h3
        exact ⟨by omega, by simpa using h2, by omega⟩
theorem chkL_drop (l : List El) (i : Nat) (h : i < l.length) : chkL (l.drop i) = if chkB (l.getD i el0) = 0 then chkL (l.drop (i + 1)) else chkB (l.getD i el0) := by rw [drop_cons l i h]; simp only [chkL]
theorem chkL_mem : ∀ (l : List El), chkL l = 0 → ∀ e, e ∈ l → chkB e = 0
  | a :: t, h, e, he => by
    simp only [chkL] at h
    split at h
    · rename_i h1
      rcases List.mem_cons.1 he with rfl | he
      · exact h1
      · exact chkL_mem t h e he
    · rename_i h1; exact absurd h h1
theorem layL_take_le (l : List El) (i : Nat) : (layE.L (l.take i)).length ≤ (layE.L l).length := by
  have e1 : layE.L l = layE.L (l.take i) ++ layE.L (l.drop i) := by rw [← layL_app, List.take_append_drop]
  have e2 := congrArg List.length e1
  rw [List.length_append] at e2
  omega
theorem enc_bad {l : List El} (h : chkL l ≠ 0) : encS l = strOfNums [] ∧ encE l = chkL l := by
  unfold encS encE
  rw [if_neg (fun h2 => h h2.1), if_neg h]
  exact ⟨rfl, rfl⟩
theorem enc_big {l : List El} (h : chkL l = 0) (h2 : ¬ (layE.L l).length ≤ 4000) : encS l = strOfNums [] ∧ encE l = 3 := by
  unfold encS encE
  rw [if_neg (fun h3 => h2 h3.2), if_pos h, if_neg h2]
  exact ⟨rfl, rfl⟩
theorem enc_ok {l : List El} (h : chkL l = 0) (h2 : (layE.L l).length ≤ 4000) : encS l = strOfNums (layE.L l) ∧ encE l = 0 := by
  unfold encS encE
  rw [if_pos ⟨h, h2⟩, if_pos h, if_pos h2]
  exact ⟨rfl, rfl⟩
end Go.Proofs.Ytcboggoindhmkaa
