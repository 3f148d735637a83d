/- The landed small of layer 24. -/
import Derived.Test.YthbldkkjjjmegaaGreatDoorM12
namespace Go.Proofs.YthbldkkjjjmegaaGreatDoor
set_option maxRecDepth 100000
open Go.RowKit

set_option maxHeartbeats 3200000 in
theorem small24_land (s : ByteArray) (w : World) (hs : s.size ≤ 100000) : Calls Tryz.prog 63 #[.string s] w fun e w' => e = .returned (.string (strOfNums ((nums s).map smlC))) ∧ Below w.heap.size w w' := by
  obtain ⟨w1, cap1, hcv, hsb, hb⟩ := bytes_sb s w
  have HSB := hide hsb
  have hnl := nums_length s
  clear hsb
  go_enter Tryz.func63, Tryz.ntmps63
  go_wp2
  go_loopw [9] (fun i wr => ∃ k : Nat, k ≤ s.size ∧ i = .int .i64 (k : Int) ∧ Hid (Sb w.heap.size (((nums s).take k).map smlC ++ (nums s).drop k) wr) ∧ Below w.heap.size w wr) (fun i _ => s.size - (intOf i).toNat)
  case atStart => exact ⟨0, Nat.zero_le _, rfl, by simpa using HSB, hb⟩
  case round =>
    obtain ⟨k, hk, rfl, HX, hbr⟩ := hrel
    by_cases hlt : k < s.size
    · have hzl : (k : Int) < (s.size : Int) := by omega
      have hz0 : (0 : Int) ≤ (k : Int) := by omega
      obtain ⟨st1, st2⟩ := sml_step (nums s) k (by omega)
      obtain ⟨q1, f1⟩ := unhide HX k (by rw [sml_len _ _ (by omega)]; omega)
      rw [st1] at q1
      have cb := getD_nums s k
      have HP : Hid (Sb w.heap.size (((nums s).take (k + 1)).map smlC ++ (nums s).drop (k + 1)) (wr.setCell ⟨w.heap.size, k, none⟩ (.int .u8 (smlC ((nums s).getD k 0))))) := by
        have := (unhide HX).put (k := k) (by rw [sml_len _ _ (by omega)]; omega) (smlC ((nums s).getD k 0))
        rw [st2] at this
        exact this
      have HQ : Hid (smlC ((nums s).getD k 0) = (nums s).getD k 0 → Sb w.heap.size (((nums s).take (k + 1)).map smlC ++ (nums s).drop (k + 1)) wr) := fun h => by
        have := unhide HX
        have e : ((nums s).take k).map smlC ++ (nums s).drop k = ((nums s).take (k + 1)).map smlC ++ (nums s).drop (k + 1) := by
          rw [← st2, h, ← st1, List.getD, List.getElem?_eq_getElem (by rw [sml_len _ _ (by omega)]; omega)]
          simp
        rw [e] at this
        exact this
      clear st1 st2 HX
      generalize (nums s).getD k 0 = c at *
      by_cases c1 : 65 ≤ c
      · by_cases c2 : c ≤ 90
        · have e : smlC c = c + 32 := by unfold smlC; rw [if_pos ⟨c1, c2⟩]
          rw [e] at HP
          have wc : IntKind.u8.wrap (c + 32) = c + 32 := u8w24 (by omega) (by omega)
          clear HQ e
          go_wp2
          go_roundw
          case rel => exact ⟨k + 1, by omega, by go_num, unhide HP, hbr.setCell (Nat.le_refl _) _⟩
          case measure => simp [intOf]; omega
        · have e : smlC c = c := by unfold smlC; rw [if_neg (by omega)]
          have HE := hide (unhide HQ e)
          clear HQ HP e
          go_wp2
          go_roundw
          case rel => exact ⟨k + 1, by omega, by go_num, unhide HE, hbr⟩
          case measure => simp [intOf]; omega
      · have e : smlC c = c := by unfold smlC; rw [if_neg (by omega)]
        have HE := hide (unhide HQ e)
        clear HQ HP e
        go_wp2
        go_roundw
        case rel => exact ⟨k + 1, by omega, by go_num, unhide HE, hbr⟩
        case measure => simp [intOf]; omega
    · have hzl : ¬ (k : Int) < (s.size : Int) := by omega
      have h2 := unhide HX
      rw [List.take_of_length_le (by omega), List.drop_eq_nil_of_le (by omega), List.append_nil] at h2
      have cv := h2.conv (cap := cap1)
      rw [List.length_map, hnl] at cv
      clear h2
      go_wp2
      go_ret
      exact ⟨rfl, hbr⟩
end Go.Proofs.YthbldkkjjjmegaaGreatDoor
