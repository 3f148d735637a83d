/- The landed small of layer 18. -/
import Derived.Test.YtnhojjheoafhaaaDoorDj18
namespace Go.Proofs.YtnhojjheoafhaaaDoor
set_option maxRecDepth 100000
open Go.RowKit

/-- Bytes in a block that may be written. -/
def Sb (g : Nat) (X : List Int) (w : World) : Prop := ∀ j, j < X.length → w.cell? ⟨g, j, none⟩ = some (.int .u8 (X.getD j 0)) ∧ w.frozen? ⟨g, j, none⟩ = false
theorem bytes_sb (t : ByteArray) (w : World) : ∃ (w1 : World) (cap1 : Nat), (convert 9 55 (.string t)).run Tryd.prog w = .ok (.slice (some ⟨w.heap.size, 0, none⟩) t.size cap1) w1 ∧ Sb w.heap.size (nums t) w1 ∧ Below w.heap.size w w1 := by
  refine ⟨_, _, run_bytes_of_string w 9 55 5 t Tryd.underlying9 Tryd.underlying55 Tryd.underlying5, ?_, ((Below.refl _ _).drew).alloc (Nat.le_refl _) _⟩
  intro j hj
  rw [nums_length] at hj
  refine ⟨?_, ?_⟩
  · have := World.cell?_alloc_mark w.drew (bytesRow t (grownCap w t.size 0 5)) 5 ((bytesRow t (grownCap w t.size 0 5)).size, (bytesRow t (grownCap w t.size 0 5)).size + 1) j
    refine this.trans ?_
    rw [bytesRow_at t _ j (by simpa using hj), nums_at t j hj]
    rfl
  · have hz : t.size ≤ (bytesRow t (grownCap w t.size 0 5)).size := by
      have := bytesRow_at t (grownCap w t.size 0 5) (t.size - 1) (by simp; omega)
      have := (Array.getElem?_eq_some_iff.1 this).1
      omega
    have hh := heap_new w.drew (.cells (bytesRow t (grownCap w t.size 0 5)) 5 ((bytesRow t (grownCap w t.size 0 5)).size, (bytesRow t (grownCap w t.size 0 5)).size + 1))
    have hw : w.drew.heap.size = w.heap.size := rfl
    rw [hw] at hh
    generalize bytesRow t (grownCap w t.size 0 5) = R at *
    unfold World.frozen?
    simp only [hh]
    rw [decide_eq_false (by omega)]
    rfl
theorem Sb.put {g : Nat} {X : List Int} {w : World} {k : Nat} (h : Sb g X w) (hk : k < X.length) (y : Int) : Sb g (X.set k y) (w.setCell ⟨g, k, none⟩ (.int .u8 y)) := by
  intro j hj
  rw [List.length_set] at hj
  obtain ⟨c, f⟩ := h j hj
  refine ⟨?_, by rw [World.frozen?_setCell]; exact f⟩
  by_cases e : j = k
  · subst e
    rw [World.cell?_setCell_same _ _ _ c]
    simp [List.getD, hj]
  · rw [World.cell?_setCell_other _ _ _ _ (by intro h; injection h with _ h2; exact e h2.symm), c]
    simp [List.getD, List.getElem?_set_ne (fun h => e h.symm)]
theorem Sb.conv {g cap : Nat} {X : List Int} {w : World} (h : Sb g X w) : (convert 55 9 (.slice (some ⟨g, 0, none⟩) X.length cap)).run Tryd.prog w = .ok (.string (strOfNums X)) w := by
  refine run_convert_bytes_arg w 55 5 Tryd.underlying55 Tryd.underlying5 g 0 X.length cap X rfl ?_ 9 Tryd.underlying9
  intro i hi
  rw [Nat.zero_add]
  exact (h i hi).1
theorem sml_step (l : List Int) (k : Nat) (h : k < l.length) : ((l.take k).map smlC ++ l.drop k).getD k 0 = l.getD k 0 ∧ ((l.take k).map smlC ++ l.drop k).set k (smlC (l.getD k 0)) = (l.take (k + 1)).map smlC ++ l.drop (k + 1) := by
  have e : ((l.take k).map smlC).length = k := by simp; omega
  refine ⟨?_, ?_⟩
  · rw [List.getD, List.getElem?_append_right (by omega), e, Nat.sub_self]
    simp [List.getD]
  · rw [List.set_append_right _ _ (by omega), e, Nat.sub_self, drop_consI l k h, List.set_cons_zero, List.take_succ_eq_append_getElem h, List.map_append, List.append_assoc]
    simp only [List.getD, List.getElem?_eq_getElem h, Option.getD_some, List.map_cons, List.map_nil, List.singleton_append]
theorem sml_len (l : List Int) (k : Nat) (h : k ≤ l.length) : ((l.take k).map smlC ++ l.drop k).length = l.length := by simp; omega
set_option maxHeartbeats 3200000 in
theorem small_any (s : ByteArray) (w : World) (hs : s.size ≤ 100000) : Calls Tryd.prog 29 #[.string s] w fun e w' => e = .returned (.string (strOfNums ((nums s).map smlC))) ∧ Below w.heap.size w w' := by
  obtain ⟨w1, cap1, hcv, hsb, hb⟩ := bytes_sb s w
  have HSB := hide hsb
  have hnl := nums_length s
  clear hsb
  go_enter Tryd.func29, Tryd.ntmps29
  go_wp2
  go_loopw [9] (fun i wr => ∃ k : Nat, k ≤ s.size ∧ i = .int .i64 (k : Int) ∧ Hid (Sb w.heap.size (((nums s).take k).map smlC ++ (nums s).drop k) wr) ∧ Below w.heap.size w wr) (fun i _ => s.size - (intOf i).toNat)
  case atStart => exact ⟨0, Nat.zero_le _, rfl, by simpa using HSB, hb⟩
  case round =>
    obtain ⟨k, hk, rfl, HX, hbr⟩ := hrel
    by_cases hlt : k < s.size
    · have hzl : (k : Int) < (s.size : Int) := by omega
      have hz0 : (0 : Int) ≤ (k : Int) := by omega
      obtain ⟨st1, st2⟩ := sml_step (nums s) k (by omega)
      obtain ⟨q1, f1⟩ := unhide HX k (by rw [sml_len _ _ (by omega)]; omega)
      rw [st1] at q1
      have cb := getD_nums s k
      have HP : Hid (Sb w.heap.size (((nums s).take (k + 1)).map smlC ++ (nums s).drop (k + 1)) (wr.setCell ⟨w.heap.size, k, none⟩ (.int .u8 (smlC ((nums s).getD k 0))))) := by
        have := (unhide HX).put (k := k) (by rw [sml_len _ _ (by omega)]; omega) (smlC ((nums s).getD k 0))
        rw [st2] at this
        exact this
      have HQ : Hid (smlC ((nums s).getD k 0) = (nums s).getD k 0 → Sb w.heap.size (((nums s).take (k + 1)).map smlC ++ (nums s).drop (k + 1)) wr) := fun h => by
        have := unhide HX
        have e : ((nums s).take k).map smlC ++ (nums s).drop k = ((nums s).take (k + 1)).map smlC ++ (nums s).drop (k + 1) := by
          rw [← st2, h, ← st1, List.getD, List.getElem?_eq_getElem (by rw [sml_len _ _ (by omega)]; omega)]
          simp
        rw [e] at this
        exact this
      clear st1 st2 HX
      generalize (nums s).getD k 0 = c at *
      by_cases c1 : 65 ≤ c
      · by_cases c2 : c ≤ 90
        · have e : smlC c = c + 32 := by unfold smlC; rw [if_pos ⟨c1, c2⟩]
          rw [e] at HP
          have wc : IntKind.u8.wrap (c + 32) = c + 32 := u8w (by omega) (by omega)
          clear HQ e
          go_wp2
          go_roundw
          case rel => exact ⟨k + 1, by omega, by go_num, unhide HP, hbr.setCell (Nat.le_refl _) _⟩
          case measure => simp [intOf]; omega
        · have e : smlC c = c := by unfold smlC; rw [if_neg (by omega)]
          have HE := hide (unhide HQ e)
          clear HQ HP e
          go_wp2
          go_roundw
          case rel => exact ⟨k + 1, by omega, by go_num, unhide HE, hbr⟩
          case measure => simp [intOf]; omega
      · have e : smlC c = c := by unfold smlC; rw [if_neg (by omega)]
        have HE := hide (unhide HQ e)
        clear HQ HP e
        go_wp2
        go_roundw
        case rel => exact ⟨k + 1, by omega, by go_num, unhide HE, hbr⟩
        case measure => simp [intOf]; omega
    · have hzl : ¬ (k : Int) < (s.size : Int) := by omega
      have h2 := unhide HX
      rw [List.take_of_length_le (by omega), List.drop_eq_nil_of_le (by omega), List.append_nil] at h2
      have cv := h2.conv (cap := cap1)
      rw [List.length_map, hnl] at cv
      clear h2
      go_wp2
      go_ret
      exact ⟨rfl, hbr⟩
end Go.Proofs.YtnhojjheoafhaaaDoor
