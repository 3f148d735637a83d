/- The document's Encode of layer 15. -/
import Derived.Test.YtlhkplhfofkbbaaRLay15
namespace Go.Proofs.Ytlhkplhfofkbbaa
open Go.RowKit

/-- The first error. -/
def chkL : List El → Int
  | [] => 0
  | e :: t => if chkB e = 0 then chkL t else chkB e
def encS (l : List El) : ByteArray := if chkL l = 0 ∧ (layE.L l).length ≤ 4000 then strOfNums (layE.L l) else strOfNums []
def encE (l : List El) : Int := if chkL l = 0 then (if (layE.L l).length ≤ 4000 then 0 else 3) else chkL l
theorem chkB_ok {e : El} (h : chkB e = 0) : deepE e 13 ≤ 12 ∧ fineE e = true ∧ sizeE e ≤ 4000 := by
  unfold chkB at h
  split at h
  · omega
  · split at h
    · omega
    · split at h
      · omega
      · rename_i h1 h2 h3
        exact ⟨by omega, by simpa using h2, by omega⟩
theorem chkL_drop (l : List El) (i : Nat) (h : i < l.length) : chkL (l.drop i) = if chkB (l.getD i el0) = 0 then chkL (l.drop (i + 1)) else chkB (l.getD i el0) := by rw [drop_cons l i h]; simp only [chkL]
theorem chkL_mem : ∀ (l : List El), chkL l = 0 → ∀ e, e ∈ l → chkB e = 0
  | a :: t, h, e, he => by
    simp only [chkL] at h
    split at h
    · rename_i h1
      rcases List.mem_cons.1 he with rfl | he
      · exact h1
      · exact chkL_mem t h e he
    · rename_i h1; exact absurd h h1
theorem layL_take_le (l : List El) (i : Nat) : (layE.L (l.take i)).length ≤ (layE.L l).length := by
  have e1 : layE.L l = layE.L (l.take i) ++ layE.L (l.drop i) := by rw [← layL_app, List.take_append_drop]
  have e2 := congrArg List.length e1
  rw [List.length_append] at e2
  omega
theorem enc_bad {l : List El} (h : chkL l ≠ 0) : encS l = strOfNums [] ∧ encE l = chkL l := by
  unfold encS encE
  rw [if_neg (fun h2 => h h2.1), if_neg h]
  exact ⟨rfl, rfl⟩
theorem enc_big {l : List El} (h : chkL l = 0) (h2 : ¬ (layE.L l).length ≤ 4000) : encS l = strOfNums [] ∧ encE l = 3 := by
  unfold encS encE
  rw [if_neg (fun h3 => h2 h3.2), if_pos h, if_neg h2]
  exact ⟨rfl, rfl⟩
theorem enc_ok {l : List El} (h : chkL l = 0) (h2 : (layE.L l).length ≤ 4000) : encS l = strOfNums (layE.L l) ∧ encE l = 0 := by
  unfold encS encE
  rw [if_pos ⟨h, h2⟩, if_pos h, if_pos h2]
  exact ⟨rfl, rfl⟩
set_option maxHeartbeats 3200000 in
theorem rencode15_any (l : List El) (v : Value) (w : World) (hV : ElsV w v l) : Calls Try.prog 16 #[v] w fun r w' => r = .returned (.tuple #[.string (encS l), .int .i64 (encE l)]) ∧ Gr w w' := by
  obtain ⟨ad, cap, rfl, hn, hc⟩ := hV
  have HL := hide hc
  clear hc
  go_enter Try.func16, Try.ntmps16
  go_wp2
  go_loopw [4] (fun vi wr => ∃ i : Nat, i ≤ l.length ∧ vi = .int .i64 (i : Int) ∧ Hid (chkL l = chkL (l.drop i)) ∧ Gr w wr) (fun i _ => l.length - (intOf i).toNat)
  case atStart => exact ⟨0, Nat.zero_le _, rfl, rfl, Gr.refl _⟩
  case round =>
    obtain ⟨i, hi, rfl, HB, hnx⟩ := hrel
    by_cases hlt : i < l.length
    · have hzl : (i : Int) < (l.length : Int) := by omega
      have hz0 : (0 : Int) ≤ (i : Int) := by omega
      obtain ⟨g, off, rfl, hl⟩ := (unhide HL).resolve_left (by omega)
      obtain ⟨a0, a1, a2, a3, a4, q0, q1, q2, q3, q4, hv⟩ := hl.get i hlt
      have k0 := hnx.cell q0
      have k1 := hnx.cell q1
      have k2 := hnx.cell q2
      have k3 := hnx.cell q3
      have k4 := hnx.cell q4
      have CI := rcheck15_any _ _ wr (hv.grow hnx.below)
      have HS := hide (chkL_drop l i hlt)
      clear q0 q1 q2 q3 q4 hv hl
      generalize chkB (l.getD i el0) = x at *
      by_cases x0 : x = 0
      · subst x0
        go_wp2_with (go_at_call 12; refine CI.mono ?_; rintro e w2 ⟨rfl, g2⟩)
        go_roundw
        case rel => exact ⟨i + 1, by omega, by go_num, (by show _ = _; rw [unhide HB, unhide HS]; simp), hnx.trans g2⟩
        case measure => simp [intOf]; omega
      · have z0 : (x == 0) = false := by simpa using x0
        have HX : Hid (chkL l = x) := by show _ = _; rw [unhide HB, unhide HS, if_neg x0]
        go_wp2_with (go_at_call 12; refine CI.mono ?_; rintro e w2 ⟨rfl, g2⟩)
        go_ret2
        obtain ⟨e1, e2⟩ := enc_bad (l := l) (by rw [unhide HX]; exact x0)
        exact ⟨ret_se (by rw [e1]; rfl) (by rw [e2, unhide HX]), hnx.trans g2⟩
    · have hzl : ¬ (i : Int) < (l.length : Int) := by omega
      have h0 : chkL l = 0 := by rw [unhide HB, List.drop_eq_nil_of_le (by omega)]; rfl
      have HOK := hide (chkL_mem l h0)
      have H0 := hide h0
      clear h0 HB
      go_wp2
      go_loopw [6, 7] (fun vo vi ws => ∃ j : Nat, j ≤ l.length ∧ vi = .int .i64 (j : Int) ∧ vo = .string (strOfNums (layE.L (l.take j))) ∧ (layE.L (l.take j)).length ≤ 4000 ∧ Gr w ws) (fun _ j _ => l.length - (intOf j).toNat)
      case atStart => exact ⟨0, Nat.zero_le _, rfl, (by simp [layE.L]; rfl), (by simp [layE.L]), hnx⟩
      case round =>
        rename_i ws _
        obtain ⟨j, hj, rfl, rfl, h4, hnw⟩ := hrel
        by_cases hlt2 : j < l.length
        · have hzl2 : (j : Int) < (l.length : Int) := by omega
          have hz0 : (0 : Int) ≤ (j : Int) := by omega
          obtain ⟨g, off, rfl, hl⟩ := (unhide HL).resolve_left (by omega)
          obtain ⟨a0, a1, a2, a3, a4, q0, q1, q2, q3, q4, hv⟩ := hl.get j hlt2
          have k0 := hnw.cell q0
          have k1 := hnw.cell q1
          have k2 := hnw.cell q2
          have k3 := hnw.cell q3
          have k4 := hnw.cell q4
          obtain ⟨_, f1, f2⟩ := chkB_ok (unhide HOK _ (getD_mem l j hlt2))
          have CI := rlay_any _ _ _ (hv.grow hnw.below) f1 f2
          have y2 := lay_len _ f1 f2
          have HS := hide (layL_take l j hlt2)
          have hsz : (strOfNums (layE.L (l.take j))).size + (strOfNums (layE (l.getD j el0))).size ≤ 9223372036854775807 := by rw [strOfNums_size, strOfNums_size]; omega
          have hsz2 : (strOfNums (layE.L (l.take j)) ++ strOfNums (layE (l.getD j el0))).size = (layE.L (l.take (j + 1))).length := by rw [strOfNums_app, ← layL_take l j hlt2, strOfNums_size]
          clear q0 q1 q2 q3 q4 hv hl f1 f2 y2
          generalize layE (l.getD j el0) = X at *
          by_cases h5 : (layE.L (l.take (j + 1))).length ≤ 4000
          · have z5 : ¬ 4000 < (((layE.L (l.take (j + 1))).length : Nat) : Int) := by omega
            go_wp2_with (go_at_call 30; refine CI.mono ?_; rintro e w2 ⟨rfl, g2⟩)
            go_roundw
            case rel => exact ⟨j + 1, by omega, by go_num, (by rw [unhide HS, strOfNums_app]), h5, hnw.trans g2⟩
            case measure => simp [intOf]; omega
          · have z5 : 4000 < (((layE.L (l.take (j + 1))).length : Nat) : Int) := by omega
            have hbig : ¬ (layE.L l).length ≤ 4000 := by have := layL_take_le l (j + 1); omega
            go_wp2_with (go_at_call 30; refine CI.mono ?_; rintro e w2 ⟨rfl, g2⟩)
            go_ret2
            obtain ⟨e1, e2⟩ := enc_big (unhide H0) hbig
            exact ⟨ret_se (by rw [e1]; rfl) e2.symm, hnw.trans g2⟩
        · have hzl2 : ¬ (j : Int) < (l.length : Int) := by omega
          go_wp2
          go_ret2
          have ej : l.take j = l := List.take_of_length_le (by omega)
          rw [ej] at h4 ⊢
          obtain ⟨e1, e2⟩ := enc_ok (unhide H0) h4
          exact ⟨ret_se e1.symm e2.symm, hnw⟩
end Go.Proofs.Ytlhkplhfofkbbaa
