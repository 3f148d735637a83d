/- The program's Encode of layer 15. -/
import Derived.Test.YtcboggoindhmkaaDi15
namespace Go.Proofs.Ytcboggoindhmkaa
open Go.RowKit

set_option maxHeartbeats 3200000 in
theorem pencode_any (l : List El) (v : Value) (w : World) (hV : ElsV w v l) : Calls Try.prog 27 #[v] w fun r w' => r = .returned (.tuple #[.string (encS l), .int .i64 (encE l)]) ∧ Below w.heap.size w w' := by
  obtain ⟨i0, hi, hz0, hz1, hz2⟩ := info_parts u8_info
  have HV := hide hV
  obtain ⟨ad, cap, rfl, hn, hc⟩ := hV
  have HL := hide hc
  clear hc
  go_enter Try.func27, Try.ntmps27
  go_wp2
  go_loopw [10] (fun vi wr => ∃ i : Nat, i ≤ l.length ∧ vi = .int .i64 (i : Int) ∧ Hid (chkL l = chkL (l.drop i)) ∧ Gr w wr) (fun i _ => l.length - (intOf i).toNat)
  case atStart => exact ⟨0, Nat.zero_le _, rfl, rfl, Gr.refl _⟩
  case round =>
    obtain ⟨i, hile, rfl, HB, hnx⟩ := hrel
    by_cases hlt : i < l.length
    · have hzl : (i : Int) < (l.length : Int) := by omega
      have hz0' : (0 : Int) ≤ (i : Int) := by omega
      obtain ⟨g, off, rfl, hl⟩ := (unhide HL).resolve_left (by omega)
      obtain ⟨ad', cap', q0, q1, q2, q3, q4, hv⟩ := hl.at i hlt
      have k0 := hnx.cell q0
      have k1 := hnx.cell q1
      have k2 := hnx.cell q2
      have k3 := hnx.cell q3
      have k4 := hnx.cell q4
      have CI := pcheck_any _ _ (wr.alloc (.cells #[.int .i64 (l.getD i el0).cls, .bool (l.getD i el0).made, .int .i64 (l.getD i el0).num, .string (l.getD i el0).con, .slice ad' (l.getD i el0).els.length cap'] 26)) (hv.grow (hnx.alloc _).below)
      have HS := hide (chkL_drop l i hlt)
      clear q0 q1 q2 q3 q4 hv hl HL
      generalize l.getD i el0 = e at *
      generalize chkB e = x at *
      by_cases hx : x = 0
      · subst hx
        go_wp2_with (go_at_call 35; refine CI.mono ?_; rintro e w2 ⟨rfl, g2⟩)
        go_roundw
        case rel => exact ⟨i + 1, by omega, by go_num, (by show _ = _; rw [unhide HB, unhide HS]; rfl), (hnx.alloc _).trans g2⟩
        case measure => simp [intOf]; omega
      · have zx : (x == 0) = false := by simpa using hx
        have HX : Hid (chkL l = x) := by show _ = _; rw [unhide HB, unhide HS, if_neg hx]
        have HE : Hid (encS l = strOfNums [] ∧ encE l = x) := by
          have := enc_bad (l := l) (by rw [unhide HX]; exact hx)
          rw [unhide HX] at this
          exact this
        clear HB HS HX HV
        go_wp2_with (go_at_call 35; refine CI.mono ?_; rintro e w2 ⟨rfl, g2⟩)
        go_ret2
        exact ⟨ret_se ((unhide HE).1.trans rfl).symm (unhide HE).2.symm, ((hnx.alloc _).trans g2).below⟩
    · have hzl : ¬ (i : Int) < (l.length : Int) := by omega
      have h0 : chkL l = 0 := by rw [unhide HB, List.drop_eq_nil_of_le (by omega)]; rfl
      have hall : ∀ e, e ∈ l → fineE e = true ∧ sizeE e ≤ 4000 := fun e he => ⟨(chkB_ok (chkL_mem l h0 e he)).2.1, (chkB_ok (chkL_mem l h0 e he)).2.2⟩
      have hsum : (layE.L l).length = sumS l := layL_len_of l fun e he => lay_len e (hall e he).1 (hall e he).2
      have CZ := size_any l (fun e he => (hall e he).1) _ wr ((unhide HV).below hnx.below)
      by_cases h4 : sumS l ≤ 4000
      · have hz : szL l = sumS l := by unfold szL; rw [if_pos h4]
        rw [hz] at CZ
        have HE := hide (enc_ok h0 (by rw [hsum]; exact h4))
        have CL := hide (fun (v : Value) (w1 : World) (hO : Ob w.heap.size v [] w1) (hb : Below w.heap.size w w1) => lay_any l w _ v [] w1 (unhide HV) hall hO hb (by rw [hsum, List.length_nil]; omega))
        clear HB HV HL hall hsum hz h0
        generalize layE.L l = bytes at *
        generalize sumS l = nz at *
        have z4 : ¬ (4000 : Int) < (nz : Int) := by omega
        have hml : nz ≤ maxLen := by unfold maxLen; omega
        go_wp2_with (first
          | (go_at_call 37; refine (unhide CL _ _ (unhide HO1) (unhide HB1)).mono ?_; rintro r w5 ⟨v5, rfl, ow5, b5⟩; have hcv := ow5.conv; rw [List.nil_append] at hcv; clear ow5)
          | (refine wpList_make_own _ rfl _ _ 71 rfl w.heap.size 5 i0 (.int .u8 0) 1 Try.underlying71 hi hz0 hz1 .i64 .i64 _ nz rfl rfl rfl (by rw [hz2]; omega) hml (hnx.trans g2).size ?_; intro w1 hown1 hgrow1; have HO1 : Hid (Ob w.heap.size _ [] w1) := hown1; have HB1 := hide ((hnx.trans g2).below.grown hgrow1 (hnx.trans g2).size (by intro k h; cases h)); clear hown1 hgrow1)
          | (go_at_call 36; refine CZ.mono ?_; rintro e w2 ⟨rfl, g2⟩))
        go_ret2
        exact ⟨ret_se (unhide HE).1.symm (unhide HE).2.symm, b5⟩
      · have hz : szL l = 4001 := by unfold szL; rw [if_neg h4]
        rw [hz] at CZ
        have HE := hide (enc_big h0 (by rw [hsum]; exact h4))
        clear HB HV HL hall hsum hz h0
        go_wp2_with (go_at_call 36; refine CZ.mono ?_; rintro e w2 ⟨rfl, g2⟩)
        go_ret2
        exact ⟨ret_se (unhide HE).1.symm (unhide HE).2.symm, (hnx.trans g2).below⟩
end Go.Proofs.Ytcboggoindhmkaa
