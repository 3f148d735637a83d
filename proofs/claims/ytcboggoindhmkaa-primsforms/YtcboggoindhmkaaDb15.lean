/- The program's formed and Check of layer 15. -/
import Derived.Test.YtcboggoindhmkaaDa15
namespace Go.Proofs.Ytcboggoindhmkaa
open Go.RowKit

set_option maxHeartbeats 3200000 in
theorem formed_any (e : El) : ∀ (v : Value) (w : World), ElV w e v → Calls Try.prog 43 #[v] w fun r w' => r = .returned (.bool (fineE e)) ∧ Gr w w' := by
  induction e using El.ind with
  | h c m n s els ih =>
    intro v w hV
    simp only [ElV] at hV
    obtain ⟨ad, cap, rfl, hn, hc⟩ := hV
    have HIH := hide ih
    have HL := hide hc
    have fin : ∀ (l p q r : Bool), fineE.L els = l → decide (0 ≤ c ∧ c < 4 ∧ 0 ≤ n ∧ n < 31) = p → (!m || decide (s.size = 0)) = q → (m || decide (els.length = 0)) = r → fineE (.mk c m n s els) = (l && (p && (q && r))) := fun l p q r h0 h1 h2 h3 => by rw [← h0, ← h1, ← h2, ← h3]; simp only [fineE]
    have FIN := hide fin
    clear ih hc fin
    by_cases c1 : 0 ≤ c
    · by_cases c2 : c ≤ 3
      · by_cases c3 : 0 ≤ n
        · by_cases c4 : n ≤ 30
          · have hp := decide_eq_true (show 0 ≤ c ∧ c < 4 ∧ 0 ≤ n ∧ n < 31 by omega)
            cases m
            · by_cases e0 : els.length = 0
              · have HE := hide (unhide FIN _ _ true true rfl hp rfl (by rw [decide_eq_true e0]; rfl))
                have HZ : Hid (fineE.L els = true) := by show _ = _; rw [List.eq_nil_of_length_eq_zero e0]; simp only [fineE.L]
                clear FIN HIH HL hp
                rw [e0]
                go_enter Try.func43, Try.ntmps43
                go_wp2
                refine wp_loop_rounds 1 ?_
                rw [rounds_succ]
                go_wp2
                go_ret
                exact ⟨ret_bool (by rw [unhide HE, unhide HZ]; rfl), Gr.one w _⟩
              · have HE := hide (unhide FIN _ _ true false rfl hp rfl (by rw [decide_eq_false e0]; rfl))
                have e1 : (0 : Int) < (els.length : Int) := by omega
                clear FIN HIH HL hp
                go_enter Try.func43, Try.ntmps43
                go_wp2
                go_ret
                exact ⟨ret_bool (by rw [unhide HE]; simp), Gr.one w _⟩
            · by_cases e0 : s.size = 0
              · have HE := hide (unhide FIN _ _ true true rfl hp (by rw [decide_eq_true e0]; rfl) rfl)
                have hs : s = ⟨#[]⟩ := by
                  apply ByteArray.ext
                  exact Array.eq_empty_of_size_eq_zero (by simpa using e0)
                subst hs
                clear FIN hp e0
                go_enter Try.func43, Try.ntmps43
                go_wp2
                go_loopw [44] (fun vi wr => ∃ i : Nat, i ≤ els.length ∧ vi = .int .i64 (i : Int) ∧ Hid (fineE.L els = fineE.L (els.drop i)) ∧ Gr w wr) (fun i _ => els.length - (intOf i).toNat)
                case atStart => exact ⟨0, Nat.zero_le _, rfl, rfl, Gr.one w _⟩
                case round =>
                  obtain ⟨i, hi, rfl, HB, hnx⟩ := hrel
                  by_cases hlt : i < els.length
                  · have hzl : (i : Int) < (els.length : Int) := by omega
                    have hz0 : (0 : Int) ≤ (i : Int) := by omega
                    obtain ⟨g, off, rfl, hl⟩ := (unhide HL).resolve_left (by omega)
                    obtain ⟨ad', cap', q0, q1, q2, q3, q4, hv⟩ := hl.at i hlt
                    have k0 := hnx.cell q0
                    have k1 := hnx.cell q1
                    have k2 := hnx.cell q2
                    have k3 := hnx.cell q3
                    have k4 := hnx.cell q4
                    have CI := unhide HIH _ (getD_mem els i hlt) _ (wr.alloc (.cells #[.int .i64 (els.getD i el0).cls, .bool (els.getD i el0).made, .int .i64 (els.getD i el0).num, .string (els.getD i el0).con, .slice ad' (els.getD i el0).els.length cap'] 26)) (hv.grow (hnx.alloc _).below)
                    have HS := hide (fineL_drop els i hlt)
                    clear q0 q1 q2 q3 q4 hv hl HL HIH
                    generalize els.getD i el0 = e at *
                    cases hf : fineE e
                    · rw [hf] at CI HS
                      have HX : Hid (fineE (.mk c true n ⟨#[]⟩ els) = false) := by show _ = _; rw [unhide HE, unhide HB, unhide HS]; rfl
                      clear hf HE HB HS
                      go_wp2_with (go_at_call 43; refine CI.mono ?_; rintro e w2 ⟨rfl, g2⟩)
                      go_ret
                      exact ⟨ret_bool (unhide HX).symm, (hnx.alloc _).trans g2⟩
                    · rw [hf] at CI HS
                      clear hf
                      go_wp2_with (go_at_call 43; refine CI.mono ?_; rintro e w2 ⟨rfl, g2⟩)
                      go_roundw
                      case rel => exact ⟨i + 1, by omega, by go_num, (by show _ = _; rw [unhide HB, unhide HS]; rfl), (hnx.alloc _).trans g2⟩
                      case measure => simp [intOf]; omega
                  · have hzl : ¬ (i : Int) < (els.length : Int) := by omega
                    have HX : Hid (fineE (.mk c true n ⟨#[]⟩ els) = true) := by
                      show _ = _
                      rw [unhide HE, unhide HB, List.drop_eq_nil_of_le (by omega)]
                      simp only [fineE.L]
                      rfl
                    clear HL HIH HE HB
                    go_wp2
                    go_ret
                    exact ⟨ret_bool (unhide HX).symm, hnx⟩
              · have HE := hide (unhide FIN _ _ false true rfl hp (by rw [decide_eq_false e0]; rfl) rfl)
                have e1 : s.toList.isEmpty = false := by
                  cases h : s.toList.isEmpty
                  · rfl
                  · rw [List.isEmpty_iff] at h
                    have h3 := congrArg List.length h
                    rw [ByteArray.toList_eq, Array.length_toList] at h3
                    exact absurd h3 e0
                clear FIN HIH HL hp
                go_enter Try.func43, Try.ntmps43
                go_wp2
                go_ret
                exact ⟨ret_bool (by rw [unhide HE]; simp), Gr.one w _⟩
          · have HE := hide (unhide FIN _ false _ _ rfl (decide_eq_false (by omega)) rfl rfl)
            have z4 : (30 : Int) < n := by omega
            clear FIN HIH HL
            go_enter Try.func43, Try.ntmps43
            go_wp2
            go_ret
            exact ⟨ret_bool (by rw [unhide HE]; simp), Gr.one w _⟩
        · have HE := hide (unhide FIN _ false _ _ rfl (decide_eq_false (by omega)) rfl rfl)
          clear FIN HIH HL
          go_enter Try.func43, Try.ntmps43
          go_wp2
          go_ret
          exact ⟨ret_bool (by rw [unhide HE]; simp), Gr.one w _⟩
      · have HE := hide (unhide FIN _ false _ _ rfl (decide_eq_false (by omega)) rfl rfl)
        have z4 : (3 : Int) < c := by omega
        clear FIN HIH HL
        go_enter Try.func43, Try.ntmps43
        go_wp2
        go_ret
        exact ⟨ret_bool (by rw [unhide HE]; simp), Gr.one w _⟩
    · have HE := hide (unhide FIN _ false _ _ rfl (decide_eq_false (by omega)) rfl rfl)
      clear FIN HIH HL
      go_enter Try.func43, Try.ntmps43
      go_wp2
      go_ret
      exact ⟨ret_bool (by rw [unhide HE]; simp), Gr.one w _⟩
set_option maxHeartbeats 1600000 in
theorem pcheck_any (e : El) (v : Value) (w : World) (hV : ElV w e v) : Calls Try.prog 35 #[v] w fun r w' => r = .returned (.int .i64 (chkB e)) ∧ Gr w w' := by
  obtain ⟨ad, cap, hv, _⟩ := hV.open
  subst hv
  have hd := deepE_le e 13 (by omega)
  have HV := hide hV
  have H1 : Hid (∀ w2, Gr w w2 → Calls Try.prog 42 #[.agg #[.int .i64 e.cls, .bool e.made, .int .i64 e.num, .string e.con, .slice ad e.els.length cap]] w2 fun r w' => r = .returned (.int .i64 (deepE e 13)) ∧ Gr w2 w') := fun w2 g => pdeep_any e _ w2 ((unhide HV).grow g.below)
  have H2 : Hid (∀ w2, Gr w w2 → Calls Try.prog 43 #[.agg #[.int .i64 e.cls, .bool e.made, .int .i64 e.num, .string e.con, .slice ad e.els.length cap]] w2 fun r w' => r = .returned (.bool (fineE e)) ∧ Gr w2 w') := fun w2 g => formed_any e _ w2 ((unhide HV).grow g.below)
  have H3 : Hid (fineE e = true → ∀ w2, Gr w w2 → ∀ g, g = w2.heap.size → Calls Try.prog 36 #[.slice (some ⟨g, 0, none⟩) 1 1] (w2.alloc (.cells #[.int .i64 e.cls, .bool e.made, .int .i64 e.num, .string e.con, .slice ad e.els.length cap] 26)) fun r w' => r = .returned (.int .i64 (szL [e])) ∧ Gr (w2.alloc (.cells #[.int .i64 e.cls, .bool e.made, .int .i64 e.num, .string e.con, .slice ad e.els.length cap] 26)) w') := fun hf w2 g gg hg =>
    size_any [e] (fun x hx => by rw [List.mem_singleton.1 hx]; exact hf) _ _ (els_1 hg ((unhide HV).grow g.below))
  have hz : szL [e] = if sizeE e ≤ 4000 then sizeE e else 4001 := by unfold szL; rw [show sumS [e] = sizeE e by simp only [sumS]; omega]
  have HC : Hid (chkB e = if 12 < deepE e 13 then 153 else if fineE e = false then 2 else if 4000 < sizeE e then 3 else 0) := rfl
  have g0 := Gr.one w (.cells #[.int .i64 e.cls, .bool e.made, .int .i64 e.num, .string e.con, .slice ad e.els.length cap] 26)
  obtain ⟨k0, k1, k2, k3, k4⟩ := box5 (w := w) (T := 26) (a0 := .int .i64 e.cls) (a1 := .bool e.made) (a2 := .int .i64 e.num) (a3 := .string e.con) (a4 := .slice ad e.els.length cap) (Gr.refl _)
  clear HV hV
  by_cases c1 : 12 < deepE e 13
  · have z1 : (12 : Int) < ((deepE e 13 : Nat) : Int) := by omega
    rw [unhide HC, if_pos c1]
    clear HC hz H2 H3
    go_enter Try.func35, Try.ntmps35
    go_wp2_with (go_at_call 42; refine (unhide H1 _ g0).mono ?_; rintro e w2 ⟨rfl, g2⟩)
    go_ret
    exact ⟨rfl, g0.trans g2⟩
  · have z1 : ¬ (12 : Int) < ((deepE e 13 : Nat) : Int) := by omega
    rw [unhide HC, if_neg c1]
    cases hf : fineE e
    · rw [hf] at H2
      clear HC hz H3 hf
      go_enter Try.func35, Try.ntmps35
      go_wp2_with (first
        | (go_at_call 43; refine (unhide H2 _ (g0.trans g2)).mono ?_; rintro e w3 ⟨rfl, g3⟩)
        | (go_at_call 42; refine (unhide H1 _ g0).mono ?_; rintro e w2 ⟨rfl, g2⟩; have q0 := g2.cell k0; have q1 := g2.cell k1; have q2 := g2.cell k2; have q3 := g2.cell k3; have q4 := g2.cell k4))
      go_ret
      exact ⟨rfl, (g0.trans g2).trans g3⟩
    · rw [hf] at H2
      have H4 := hide (unhide H3 hf)
      rw [hz] at H4
      rw [if_neg (by simp)]
      clear HC hz H3 hf
      by_cases c2 : 4000 < sizeE e
      · rw [if_neg (by omega)] at H4
        rw [if_pos c2]
        go_enter Try.func35, Try.ntmps35
        go_wp2_with (first
          | (go_at_call 36; refine (unhide H4 _ (g0.trans (g2.trans g3)) _ rfl).mono ?_; rintro e w4 ⟨rfl, g4⟩)
          | (go_at_call 43; refine (unhide H2 _ (g0.trans g2)).mono ?_; rintro e w3 ⟨rfl, g3⟩; have r0 := g3.cell q0; have r1 := g3.cell q1; have r2 := g3.cell q2; have r3 := g3.cell q3; have r4 := g3.cell q4)
          | (go_at_call 42; refine (unhide H1 _ g0).mono ?_; rintro e w2 ⟨rfl, g2⟩; have q0 := g2.cell k0; have q1 := g2.cell k1; have q2 := g2.cell k2; have q3 := g2.cell k3; have q4 := g2.cell k4))
        go_ret
        exact ⟨rfl, (((g0.trans g2).trans g3).alloc _).trans g4⟩
      · rw [if_pos (by omega)] at H4
        rw [if_neg c2]
        have z2 : ¬ (4000 : Int) < ((sizeE e : Nat) : Int) := by omega
        go_enter Try.func35, Try.ntmps35
        go_wp2_with (first
          | (go_at_call 36; refine (unhide H4 _ (g0.trans (g2.trans g3)) _ rfl).mono ?_; rintro e w4 ⟨rfl, g4⟩)
          | (go_at_call 43; refine (unhide H2 _ (g0.trans g2)).mono ?_; rintro e w3 ⟨rfl, g3⟩; have r0 := g3.cell q0; have r1 := g3.cell q1; have r2 := g3.cell q2; have r3 := g3.cell q3; have r4 := g3.cell q4)
          | (go_at_call 42; refine (unhide H1 _ g0).mono ?_; rintro e w2 ⟨rfl, g2⟩; have q0 := g2.cell k0; have q1 := g2.cell k1; have q2 := g2.cell k2; have q3 := g2.cell k3; have q4 := g2.cell k4))
        go_ret
        exact ⟨rfl, (((g0.trans g2).trans g3).alloc _).trans g4⟩
end Go.Proofs.Ytcboggoindhmkaa
