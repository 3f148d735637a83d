/- The document's fine, Size and Check of layer 15, and the law's Few. (By gen_read.py.) -/
import Derived.Test.YtlhkplhfofkbbaaRDep15
namespace Go.Proofs.Ytlhkplhfofkbbaa
open Go.RowKit

theorem fineL_drop (l : List El) (i : Nat) (h : i < l.length) : fineE.L (l.drop i) = (fineE (l.getD i el0) && fineE.L (l.drop (i + 1))) := by rw [drop_cons l i h]; simp only [fineE.L]
theorem sizeL_drop (l : List El) (i x : Nat) (h : i < l.length) : sizeE.L (l.drop i) x = if x ≤ 4000 then sizeE.L (l.drop (i + 1)) (x + sizeE (l.getD i el0)) else x := by rw [drop_cons l i h]; simp only [sizeE.L]
theorem fewL_drop (l : List El) (i : Nat) (x : Int) (h : i < l.length) : fewE.L (l.drop i) x = if 0 ≤ x then fewE.L (l.drop (i + 1)) (fewE (l.getD i el0) x) else x := by rw [drop_cons l i h]; simp only [fewE.L]
set_option maxHeartbeats 3200000 in
theorem rfine_any (e : El) : ∀ (v : Value) (w : World), ElV w e v → Calls Try.prog 25 #[v] w fun r w' => r = .returned (.bool (fineE e)) ∧ Gr w w' := by
  induction e using El.ind with
  | h c m n s els ih =>
    intro v w hV
    simp only [ElV] at hV
    obtain ⟨ad, cap, rfl, hn, hc⟩ := hV
    have HIH := hide ih
    have HL := hide hc
    have HD : Hid (fineE (.mk c m n s els) = (fineE.L els && (decide (0 ≤ c ∧ c < 4 ∧ 0 ≤ n ∧ n < 31) && ((!m || decide (s.size = 0)) && (m || decide (els.length = 0)))))) := by show _ = _; simp only [fineE]
    clear ih hc
    go_enter Try.func25, Try.ntmps25
    go_wp2
    go_loopw [3] (fun vi wr => ∃ i : Nat, i ≤ els.length ∧ vi = .int .i64 (i : Int) ∧ Hid (fineE.L els = fineE.L (els.drop i)) ∧ Gr (w.alloc (.cells #[.int .i64 c, .bool m, .int .i64 n, .string s, .slice ad els.length cap] 26)) wr) (fun i _ => els.length - (intOf i).toNat)
    case atStart => exact ⟨0, Nat.zero_le _, rfl, rfl, Gr.refl _⟩
    case round =>
      obtain ⟨i, hi, rfl, HB, hnx⟩ := hrel
      obtain ⟨b0, b1, b2, b3, b4⟩ := box5 hnx
      by_cases hlt : i < els.length
      · -- an element more
        have hzl : (i : Int) < (els.length : Int) := by omega
        have hz0 : (0 : Int) ≤ (i : Int) := by omega
        have gw := (Gr.one w _).trans hnx
        obtain ⟨g, off, rfl, hl⟩ := (unhide HL).resolve_left (by omega)
        obtain ⟨a0, a1, a2, a3, a4, q0, q1, q2, q3, q4, hv⟩ := hl.get i hlt
        have k0 := gw.cell q0
        have k1 := gw.cell q1
        have k2 := gw.cell q2
        have k3 := gw.cell q3
        have k4 := gw.cell q4
        have CI := unhide HIH _ (getD_mem els i hlt) _ wr (hv.grow gw.below)
        have HS := hide (fineL_drop els i hlt)
        clear q0 q1 q2 q3 q4 hv hl
        cases hf : fineE (els.getD i el0)
        · rw [hf] at CI HS
          have HE : Hid (fineE (.mk c m n s els) = false) := by show _ = _; rw [unhide HD, unhide HB, unhide HS]; rfl
          clear hf
          go_wp2_with (go_at_call 25; refine CI.mono ?_; rintro e w2 ⟨rfl, g2⟩)
          go_ret
          exact ⟨ret_bool (unhide HE).symm, gw.trans g2⟩
        · rw [hf] at CI HS
          clear hf
          go_wp2_with (go_at_call 25; refine CI.mono ?_; rintro e w2 ⟨rfl, g2⟩)
          go_roundw
          case rel => exact ⟨i + 1, by omega, by go_num, (by show _ = _; rw [unhide HB, unhide HS]; rfl), hnx.trans g2⟩
          case measure => simp [intOf]; omega
      · have hzl : ¬ (i : Int) < (els.length : Int) := by omega
        have gw := (Gr.one w _).trans hnx
        have HF : Hid (fineE.L els = true) := by show _ = _; rw [unhide HB, List.drop_eq_nil_of_le (by omega)]; simp only [fineE.L]
        have fin : ∀ (p q r : Bool), decide (0 ≤ c ∧ c < 4 ∧ 0 ≤ n ∧ n < 31) = p → (!m || decide (s.size = 0)) = q → (m || decide (els.length = 0)) = r → fineE (.mk c m n s els) = (p && (q && r)) := fun p q r h1 h2 h3 => by rw [unhide HD, unhide HF, h1, h2, h3]; rfl
        have FIN := hide fin
        clear fin HIH HL
        by_cases c1 : 0 ≤ c
        · by_cases c2 : c < 4
          · by_cases c3 : 0 ≤ n
            · by_cases c4 : n < 31
              · cases m
                · by_cases e0 : els.length = 0
                  · have e0' : ((els.length : Int) == 0) = true := by simpa using e0
                    have HE := hide (unhide FIN true _ _ (decide_eq_true ⟨c1, c2, c3, c4⟩) rfl rfl)
                    clear FIN
                    go_wp2
                    go_ret
                    exact ⟨ret_bool (by rw [unhide HE]; simp [e0]), gw⟩
                  · have e0' : ((els.length : Int) == 0) = false := by simpa using e0
                    have HE := hide (unhide FIN true _ _ (decide_eq_true ⟨c1, c2, c3, c4⟩) rfl rfl)
                    clear FIN
                    go_wp2
                    go_ret
                    exact ⟨ret_bool (by rw [unhide HE]; simp [e0]), gw⟩
                · by_cases e0 : s.size = 0
                  · have e0' : ((s.size : Int) == 0) = true := by simpa using e0
                    have HE := hide (unhide FIN true _ _ (decide_eq_true ⟨c1, c2, c3, c4⟩) rfl rfl)
                    clear FIN
                    go_wp2
                    go_ret
                    exact ⟨ret_bool (by rw [unhide HE]; simp [e0]), gw⟩
                  · have e0' : ((s.size : Int) == 0) = false := by simpa using e0
                    have HE := hide (unhide FIN true _ _ (decide_eq_true ⟨c1, c2, c3, c4⟩) rfl rfl)
                    clear FIN
                    go_wp2
                    go_ret
                    exact ⟨ret_bool (by rw [unhide HE]; simp [e0]), gw⟩
              · have HE := hide (unhide FIN false _ _ (decide_eq_false (by omega)) rfl rfl)
                clear FIN
                go_wp2
                go_ret
                exact ⟨ret_bool (by rw [unhide HE]; rfl), gw⟩
            · have HE := hide (unhide FIN false _ _ (decide_eq_false (by omega)) rfl rfl)
              clear FIN
              go_wp2
              go_ret
              exact ⟨ret_bool (by rw [unhide HE]; rfl), gw⟩
          · have HE := hide (unhide FIN false _ _ (decide_eq_false (by omega)) rfl rfl)
            clear FIN
            go_wp2
            go_ret
            exact ⟨ret_bool (by rw [unhide HE]; rfl), gw⟩
        · have HE := hide (unhide FIN false _ _ (decide_eq_false (by omega)) rfl rfl)
          clear FIN
          go_wp2
          go_ret
          exact ⟨ret_bool (by rw [unhide HE]; rfl), gw⟩
set_option maxHeartbeats 3200000 in
theorem rsize_any (e : El) : ∀ (v : Value) (w : World), ElV w e v → Calls Try.prog 26 #[v] w fun r w' => r = .returned (.int .i64 (sizeE e)) ∧ Gr w w' := by
  induction e using El.ind with
  | h c m n s els ih =>
    intro v w hV
    simp only [ElV] at hV
    obtain ⟨ad, cap, rfl, hn, hc⟩ := hV
    have HIH := hide ih
    have HL := hide hc
    have HD : Hid (sizeE (.mk c m n s els) = hdr (sizeE.L els s.size)) := by show _ = _; simp only [sizeE]
    clear ih hc
    go_enter Try.func26, Try.ntmps26
    go_wp2
    go_loopw [3, 4] (fun vx vi wr => ∃ i x : Nat, i ≤ els.length ∧ vi = .int .i64 (i : Int) ∧ vx = .int .i64 (x : Int) ∧ (x = s.size ∨ x ≤ 104000) ∧ Hid (sizeE.L els s.size = sizeE.L (els.drop i) x) ∧ Gr (w.alloc (.cells #[.int .i64 c, .bool m, .int .i64 n, .string s, .slice ad els.length cap] 26)) wr) (fun _ i _ => els.length - (intOf i).toNat)
    case atStart => exact ⟨0, s.size, Nat.zero_le _, rfl, rfl, .inl rfl, rfl, Gr.refl _⟩
    case round =>
      obtain ⟨i, x, hi, rfl, rfl, hx, HB, hnx⟩ := hrel
      obtain ⟨b0, b1, b2, b3, b4⟩ := box5 hnx
      have ends : ∀ y, sizeE.L els s.size = y → sizeE (.mk c m n s els) = hdr y := fun y hy => by rw [unhide HD, hy]
      have HEND := hide ends
      clear ends
      by_cases hgo : i < els.length ∧ x ≤ 4000
      · obtain ⟨hlt, hx4⟩ := hgo
        have zx : (x : Int) ≤ 4000 := by omega
        have hzl : (i : Int) < (els.length : Int) := by omega
        have hz0 : (0 : Int) ≤ (i : Int) := by omega
        have gw := (Gr.one w _).trans hnx
        obtain ⟨g, off, rfl, hl⟩ := (unhide HL).resolve_left (by omega)
        obtain ⟨a0, a1, a2, a3, a4, q0, q1, q2, q3, q4, hv⟩ := hl.get i hlt
        have k0 := gw.cell q0
        have k1 := gw.cell q1
        have k2 := gw.cell q2
        have k3 := gw.cell q3
        have k4 := gw.cell q4
        have CI := unhide HIH _ (getD_mem els i hlt) _ wr (hv.grow gw.below)
        have HS := hide (sizeL_drop els i x hlt)
        have hle := sizeE_le (els.getD i el0)
        clear q0 q1 q2 q3 q4 hv hl
        generalize sizeE (els.getD i el0) = y at *
        have wy : IntKind.i64.wrap ((x : Int) + (y : Int)) = (x : Int) + (y : Int) := wrap_in (by omega) (by omega)
        go_wp2_with (go_at_call 26; refine CI.mono ?_; rintro e w2 ⟨rfl, g2⟩)
        go_roundw
        case rel => exact ⟨i + 1, x + y, by omega, by go_num, (by rw [Int.natCast_add]), .inr (by omega), (by show _ = _; rw [unhide HB, unhide HS, if_pos hx4]), hnx.trans g2⟩
        case measure => simp [intOf]; omega
      · have gw := (Gr.one w _).trans hnx
        have HE : Hid (sizeE.L els s.size = x) := by
          show _ = _
          rw [unhide HB]
          by_cases hlt : i < els.length
          · rw [sizeL_drop els i x hlt, if_neg (fun h => hgo ⟨hlt, h⟩)]
          · rw [List.drop_eq_nil_of_le (by omega)]; simp only [sizeE.L]
        have HF := hide (unhide HEND x (unhide HE))
        clear HIH HL HEND HE
        by_cases hlt : i < els.length
        · have hzl : (i : Int) < (els.length : Int) := by omega
          have zx : ¬ (x : Int) ≤ 4000 := by omega
          have y1 : 4000 < x := by omega
          have z1 : (4000 : Int) < (x : Int) := by omega
          go_wp2
          go_ret
          exact ⟨ret_int (by rw [unhide HF]; unfold hdr; rw [if_pos y1]; rfl), gw⟩
        · have hzl : ¬ (i : Int) < (els.length : Int) := by omega
          by_cases y1 : 4000 < x
          · have z1 : (4000 : Int) < (x : Int) := by omega
            go_wp2
            go_ret
            exact ⟨ret_int (by rw [unhide HF]; unfold hdr; rw [if_pos y1]; rfl), gw⟩
          · have z1 : ¬ (4000 : Int) < (x : Int) := by omega
            by_cases y2 : 256 ≤ x
            · have z2 : (256 : Int) ≤ (x : Int) := by omega
              have wx : IntKind.i64.wrap ((x : Int) + 4) = (x : Int) + 4 := wrap_in (by omega) (by omega)
              go_wp2
              go_ret
              exact ⟨ret_int (by rw [unhide HF]; unfold hdr; rw [if_neg y1, if_pos y2]; omega), gw⟩
            · have z2 : ¬ (256 : Int) ≤ (x : Int) := by omega
              by_cases y3 : 128 ≤ x
              · have z3 : (128 : Int) ≤ (x : Int) := by omega
                have wx : IntKind.i64.wrap ((x : Int) + 3) = (x : Int) + 3 := wrap_in (by omega) (by omega)
                go_wp2
                go_ret
                exact ⟨ret_int (by rw [unhide HF]; unfold hdr; rw [if_neg y1, if_neg y2, if_pos y3]; omega), gw⟩
              · have z3 : ¬ (128 : Int) ≤ (x : Int) := by omega
                have wx : IntKind.i64.wrap ((x : Int) + 2) = (x : Int) + 2 := wrap_in (by omega) (by omega)
                go_wp2
                go_ret
                exact ⟨ret_int (by rw [unhide HF]; unfold hdr; rw [if_neg y1, if_neg y2, if_neg y3]; omega), gw⟩
theorem fewE_in (e : El) : ∀ k : Int, 0 ≤ k → k ≤ 1000 → -1 ≤ fewE e k ∧ fewE e k ≤ 1000 := by
  induction e using El.ind with
  | h c m n s els ih =>
    intro k h0 h1
    simp only [fewE]
    split
    · omega
    · have : ∀ (l : List El) (x : Int), (∀ e, e ∈ l → e ∈ els) → -1 ≤ x → x ≤ 1000 → -1 ≤ fewE.L l x ∧ fewE.L l x ≤ 1000 := fun l => by
        induction l with
        | nil => intro x _ a b; simp only [fewE.L]; exact ⟨a, b⟩
        | cons a t iht =>
          intro x hl p q
          simp only [fewE.L]
          split
          · have := ih a (hl a (by simp)) x (by omega) q
            exact iht _ (fun e he => hl e (by simp [he])) this.1 this.2
          · exact ⟨p, q⟩
      exact this els (k - 1) (fun _ h => h) (by omega) (by omega)
set_option maxHeartbeats 3200000 in
theorem few_any (e : El) : ∀ (k : Int) (v : Value) (w : World), ElV w e v → 0 ≤ k → k ≤ 1000 → Calls Try.prog 10 #[v, .int .i64 k] w fun r w' => r = .returned (.int .i64 (fewE e k)) ∧ Gr w w' := by
  induction e using El.ind with
  | h c m n s els ih =>
    intro k v w hV hk0 hk1
    simp only [ElV] at hV
    obtain ⟨ad, cap, rfl, hn, hc⟩ := hV
    have HIH := hide ih
    have HL := hide hc
    have HD : Hid (fewE (.mk c m n s els) k = if 5000 < s.size then -1 else fewE.L els (k - 1)) := by show _ = _; simp only [fewE]
    have wk : IntKind.i64.wrap (k - 1) = k - 1 := wrap_in (by omega) (by omega)
    clear ih hc
    by_cases h5 : 5000 < s.size
    · have z5 : (5000 : Int) < (s.size : Int) := by omega
      go_enter Try.func10, Try.ntmps10
      go_wp2
      go_ret
      exact ⟨ret_int (by rw [unhide HD, if_pos h5]), Gr.one w _⟩
    · have z5 : ¬ (5000 : Int) < (s.size : Int) := by omega
      go_enter Try.func10, Try.ntmps10
      go_wp2
      go_loopw [1, 5] (fun vx vi wr => ∃ (i : Nat) (x : Int), i ≤ els.length ∧ vi = .int .i64 (i : Int) ∧ vx = .int .i64 x ∧ -1 ≤ x ∧ x ≤ 1000 ∧ Hid (fewE.L els (k - 1) = fewE.L (els.drop i) x) ∧ Gr (w.alloc (.cells #[.int .i64 c, .bool m, .int .i64 n, .string s, .slice ad els.length cap] 26)) wr) (fun _ i _ => els.length - (intOf i).toNat)
      case atStart => exact ⟨0, k - 1, Nat.zero_le _, rfl, rfl, by omega, by omega, rfl, Gr.refl _⟩
      case round =>
        obtain ⟨i, x, hi, rfl, rfl, x0, x1, HB, hnx⟩ := hrel
        obtain ⟨b0, b1, b2, b3, b4⟩ := box5 hnx
        by_cases hgo : i < els.length ∧ 0 ≤ x
        · obtain ⟨hlt, hx0⟩ := hgo
          have hzl : (i : Int) < (els.length : Int) := by omega
          have hz0 : (0 : Int) ≤ (i : Int) := by omega
          have gw := (Gr.one w _).trans hnx
          obtain ⟨g, off, rfl, hl⟩ := (unhide HL).resolve_left (by omega)
          obtain ⟨a0, a1, a2, a3, a4, q0, q1, q2, q3, q4, hv⟩ := hl.get i hlt
          have k0 := gw.cell q0
          have k1 := gw.cell q1
          have k2 := gw.cell q2
          have k3 := gw.cell q3
          have k4 := gw.cell q4
          have CI := unhide HIH _ (getD_mem els i hlt) x _ wr (hv.grow gw.below) hx0 x1
          have HS := hide (fewL_drop els i x hlt)
          obtain ⟨y0, y1⟩ := fewE_in (els.getD i el0) x hx0 x1
          clear q0 q1 q2 q3 q4 hv hl
          generalize fewE (els.getD i el0) x = y at *
          go_wp2_with (go_at_call 10; refine CI.mono ?_; rintro e w2 ⟨rfl, g2⟩)
          go_roundw
          case rel => exact ⟨i + 1, y, by omega, by go_num, rfl, y0, y1, (by show _ = _; rw [unhide HB, unhide HS, if_pos hx0]), hnx.trans g2⟩
          case measure => simp [intOf]; omega
        · have gw := (Gr.one w _).trans hnx
          have HE : Hid (fewE.L els (k - 1) = x) := by
            show _ = _
            rw [unhide HB]
            by_cases hlt : i < els.length
            · rw [fewL_drop els i x hlt, if_neg (fun h => hgo ⟨hlt, h⟩)]
            · rw [List.drop_eq_nil_of_le (by omega)]; simp only [fewE.L]
          by_cases hlt : i < els.length
          · have hzl : (i : Int) < (els.length : Int) := by omega
            have zx : ¬ 0 ≤ x := fun h => hgo ⟨hlt, h⟩
            clear HIH HL
            go_wp2
            go_ret
            exact ⟨ret_int (by rw [unhide HD, if_neg h5, unhide HE]), gw⟩
          · have hzl : ¬ (i : Int) < (els.length : Int) := by omega
            clear HIH HL
            go_wp2
            go_ret
            exact ⟨ret_int (by rw [unhide HD, if_neg h5, unhide HE]), gw⟩
end Go.Proofs.Ytlhkplhfofkbbaa
