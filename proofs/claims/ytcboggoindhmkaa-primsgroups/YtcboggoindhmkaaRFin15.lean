/- The document's fine, Size and Check of layer 15, and the law's Few. (By gen_read.py.) -/
import Derived.Test.YtcboggoindhmkaaRDep15
namespace Go.Proofs.Ytcboggoindhmkaa
open Go.RowKit

theorem fineL_drop (l : List El) (i : Nat) (h : i < l.length) : fineE.L (l.drop i) = (fineE (l.getD i el0) && fineE.L (l.drop (i + 1))) := by rw [drop_cons l i h]; simp only [fineE.L]
theorem sizeL_drop (l : List El) (i x : Nat) (h : i < l.length) : sizeE.L (l.drop i) x = if x ≤ 4000 then sizeE.L (l.drop (i + 1)) (x + sizeE (l.getD i el0)) else x := by rw [drop_cons l i h]; simp only [sizeE.L]
theorem fewL_drop (l : List El) (i : Nat) (x : Int) (h : i < l.length) : fewE.L (l.drop i) x = if 0 ≤ x then fewE.L (l.drop (i + 1)) (fewE (l.getD i el0) x) else x := by rw [drop_cons l i h]; simp only [fewE.L]
theorem fewE_in (e : El) : ∀ k : Int, 0 ≤ k → k ≤ 1000 → -1 ≤ fewE e k ∧ fewE e k ≤ 1000 := by
  induction e using El.ind with
  | h c m n s els ih =>
    intro k h0 h1
    simp only [fewE]
    split
    · omega
    · have : ∀ (l : List El) (x : Int), (∀ e, e ∈ l → e ∈ els) → -1 ≤ x → x ≤ 1000 → -1 ≤ fewE.L l x ∧ fewE.L l x ≤ 1000 := fun l => by
        induction l with
        | nil => intro x _ a b; simp only [fewE.L]; exact ⟨a, b⟩
        | cons a t iht =>
          intro x hl p q
          simp only [fewE.L]
          split
          · have := ih a (hl a (by simp)) x (by omega) q
            exact iht _ (fun e he => hl e (by simp [he])) this.1 this.2
          · exact ⟨p, q⟩
      exact this els (k - 1) (fun _ h => h) (by omega) (by omega)
set_option maxHeartbeats 3200000 in
theorem few_any (e : El) : ∀ (k : Int) (v : Value) (w : World), ElV w e v → 0 ≤ k → k ≤ 1000 → Calls Try.prog 16 #[v, .int .i64 k] w fun r w' => r = .returned (.int .i64 (fewE e k)) ∧ Gr w w' := by
  induction e using El.ind with
  | h c m n s els ih =>
    intro k v w hV hk0 hk1
    simp only [ElV] at hV
    obtain ⟨ad, cap, rfl, hn, hc⟩ := hV
    have HIH := hide ih
    have HL := hide hc
    have HD : Hid (fewE (.mk c m n s els) k = if 5000 < s.size then -1 else fewE.L els (k - 1)) := by show _ = _; simp only [fewE]
    have wk : IntKind.i64.wrap (k - 1) = k - 1 := wrap_in (by omega) (by omega)
    clear ih hc
    by_cases h5 : 5000 < s.size
    · have z5 : (5000 : Int) < (s.size : Int) := by omega
      go_enter Try.func16, Try.ntmps16
      go_wp2
      go_ret
      exact ⟨ret_int (by rw [unhide HD, if_pos h5]), Gr.one w _⟩
    · have z5 : ¬ (5000 : Int) < (s.size : Int) := by omega
      go_enter Try.func16, Try.ntmps16
      go_wp2
      go_loopw [1, 5] (fun vx vi wr => ∃ (i : Nat) (x : Int), i ≤ els.length ∧ vi = .int .i64 (i : Int) ∧ vx = .int .i64 x ∧ -1 ≤ x ∧ x ≤ 1000 ∧ Hid (fewE.L els (k - 1) = fewE.L (els.drop i) x) ∧ Gr (w.alloc (.cells #[.int .i64 c, .bool m, .int .i64 n, .string s, .slice ad els.length cap] 26)) wr) (fun _ i _ => els.length - (intOf i).toNat)
      case atStart => exact ⟨0, k - 1, Nat.zero_le _, rfl, rfl, by omega, by omega, rfl, Gr.refl _⟩
      case round =>
        obtain ⟨i, x, hi, rfl, rfl, x0, x1, HB, hnx⟩ := hrel
        obtain ⟨b0, b1, b2, b3, b4⟩ := box5 hnx
        by_cases hgo : i < els.length ∧ 0 ≤ x
        · obtain ⟨hlt, hx0⟩ := hgo
          have hzl : (i : Int) < (els.length : Int) := by omega
          have hz0 : (0 : Int) ≤ (i : Int) := by omega
          have gw := (Gr.one w _).trans hnx
          obtain ⟨g, off, rfl, hl⟩ := (unhide HL).resolve_left (by omega)
          obtain ⟨a0, a1, a2, a3, a4, q0, q1, q2, q3, q4, hv⟩ := hl.get i hlt
          have k0 := gw.cell q0
          have k1 := gw.cell q1
          have k2 := gw.cell q2
          have k3 := gw.cell q3
          have k4 := gw.cell q4
          have CI := unhide HIH _ (getD_mem els i hlt) x _ wr (hv.grow gw.below) hx0 x1
          have HS := hide (fewL_drop els i x hlt)
          obtain ⟨y0, y1⟩ := fewE_in (els.getD i el0) x hx0 x1
          clear q0 q1 q2 q3 q4 hv hl
          generalize fewE (els.getD i el0) x = y at *
          go_wp2_with (go_at_call 16; refine CI.mono ?_; rintro e w2 ⟨rfl, g2⟩)
          go_roundw
          case rel => exact ⟨i + 1, y, by omega, by go_num, rfl, y0, y1, (by show _ = _; rw [unhide HB, unhide HS, if_pos hx0]), hnx.trans g2⟩
          case measure => simp [intOf]; omega
        · have gw := (Gr.one w _).trans hnx
          have HE : Hid (fewE.L els (k - 1) = x) := by
            show _ = _
            rw [unhide HB]
            by_cases hlt : i < els.length
            · rw [fewL_drop els i x hlt, if_neg (fun h => hgo ⟨hlt, h⟩)]
            · rw [List.drop_eq_nil_of_le (by omega)]; simp only [fewE.L]
          by_cases hlt : i < els.length
          · have hzl : (i : Int) < (els.length : Int) := by omega
            have zx : ¬ 0 ≤ x := fun h => hgo ⟨hlt, h⟩
            clear HIH HL
            go_wp2
            go_ret
            exact ⟨ret_int (by rw [unhide HD, if_neg h5, unhide HE]), gw⟩
          · have hzl : ¬ (i : Int) < (els.length : Int) := by omega
            clear HIH HL
            go_wp2
            go_ret
            exact ⟨ret_int (by rw [unhide HD, if_neg h5, unhide HE]), gw⟩
end Go.Proofs.Ytcboggoindhmkaa
