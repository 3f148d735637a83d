/- The laws UtfEncodes, UtfDecodes and UtfRunes: their walks. -/
import Derived.Test.YtelimkogockfkaaAwake
namespace Go.Proofs.Ytelimkogockfkaa
open Go.RowKit

theorem runP_length (f : Nat) : ∀ L, (runP f L).length ≤ f := by
  induction f with
  | zero => intro L; simp [runP]
  | succ f ih =>
    intro L
    simp only [runP]
    split
    · simp
    · have := ih (L.drop (decN L).toNat); simp; omega
theorem ruP_length (s : ByteArray) : (ruP s).length ≤ s.size := by
  unfold ruP
  split
  · exact runP_length _ _
  · simp

set_option maxHeartbeats 800000 in
theorem encodes_law (a : Option Addr) (cap : Nat) (l : List Int) (w : World) (hr : Row w (.slice a l.length cap) l) (hw : ∀ x ∈ l, -2147483648 ≤ x ∧ x ≤ 2147483647) :
    Calls Try.prog 4 #[.slice a l.length cap] w fun e w' => e = .returned (.bool true) ∧ Below w.heap.size w w' := by
  have HW := hide hw
  clear hw
  by_cases hl : l.length ≤ 20000
  · have g : ¬ (20000 : Int) < (l.length : Int) := by omega
    have hl8 : l.length ≤ 80000 := by omega
    go_enter Try.func4, Try.ntmps4
    go_wp2_with (first
      | (go_at_call 9; refine (encode_any _ l _ hl8 hr).mono ?_; rintro e w1 ⟨rfl, hb1⟩; have hr1 := hr.below hb1)
      | (go_at_call 10; refine (rencode_any _ l _ hl8 hr1 (unhide HW)).mono ?_; rintro e w2 ⟨rfl, hb2⟩)
      | (go_at_call 15; refine (awake_any _).mono ?_; rintro e w7 ⟨rfl, hb7⟩))
    go_ret
    have k2 := hb1.trans (hb2.mono hb1.size)
    exact ⟨rfl, k2.trans (hb7.mono k2.size)⟩
  · have g : (20000 : Int) < (l.length : Int) := by omega
    go_enter Try.func4, Try.ntmps4
    go_wp2_with (go_at_call 15; refine (awake_any _).mono ?_; rintro e w7 ⟨rfl, hb7⟩)
    go_ret
    exact ⟨rfl, hb7⟩

set_option maxHeartbeats 800000 in
theorem decodes_law (s : ByteArray) (at_ : Int) (w : World) (hs : s.size ≤ 140737488351232) :
    Calls Try.prog 5 #[.string s, .int .i64 at_] w fun e w' => e = .returned (.bool true) ∧ Below w.heap.size w w' := by
  cases hin : within s at_
  · have HI := hide hin
    clear hin
    go_enter Try.func5, Try.ntmps5
    go_wp2_with (first
      | (go_at_call 16; refine (decode_out s at_ _ (unhide HI)).mono ?_; rintro e w1 ⟨rfl, rfl⟩)
      | (go_at_call 17; refine (rdecode_out s at_ _ (unhide HI)).mono ?_; rintro e w2 ⟨rfl, rfl⟩)
      | (go_at_call 15; refine (awake_any _).mono ?_; rintro e w7 ⟨rfl, hb7⟩))
    go_ret
    exact ⟨rfl, hb7⟩
  · unfold within at hin
    rw [decide_eq_true_iff] at hin
    obtain ⟨k, rfl⟩ := Int.eq_ofNat_of_zero_le hin.1
    have hk : k < s.size := by omega
    obtain ⟨R, hR⟩ : ∃ R, R = decR (from_ s k) := ⟨_, rfl⟩
    obtain ⟨T, hT⟩ : ∃ T, T = if decN (from_ s k) = 0 then 0 else (k : Int) + decN (from_ s k) := ⟨_, rfl⟩
    obtain ⟨E, hE⟩ : ∃ E : Int, E = if decN (from_ s k) = 0 then 10 else 0 := ⟨_, rfl⟩
    have H1 : Hid (∀ w, Calls Try.prog 16 #[.string s, .int .i64 (k : Int)] w fun e w' => e = .returned (.tuple #[.int .i32 R, .int .i64 T, .int .i64 E]) ∧ Below w.heap.size w w') := fun w => decode_in s k w R T E hs hk hR hT hE
    have H2 : Hid (∀ w, Calls Try.prog 17 #[.string s, .int .i64 (k : Int)] w fun e w' => e = .returned (.tuple #[.int .i32 R, .int .i64 T, .int .i64 E]) ∧ Below w.heap.size w w') := fun w => rdecode_in s k w R T E hs hk hR hT hE
    clear hR hT hE hin
    go_enter Try.func5, Try.ntmps5
    go_wp2_with (first
      | (go_at_call 16; refine (unhide H1 _).mono ?_; rintro e w1 ⟨rfl, hb1⟩)
      | (go_at_call 17; refine (unhide H2 _).mono ?_; rintro e w2 ⟨rfl, hb2⟩)
      | (go_at_call 15; refine (awake_any _).mono ?_; rintro e w7 ⟨rfl, hb7⟩))
    go_ret
    have k2 := hb1.trans (hb2.mono hb1.size)
    exact ⟨rfl, k2.trans (hb7.mono k2.size)⟩

set_option maxHeartbeats 800000 in
theorem runes_law (s : ByteArray) (w : World) :
    Calls Try.prog 6 #[.string s] w fun e w' => e = .returned (.bool true) ∧ Below w.heap.size w w' := by
  by_cases hl : s.size ≤ 50000
  · have g : ¬ (50000 : Int) < (s.size : Int) := by omega
    have hl8 : s.size ≤ 80000 := by omega
    have hlp : (ruP s).length ≤ 80000 := by have := ruP_length s; omega
    go_enter Try.func6, Try.ntmps6
    go_wp2_with (first
      | (go_at_call 18; refine (runes_any s _ hl8).mono ?_; rintro e w1 ⟨v1, rfl, ho1, hb1⟩; have hr1 := Row.of_own ho1)
      | (go_at_call 19; refine (rrunes_any s _ hl8).mono ?_; rintro e w2 ⟨v2, rfl, ho2, hb2⟩; have hr2 := Row.of_own ho2; have hr3 := hr1.below hb2)
      | (go_at_call 20; refine (same_any v1 v2 (ruP s) _ hlp hr3 hr2).mono ?_; rintro e w3 ⟨rfl, hb3⟩)
      | (go_at_call 15; refine (awake_any _).mono ?_; rintro e w7 ⟨rfl, hb7⟩))
    go_ret
    have k2 := hb1.trans (hb2.mono hb1.size)
    have k3 := k2.trans (hb3.mono k2.size)
    exact ⟨rfl, k3.trans (hb7.mono k3.size)⟩
  · have g : (50000 : Int) < (s.size : Int) := by omega
    go_enter Try.func6, Try.ntmps6
    go_wp2_with (go_at_call 15; refine (awake_any _).mono ?_; rintro e w7 ⟨rfl, hb7⟩)
    go_ret
    exact ⟨rfl, hb7⟩
end Go.Proofs.Ytelimkogockfkaa
