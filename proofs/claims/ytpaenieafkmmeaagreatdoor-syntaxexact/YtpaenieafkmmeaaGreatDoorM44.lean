/- The landed every, ascii, visible, numeric of layer 19. -/
import Derived.Test.YtpaenieafkmmeaaGreatDoorM07
namespace Go.Proofs.YtpaenieafkmmeaaGreatDoor
set_option maxRecDepth 100000
open Go.RowKit

theorem all_upto {p : Int → Bool} {l : List Int} (h : ∀ j, j < l.length → p (l.getD j 0) = true) : l.all p = true := by
  rw [List.all_eq_true]
  intro x hx
  obtain ⟨k, hk, rfl⟩ := List.getElem_of_mem hx
  have := h k hk
  simpa [List.getD, hk] using this
theorem all_fails {p : Int → Bool} {l : List Int} {k : Nat} (hk : k < l.length) (h : p (l.getD k 0) = false) : l.all p = false := by
  cases hq : l.all p
  · rfl
  · rw [List.all_eq_true] at hq
    have := hq (l.getD k 0) (by simp [List.getD, hk])
    rw [h] at this
    cases this
set_option maxHeartbeats 1600000 in
theorem every_any (g : Nat) (p : Int → Bool) (s : ByteArray) (w : World) (eg : ∀ args w, (callFunc g args).run Tryz.prog w = .ok (.enter g args) w) (hs : s.size ≤ 100000)
    (hf : ∀ (W : World) (x : Int), 0 ≤ x → x < 256 → Calls Tryz.prog g (#[.int .u8 x] ++ #[]) W fun e w' => e = .returned (.bool (p x)) ∧ W = w') :
    Calls Tryz.prog 13 #[.string s, .func (.func g) #[] #[]] w fun e w' => e = .returned (.bool ((nums s).all p)) ∧ w = w' := by
  have HF := hide hf
  have hnl := hide (nums_length s)
  clear hf
  go_enter Tryz.func13, Tryz.ntmps13
  go_wp2
  go_loop [8] (fun i => ∃ k : Nat, k ≤ s.size ∧ i = .int .i64 (k : Int) ∧ Hid (∀ j, j < k → p ((nums s).getD j 0) = true)) (fun i => s.size - (intOf i).toNat)
  case atStart => exact ⟨0, Nat.zero_le _, rfl, fun j hj => absurd hj (Nat.not_lt_zero _)⟩
  case round =>
    obtain ⟨k, hk, rfl, HK⟩ := hrel
    by_cases hlt : k < s.size
    · have hzl : (k : Int) < (s.size : Int) := by omega
      have hz0 : (0 : Int) ≤ (k : Int) := by omega
      obtain ⟨x, hx⟩ : ∃ x : Int, (s[k].toNat : Int) = x := ⟨_, rfl⟩
      have HAT : Hid ((nums s).getD k 0 = x) := by show _ = _; rw [nums_at s k hlt]; exact hx
      have hb : 0 ≤ x ∧ x < 256 := by have := s[k].toNat_lt; omega
      have hc := unhide HF w x hb.1 hb.2
      cases hp : p x <;> rw [hp] at hc
      · have HE : Hid ((nums s).all p = false) := all_fails (k := k) (by rw [unhide hnl]; exact hlt) (by rw [unhide HAT]; exact hp)
        clear hp HK HAT
        go_wp2_with (refine hc.mono ?_; rintro e w2 ⟨rfl, rfl⟩)
        go_ret
        exact ⟨ret_bool (unhide HE).symm, rfl⟩
      · have HK2 : Hid (∀ j, j < k + 1 → p ((nums s).getD j 0) = true) := fun j hj => by
          by_cases e : j = k
          · rw [e, unhide HAT]; exact hp
          · exact unhide HK j (by omega)
        clear hp HK HAT
        go_wp2_with (refine hc.mono ?_; rintro e w2 ⟨rfl, rfl⟩)
        go_round
        case rel => exact ⟨k + 1, by omega, by go_num, unhide HK2⟩
        case measure => simp [intOf]; omega
    · have hzl : ¬ (k : Int) < (s.size : Int) := by omega
      have HE : Hid ((nums s).all p = true) := all_upto (fun j hj => unhide HK j (by rw [unhide hnl] at hj; omega))
      clear HK
      go_wp2
      go_ret
      exact ⟨ret_bool (unhide HE).symm, rfl⟩
/-- The three kinds of bytes. -/
def pAsc (x : Int) : Bool := decide (x < 128)
def pVis (x : Int) : Bool := decide (32 ≤ x) && !(x == 127)
def pNum (x : Int) : Bool := (x == 32) || (decide (48 ≤ x) && decide (x ≤ 57))
theorem asc_fn (x : Int) (w : World) : Calls Tryz.prog 18 (#[.int .u8 x] ++ #[]) w fun e w' => e = .returned (.bool (pAsc x)) ∧ w = w' := by
  have HE : Hid (pAsc x = decide (x < 128)) := rfl
  go_enter Tryz.func18, Tryz.ntmps18
  go_wp2
  go_ret
  exact ⟨ret_bool (unhide HE).symm, rfl⟩
theorem vis_fn (x : Int) (w : World) : Calls Tryz.prog 17 (#[.int .u8 x] ++ #[]) w fun e w' => e = .returned (.bool (pVis x)) ∧ w = w' := by
  by_cases h1 : 32 ≤ x
  · by_cases h2 : x = 127
    · subst h2
      have HE : Hid (pVis 127 = false) := rfl
      go_enter Tryz.func17, Tryz.ntmps17
      go_wp2
      go_ret
      exact ⟨ret_bool (unhide HE).symm, rfl⟩
    · have h2' : (x == 127) = false := by rw [beq_eq_false_iff_ne]; exact h2
      have HE : Hid (pVis x = true) := by show _ = _; unfold pVis; rw [decide_eq_true h1, h2']; rfl
      clear h2
      go_enter Tryz.func17, Tryz.ntmps17
      go_wp2
      go_ret
      exact ⟨ret_bool (by rw [unhide HE]; unfold bne; rw [h2']; rfl), rfl⟩
  · have HE : Hid (pVis x = false) := by show _ = _; unfold pVis; rw [decide_eq_false h1]; rfl
    go_enter Tryz.func17, Tryz.ntmps17
    go_wp2
    go_ret
    exact ⟨ret_bool (unhide HE).symm, rfl⟩
theorem num_fn (x : Int) (w : World) : Calls Tryz.prog 14 (#[.int .u8 x] ++ #[]) w fun e w' => e = .returned (.bool (pNum x)) ∧ w = w' := by
  by_cases h0 : x = 32
  · subst h0
    have HE : Hid (pNum 32 = true) := rfl
    go_enter Tryz.func14, Tryz.ntmps14
    go_wp2
    go_ret
    exact ⟨ret_bool (unhide HE).symm, rfl⟩
  have h0' : (x == 32) = false := by rw [beq_eq_false_iff_ne]; exact h0
  by_cases h1 : 48 ≤ x
  · by_cases h2 : x ≤ 57
    · have HE : Hid (pNum x = true) := by show _ = _; unfold pNum; rw [h0', decide_eq_true h1, decide_eq_true h2]; rfl
      clear h0
      go_enter Tryz.func14, Tryz.ntmps14
      go_wp2
      go_ret
      exact ⟨ret_bool (unhide HE).symm, rfl⟩
    · have HE : Hid (pNum x = false) := by show _ = _; unfold pNum; rw [h0', decide_eq_true h1, decide_eq_false h2]; rfl
      clear h0
      go_enter Tryz.func14, Tryz.ntmps14
      go_wp2
      go_ret
      exact ⟨ret_bool (unhide HE).symm, rfl⟩
  · have HE : Hid (pNum x = false) := by show _ = _; unfold pNum; rw [h0', decide_eq_false h1]; rfl
    clear h0
    go_enter Tryz.func14, Tryz.ntmps14
    go_wp2
    go_ret
    exact ⟨ret_bool (unhide HE).symm, rfl⟩
theorem ev_asc (s : ByteArray) (w : World) (hs : s.size ≤ 100000) : Calls Tryz.prog 13 #[.string s, .func (.func 18) #[] #[]] w fun e w' => e = .returned (.bool ((nums s).all pAsc)) ∧ w = w' :=
  every_any _ pAsc s w (enters_of Tryz.func18 (by kernel_rfl) rfl) hs fun W x _ _ => asc_fn x W
theorem ev_vis (s : ByteArray) (w : World) (hs : s.size ≤ 100000) : Calls Tryz.prog 13 #[.string s, .func (.func 17) #[] #[]] w fun e w' => e = .returned (.bool ((nums s).all pVis)) ∧ w = w' :=
  every_any _ pVis s w (enters_of Tryz.func17 (by kernel_rfl) rfl) hs fun W x _ _ => vis_fn x W
theorem ev_num (s : ByteArray) (w : World) (hs : s.size ≤ 100000) : Calls Tryz.prog 13 #[.string s, .func (.func 14) #[] #[]] w fun e w' => e = .returned (.bool ((nums s).all pNum)) ∧ w = w' :=
  every_any _ pNum s w (enters_of Tryz.func14 (by kernel_rfl) rfl) hs fun W x _ _ => num_fn x W
end Go.Proofs.YtpaenieafkmmeaaGreatDoor
