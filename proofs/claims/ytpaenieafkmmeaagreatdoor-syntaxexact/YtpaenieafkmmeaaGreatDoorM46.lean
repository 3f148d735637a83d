/- What oid's, gauss' and dn's words are told of is ASCII. -/
import Derived.Test.YtpaenieafkmmeaaGreatDoorM20
import Derived.Test.YtpaenieafkmmeaaGreatDoorM43
import Derived.Test.YtpaenieafkmmeaaGreatDoorM44
import Derived.Test.YtpaenieafkmmeaaGreatDoorM27
import Derived.Test.YtpaenieafkmmeaaGreatDoorM33
import Derived.Test.YtpaenieafkmmeaaGreatDoorM42
import Derived.Test.YtpaenieafkmmeaaGreatDoorM41
import Derived.Test.YtpaenieafkmmeaaGreatDoorM45
namespace Go.Proofs.YtpaenieafkmmeaaGreatDoor
set_option maxRecDepth 100000
open Go.RowKit

theorem nums14 (s : ByteArray) : S14.nums s = nums s := rfl
theorem nums17 (s : ByteArray) : S17.nums s = nums s := rfl
theorem nums18 (s : ByteArray) : S18.nums s = nums s := rfl
theorem join_asc : ∀ l : List Int, ∀ x ∈ S17.joinO l, x < 128
  | [], x, h => by simp [S17.joinO] at h
  | y :: l, x, h => by
    simp only [S17.joinO] at h
    rcases List.mem_cons.1 h with h | h
    · omega
    · rcases List.mem_append.1 h with h | h
      · have := S17.digN_bound _ x h; omega
      · exact join_asc l x h
theorem show_asc (l : List Int) : ∀ x ∈ S17.showO l, x < 128 := fun x h => by
  cases l with
  | nil => simp [S17.showO] at h
  | cons y l =>
    simp only [S17.showO] at h
    rcases List.mem_append.1 h with h | h
    · have := S17.digN_bound _ x h; omega
    · exact join_asc l x h
theorem oid_asc {s : ByteArray} (h : S17.parE (S17.nums s) = 0) : ascB s = true := by
  have hp : S17.parO (S17.nums s) ≠ [] := fun e => by
    rw [S17.parE_none e] at h
    omega
  have := (S17.par_ok _ hp).2
  refine ascB_nums fun x hx => ?_
  rw [← nums17, ← this] at hx
  exact show_asc _ x hx
theorem txt_asc (a b : Int) : ∀ x ∈ S14.txt a b, x < 128 := by
  intro x hx
  have ha := S14.digZ_bound a
  have hb := S14.digZ_bound b
  unfold S14.txt at hx
  split at hx
  · have := ha x hx; omega
  · split at hx
    · rcases List.mem_append.1 hx with h | h
      · have := hb x h; omega
      · simp at h; omega
    · split at hx
      · rcases List.mem_append.1 hx with h | h
        · have := ha x h; omega
        · rcases List.mem_cons.1 h with h | h
          · omega
          · rcases List.mem_append.1 h with h | h
            · have := hb x h; omega
            · simp at h; omega
      · rcases List.mem_append.1 hx with h | h
        · have := ha x h; omega
        · rcases List.mem_append.1 h with h | h
          · have := hb x h; omega
          · simp at h; omega
theorem gauss_asc {s : ByteArray} (h : S14.parF (S14.nums s) = 0) : ascB s = true := by
  have hk : S14.okG (S14.nums s) = true := by
    unfold S14.parF at h
    split at h
    · assumption
    · omega
  have := (S14.ok_in hk).2.2.2.2
  refine ascB_nums fun x hx => ?_
  rw [← nums14, ← this] at hx
  exact txt_asc _ _ x hx
theorem word_asc {s : ByteArray} (h : S18.wrdB (S18.nums s) = true) : ascB s = true := ascB_nums fun x hx => by
  have := S18.wrdC_in (S18.wrd_all h x hx)
  omega
theorem num_asc {s : ByteArray} (h : (nums s).all pNum = true) : ascB s = true := ascB_nums fun x hx => by
  have h2 := List.all_eq_true.1 h x hx
  unfold pNum at h2
  simp at h2
  omega
theorem true_asc {s : ByteArray} (h : s.data.toList = [84, 82, 85, 69] ∨ s.data.toList = [70, 65, 76, 83, 69]) : ascB s = true := ascB_of fun b hb => by
  rcases h with h | h <;> (rw [h] at hb; revert b; decide)
theorem int_asc {s : ByteArray} {n : Int} (h : intP s = some n) : ascB s = true := ascB_of (intP_asc h)
end Go.Proofs.YtpaenieafkmmeaaGreatDoor
/- The landed is, syntax by syntax, of layer 19. -/
namespace Go.Proofs.YtpaenieafkmmeaaGreatDoor
set_option maxRecDepth 100000
open Go.RowKit

/-- What the variables hold that the calls read. -/
def LA (w : World) : Prop := L12 w ∧ S17.Ly w
theorem LA.keep {w w2 : World} (h : LA w) (hb : Below w.heap.size w w2) : LA w2 := ⟨h.1.keep hb, h.2.keep hb⟩
theorem LA.ly18 {w : World} (h : LA w) : S18.Ly w := h.2.2.1
theorem emp_no {s : ByteArray} (h : s.size ≠ 0) : s.toList.isEmpty = false := by
  rw [Lib.toList_data]
  cases e : s.data.toList with
  | nil => have := Lib.size_eq s; rw [e, List.length_nil] at this; omega
  | cons _ _ => rfl
theorem emp_yes {s : ByteArray} (h : s.size = 0) : s.toList.isEmpty = true := by
  rw [Lib.toList_data]
  cases e : s.data.toList with
  | nil => rfl
  | cons _ _ => have := Lib.size_eq s; rw [e, List.length_cons] at this; omega

set_option maxHeartbeats 1000000 in
theorem sx1 (s : ByteArray) (w : World) (hL : LA w) (hs : s.size ≤ 400) (h : ascB s = true) (h0 : s.size ≠ 0) : Calls Tryz.prog 10 #[.int .i64 1, .string s] w fun e w' => e = .returned (.bool true) ∧ Below w.heap.size w w' := by
  have C1 := hide (pval19 s w hL.1 h hs)
  have hem := emp_no h0
  clear hL h h0 hs
  go_enter Tryz.func10, Tryz.ntmps10
  go_wp2_with (go_at_call 15; refine (unhide C1).mono ?_; rintro e w2 ⟨t, rfl, b2⟩)
  go_ret
  exact ⟨rfl, b2⟩
set_option maxHeartbeats 1000000 in
theorem sx2 (s : ByteArray) (w : World) (hs : s.size ≤ 400) : Calls Tryz.prog 10 #[.int .i64 2, .string s] w fun e w' => e = .returned (.bool (ascB s)) ∧ w = w' := by
  have C2 := hide (fun W => ev_asc s W (by omega))
  have HE : Hid ((nums s).all pAsc = ascB s) := rfl
  rw [unhide HE] at C2
  clear HE
  generalize ascB s = q at *
  cases q
  all_goals
    go_enter Tryz.func10, Tryz.ntmps10
    go_wp2_with (go_at_call 13; refine (unhide C2 _).mono ?_; rintro e w3 ⟨rfl, rfl⟩)
    go_ret
    exact ⟨rfl, rfl⟩
set_option maxHeartbeats 1000000 in
theorem sx3 (s : ByteArray) (w : World) (hL : LA w) (hs : s.size ≤ 400) : Calls Tryz.prog 10 #[.int .i64 3, .string s] w fun e w' => e = .returned (.bool (decide (intE s = 0))) ∧ Below w.heap.size w w' := by
  have C1 := hide (int_any s w hL.2 (by omega))
  generalize intN s = m at *
  generalize intE s = x at *
  by_cases hx : x = 0
  · subst hx
    go_enter Tryz.func10, Tryz.ntmps10
    go_wp2_with (go_at_call 8; refine (unhide C1).mono ?_; rintro e w2 ⟨rfl, b2⟩)
    go_ret
    exact ⟨rfl, b2⟩
  · have hx' : (x == 0) = false := by rw [beq_eq_false_iff_ne]; exact hx
    have HD : Hid (decide (x = 0) = false) := decide_eq_false hx
    clear hx
    go_enter Tryz.func10, Tryz.ntmps10
    go_wp2_with (go_at_call 8; refine (unhide C1).mono ?_; rintro e w2 ⟨rfl, b2⟩)
    go_ret
    exact ⟨ret_bool (unhide HD).symm, b2⟩
set_option maxHeartbeats 1000000 in
theorem sx4 (s : ByteArray) (w : World) : Calls Tryz.prog 10 #[.int .i64 4, .string s] w fun e w' => e = .returned (.bool ((s.toList == [84, 82, 85, 69]) || (s.toList == [70, 65, 76, 83, 69]))) ∧ w = w' := by
  cases h1 : (s.toList == [84, 82, 85, 69]) <;> cases h2 : (s.toList == [70, 65, 76, 83, 69])
  all_goals
    go_enter Tryz.func10, Tryz.ntmps10
    go_wp2
    go_ret
    exact ⟨rfl, rfl⟩
set_option maxHeartbeats 1000000 in
theorem sx5 (s : ByteArray) (w : World) : Calls Tryz.prog 10 #[.int .i64 5, .string s] w fun e w' => e = .returned (.bool true) ∧ w = w' := by
  go_enter Tryz.func10, Tryz.ntmps10
  go_wp2
  go_ret
  exact ⟨rfl, rfl⟩
set_option maxHeartbeats 1000000 in
theorem sx6 (s : ByteArray) (w : World) (hL : LA w) : Calls Tryz.prog 10 #[.int .i64 6, .string s] w fun e w' => e = .returned (.bool (decide (S18.parE (S18.nums s) = 0))) ∧ Below w.heap.size w w' := by
  have C1 : Hid (Calls Tryz.prog 19 #[.string s] w fun e w' => ∃ v, e = .returned (.tuple #[v, .int .i64 (S18.parE (S18.nums s))]) ∧ Below w.heap.size w w') := (S18.parse_any s w hL.ly18).mono fun e w' ⟨v, he, _, hb⟩ => ⟨v, he, hb⟩
  generalize S18.parE (S18.nums s) = x at *
  by_cases hx : x = 0
  · subst hx
    go_enter Tryz.func10, Tryz.ntmps10
    go_wp2_with (go_at_call 19; refine (unhide C1).mono ?_; rintro e w2 ⟨v, rfl, b2⟩)
    go_ret
    exact ⟨rfl, b2⟩
  · have hx' : (x == 0) = false := by rw [beq_eq_false_iff_ne]; exact hx
    have HD : Hid (decide (x = 0) = false) := decide_eq_false hx
    clear hx
    go_enter Tryz.func10, Tryz.ntmps10
    go_wp2_with (go_at_call 19; refine (unhide C1).mono ?_; rintro e w2 ⟨v, rfl, b2⟩)
    go_ret
    exact ⟨ret_bool (unhide HD).symm, b2⟩
set_option maxHeartbeats 1000000 in
theorem sx10 (s : ByteArray) (w : World) (hs : s.size ≤ 400) : Calls Tryz.prog 10 #[.int .i64 10, .string s] w fun e w' => e = .returned (.bool (decide (S14.parF (S14.nums s) = 0))) ∧ Below w.heap.size w w' := by
  have C1 : Hid (Calls Tryz.prog 22 #[.string s] w fun e w' => ∃ v, e = .returned (.tuple #[v, .int .i64 (S14.parF (S14.nums s))]) ∧ Below w.heap.size w w') := (S14.gparse_w s w (by omega)).mono fun e w' ⟨he, hg⟩ => ⟨_, he, S14.Gr.below hg⟩
  generalize S14.parF (S14.nums s) = x at *
  by_cases hx : x = 0
  · subst hx
    go_enter Tryz.func10, Tryz.ntmps10
    go_wp2_with (go_at_call 22; refine (unhide C1).mono ?_; rintro e w2 ⟨v, rfl, b2⟩)
    go_ret
    exact ⟨rfl, b2⟩
  · have hx' : (x == 0) = false := by rw [beq_eq_false_iff_ne]; exact hx
    have HD : Hid (decide (x = 0) = false) := decide_eq_false hx
    clear hx
    go_enter Tryz.func10, Tryz.ntmps10
    go_wp2_with (go_at_call 22; refine (unhide C1).mono ?_; rintro e w2 ⟨v, rfl, b2⟩)
    go_ret
    exact ⟨ret_bool (unhide HD).symm, b2⟩
set_option maxHeartbeats 1000000 in
theorem sx7 (s : ByteArray) (w : World) (hL : LA w) (hs : s.size ≤ 400) : Calls Tryz.prog 10 #[.int .i64 7, .string s] w fun e w' => e = .returned (.bool ((nums s).all pNum && decide (s.size ≠ 0))) ∧ Below w.heap.size w w' := by
  have C2 := hide (fun W => ev_num s W (by omega))
  cases hq : (nums s).all pNum <;> rw [hq] at C2
  · clear hq hL
    go_enter Tryz.func10, Tryz.ntmps10
    go_wp2_with (go_at_call 13; refine (unhide C2 _).mono ?_; rintro e w3 ⟨rfl, rfl⟩)
    go_ret
    exact ⟨rfl, Below.refl _ _⟩
  by_cases h0 : s.size = 0
  · have hem := emp_yes h0
    have HD : Hid ((true && decide (s.size ≠ 0)) = false) := by show _ = _; simp [h0]
    clear hq h0 hL
    go_enter Tryz.func10, Tryz.ntmps10
    go_wp2_with (go_at_call 13; refine (unhide C2 _).mono ?_; rintro e w3 ⟨rfl, rfl⟩)
    go_ret
    exact ⟨ret_bool (unhide HD).symm, Below.refl _ _⟩
  · have C1 := hide (pval19 s w hL.1 (num_asc hq) hs)
    have hem := emp_no h0
    have HD : Hid ((true && decide (s.size ≠ 0)) = true) := by show _ = _; simp [h0]
    clear hq h0 hL hs
    go_enter Tryz.func10, Tryz.ntmps10
    go_wp2_with (first
      | (go_at_call 15; refine (unhide C1).mono ?_; rintro e w2 ⟨t, rfl, b2⟩)
      | (go_at_call 13; refine (unhide C2 _).mono ?_; rintro e w3 ⟨rfl, rfl⟩))
    go_ret
    exact ⟨ret_bool (unhide HD).symm, b2⟩
set_option maxHeartbeats 1000000 in
theorem sx8 (s : ByteArray) (w : World) (hs : s.size ≤ 400) : Calls Tryz.prog 10 #[.int .i64 8, .string s] w fun e w' => ∃ b, e = .returned (.bool b) ∧ (b = true → ascB s = true) ∧ Below w.heap.size w w' := by
  have C1 := hide (cany19_some s w hs)
  have C2 := hide (fun W => ev_vis s W (by omega))
  have C3 := hide (fun W => ev_asc s W (by omega))
  have HE : Hid ((nums s).all pAsc = ascB s) := rfl
  generalize (nums s).all pVis = p at *
  generalize (nums s).all pAsc = q at *
  have e19 : dig19 = ⟨#[48, 49, 50, 51, 52, 53, 54, 55, 56, 57]⟩ := rfl
  rw [e19] at C1
  clear e19
  cases p <;> cases q
  all_goals
    go_enter Tryz.func10, Tryz.ntmps10
    go_wp2_with (first
      | (go_at_call 13; have M3 := F2; refine (unhide C3 _).mono ?_; rintro e w3 ⟨rfl, rfl⟩)
      | (go_at_call 13; refine (unhide C2 _).mono ?_; rintro e w3 ⟨rfl, rfl⟩; have F2 := trivial)
      | (go_at_call 16; refine (unhide C1).mono ?_; rintro e w2 ⟨b, rfl, b2⟩; cases b))
    all_goals
      go_ret
      exact ⟨_, rfl, (fun h => by first | exact (unhide HE).symm | cases h), b2⟩
set_option maxHeartbeats 1000000 in
theorem sx8a (s : ByteArray) (w : World) (hs : s.size ≤ 400) (ha : ascB s = true) : Calls Tryz.prog 10 #[.int .i64 8, .string s] w fun e w' => e = .returned (.bool (Lib.containsAny s.data.toList dig19.data.toList && (nums s).all pVis)) ∧ Below w.heap.size w w' := by
  have C1 := hide (cany19 s w (by omega) (ascB_data ha))
  have C2 := hide (fun W => ev_vis s W (by omega))
  have C3 := hide (fun W => ev_asc s W (by omega))
  have HE : Hid ((nums s).all pAsc = true) := ha
  rw [unhide HE] at C3
  generalize Lib.containsAny s.data.toList dig19.data.toList = c at *
  generalize (nums s).all pVis = p at *
  have e19 : dig19 = ⟨#[48, 49, 50, 51, 52, 53, 54, 55, 56, 57]⟩ := rfl
  rw [e19] at C1
  clear e19 HE ha
  cases c <;> cases p
  all_goals
    go_enter Tryz.func10, Tryz.ntmps10
    go_wp2_with (first
      | (go_at_call 13; have M3 := F2; refine (unhide C3 _).mono ?_; rintro e w3 ⟨rfl, rfl⟩)
      | (go_at_call 13; refine (unhide C2 _).mono ?_; rintro e w3 ⟨rfl, rfl⟩; have F2 := trivial)
      | (go_at_call 16; refine (unhide C1).mono ?_; rintro e w2 ⟨rfl, b2⟩))
    go_ret
    exact ⟨rfl, b2⟩
set_option maxHeartbeats 1000000 in
theorem sx9 (s : ByteArray) (w : World) (hL : LA w) (hs : s.size ≤ 400) : Calls Tryz.prog 10 #[.int .i64 9, .string s] w fun e w' => e = .returned (.bool (S18.wrdB (S18.nums s) || decide (S17.parE (S17.nums s) = 0))) ∧ Below w.heap.size w w' := by
  have CW := hide (S18.word_any s)
  have C1 : Hid (∀ W, LA W → Calls Tryz.prog 21 #[.string s] W fun e w' => ∃ v, e = .returned (.tuple #[v, .int .i64 (S17.parE (S17.nums s))]) ∧ Below W.heap.size W w') := fun W h => (S17.oparse_w s W h.2 (by omega)).mono fun e w' ⟨v, he, _, hb⟩ => ⟨v, he, hb⟩
  have HL := hide hL
  generalize S18.wrdB (S18.nums s) = q at *
  generalize S17.parE (S17.nums s) = x at *
  clear hL
  cases q
  · by_cases hx : x = 0
    · subst hx
      go_enter Tryz.func10, Tryz.ntmps10
      go_wp2_with (first
        | (go_at_call 21; refine (unhide C1 _ (unhide HL)).mono ?_; rintro e w2 ⟨v, rfl, b2⟩)
        | (go_at_call 20; refine (unhide CW _).mono ?_; rintro e w3 ⟨rfl, rfl⟩))
      go_ret
      exact ⟨rfl, b2⟩
    · have hx' : (x == 0) = false := by rw [beq_eq_false_iff_ne]; exact hx
      have HD : Hid ((false || decide (x = 0)) = false) := by show _ = _; simp [hx]
      clear hx
      go_enter Tryz.func10, Tryz.ntmps10
      go_wp2_with (first
        | (go_at_call 21; refine (unhide C1 _ (unhide HL)).mono ?_; rintro e w2 ⟨v, rfl, b2⟩)
        | (go_at_call 20; refine (unhide CW _).mono ?_; rintro e w3 ⟨rfl, rfl⟩))
      go_ret
      exact ⟨ret_bool (unhide HD).symm, b2⟩
  · have HD : Hid ((true || decide (x = 0)) = true) := rfl
    clear C1
    go_enter Tryz.func10, Tryz.ntmps10
    go_wp2_with (go_at_call 20; refine (unhide CW _).mono ?_; rintro e w3 ⟨rfl, rfl⟩)
    go_ret
    exact ⟨ret_bool (unhide HD).symm, Below.refl _ _⟩
end Go.Proofs.YtpaenieafkmmeaaGreatDoor
