/- Apart, the program's and the document's. -/
import Derived.Test.YtcgkdiflhlmlgaaDoorJoinW
namespace Go.Proofs.YtcgkdiflhlmlgaaDoor
open Go.RowKit

theorem Rn.new1 (w : World) (x : Int) : Rn w.heap.size (.slice (.some ⟨w.heap.size, 0, none⟩) 1 1) [x] (w.alloc (.cells #[.int .i32 x] 21)) := Rn.new w _ [x] _ rfl (Nat.le_refl _) (by simp)
theorem Rn.new2 (w : World) (x y : Int) : Rn w.heap.size (.slice (.some ⟨w.heap.size, 0, none⟩) 2 2) [x, y] (w.alloc (.cells #[.int .i32 x, .int .i32 y] 21)) := Rn.new w _ [x, y] _ rfl (Nat.le_refl _) (by simp)
theorem Rn.new3 (w : World) (x y z : Int) : Rn w.heap.size (.slice (.some ⟨w.heap.size, 0, none⟩) 3 3) [x, y, z] (w.alloc (.cells #[.int .i32 x, .int .i32 y, .int .i32 z] 21)) := Rn.new w _ [x, y, z] _ rfl (Nat.le_refl _) (by simp)
theorem Below.one (w : World) (o : Obj) : Below w.heap.size w (w.alloc o) := (Gr.one w o).below

set_option maxHeartbeats 800000 in
theorem apart_no (r : Int) (w : World) (h0 : isSyl r = false) :
    Calls Tryd.prog 13 #[.int .i32 r] w fun e w' => ∃ v, e = .returned v ∧ Rn w.heap.size v [r] w' ∧ Below w.heap.size w w' := by
  have HS : Hid (∀ w, Calls Tryd.prog 8 #[.int .i32 r] w fun e w' => e = .returned (.bool false) ∧ w = w') := fun w => by rw [← h0]; exact (syl_any r w).mono fun _ _ ⟨a, b⟩ => ⟨a, b.symm⟩
  go_enter Tryd.func13, Tryd.ntmps13
  go_wp2_with (go_at_call 8; refine (unhide HS _).mono ?_; rintro e w' ⟨rfl, rfl⟩)
  go_ret
  exact ⟨_, rfl, Rn.new1 w r, Below.one w _⟩

set_option maxHeartbeats 800000 in
theorem rapart_no (r : Int) (w : World) (h0 : isSyl r = false) :
    Calls Tryd.prog 14 #[.int .i32 r] w fun e w' => ∃ v, e = .returned v ∧ Rn w.heap.size v [r] w' ∧ Below w.heap.size w w' := by
  have HS : Hid (∀ w, Calls Tryd.prog 9 #[.int .i32 r] w fun e w' => e = .returned (.bool false) ∧ w = w') := fun w => by rw [← h0]; exact (rsyl_any r w).mono fun _ _ ⟨a, b⟩ => ⟨a, b.symm⟩
  go_enter Tryd.func14, Tryd.ntmps14
  go_wp2_with (go_at_call 9; refine (unhide HS _).mono ?_; rintro e w' ⟨rfl, rfl⟩)
  go_ret
  exact ⟨_, rfl, Rn.new1 w r, Below.one w _⟩

set_option maxHeartbeats 1600000 in
theorem apart_open (r : Int) (w : World) (hL : Lay w) (h0 : isSyl r = true) (h1 : (r - 44032) % 28 = 0) :
    Calls Tryd.prog 13 #[.int .i32 r] w fun e w' => ∃ v, e = .returned v ∧ Rn w.heap.size v (apt r) w' ∧ Below w.heap.size w w' := by
  have HS : Hid (∀ w, Calls Tryd.prog 8 #[.int .i32 r] w fun e w' => e = .returned (.bool true) ∧ w = w') := fun w => by rw [← h0]; exact (syl_any r w).mono fun _ _ ⟨a, b⟩ => ⟨a, b.symm⟩
  rw [apt_open h0 h1]
  have hx := (syl_iff r).1 h0
  have k1 : IntKind.i32.wrap (r - 44032) = r - 44032 := wrap_in (by omega) (by omega)
  have k2 : IntKind.i32.wrap (4352 + (r - 44032) / 588) = 4352 + (r - 44032) / 588 := wrap_in (by omega) (by omega)
  have k3 : IntKind.i32.wrap (4449 + (r - 44032) / 28 % 21) = 4449 + (r - 44032) / 28 % 21 := wrap_in (by omega) (by omega)
  have F1 : Hid (∀ w, Lay w → Calls Tryd.prog 21 #[.int .i64 1] w fun e w' => e = .returned (.int .i32 4352) ∧ w = w') := fun w h => (first_1 w h).mono fun _ _ ⟨a, b⟩ => ⟨a, b.symm⟩
  have F2 : Hid (∀ w, Lay w → Calls Tryd.prog 21 #[.int .i64 2] w fun e w' => e = .returned (.int .i32 4449) ∧ w = w') := fun w h => (first_2 w h).mono fun _ _ ⟨a, b⟩ => ⟨a, b.symm⟩
  have HN := hide (Rn.new2 w (4352 + (r - 44032) / 588) (4449 + (r - 44032) / 28 % 21))
  go_enter Tryd.func13, Tryd.ntmps13
  go_wp2_with (first
    | (go_at_call 8; refine (unhide HS _).mono ?_; rintro e w' ⟨rfl, rfl⟩)
    | (go_at_call 21; (first | refine (unhide F1 _ hL).mono ?_ | refine (unhide F2 _ hL).mono ?_); rintro e w9 ⟨rfl, rfl⟩))
  go_ret
  exact ⟨_, rfl, unhide HN, Below.one w _⟩

set_option maxHeartbeats 1600000 in
theorem apart_closed (r : Int) (w : World) (hL : Lay w) (h0 : isSyl r = true) (h1 : ¬ (r - 44032) % 28 = 0) :
    Calls Tryd.prog 13 #[.int .i32 r] w fun e w' => ∃ v, e = .returned v ∧ Rn w.heap.size v (apt r) w' ∧ Below w.heap.size w w' := by
  obtain ⟨i0, hi, hz0, hz1, hz2⟩ := info_parts elem_info
  have HS : Hid (∀ w, Calls Tryd.prog 8 #[.int .i32 r] w fun e w' => e = .returned (.bool true) ∧ w = w') := fun w => by rw [← h0]; exact (syl_any r w).mono fun _ _ ⟨a, b⟩ => ⟨a, b.symm⟩
  rw [apt_closed h0 h1]
  have hx := (syl_iff r).1 h0
  have k0 : 0 < (r - 44032) % 28 := by omega
  have k1 : IntKind.i32.wrap (r - 44032) = r - 44032 := wrap_in (by omega) (by omega)
  have k2 : IntKind.i32.wrap (4352 + (r - 44032) / 588) = 4352 + (r - 44032) / 588 := wrap_in (by omega) (by omega)
  have k3 : IntKind.i32.wrap (4449 + (r - 44032) / 28 % 21) = 4449 + (r - 44032) / 28 % 21 := wrap_in (by omega) (by omega)
  have k4 : IntKind.i32.wrap (4520 + (r - 44032) % 28) = 4520 + (r - 44032) % 28 := wrap_in (by omega) (by omega)
  have k5 : IntKind.i32.wrap (4520 + (r - 44032) % 28 - 1) = 4519 + (r - 44032) % 28 := (wrap_in (by omega) (by omega)).trans (by omega)
  have F1 : Hid (∀ w, Lay w → Calls Tryd.prog 21 #[.int .i64 1] w fun e w' => e = .returned (.int .i32 4352) ∧ w = w') := fun w h => (first_1 w h).mono fun _ _ ⟨a, b⟩ => ⟨a, b.symm⟩
  have F2 : Hid (∀ w, Lay w → Calls Tryd.prog 21 #[.int .i64 2] w fun e w' => e = .returned (.int .i32 4449) ∧ w = w') := fun w h => (first_2 w h).mono fun _ _ ⟨a, b⟩ => ⟨a, b.symm⟩
  have F3 : Hid (∀ w, Lay w → Calls Tryd.prog 21 #[.int .i64 3] w fun e w' => e = .returned (.int .i32 4520) ∧ w = w') := fun w h => (first_3 w h).mono fun _ _ ⟨a, b⟩ => ⟨a, b.symm⟩
  have HN := hide (Rn.new2 w (4352 + (r - 44032) / 588) (4449 + (r - 44032) / 28 % 21))
  have HL2 : Hid (Lay (w.alloc (.cells #[.int .i32 (4352 + (r - 44032) / 588), .int .i32 (4449 + (r - 44032) / 28 % 21)] 21))) := hL.gr (Gr.one _ _)
  have hm1 : 2 + 1 ≤ maxLen := by unfold maxLen; omega
  have hm2 : (2 + 1) * 4 ≤ 140737488355328 := by omega
  go_enter Tryd.func13, Tryd.ntmps13
  go_wp2_with (first
    | (go_at_call 8; refine (unhide HS _).mono ?_; rintro e w' ⟨rfl, rfl⟩)
    | (go_at_call 21; (first | refine (unhide F1 _ hL).mono ?_ | refine (unhide F2 _ hL).mono ?_ | refine (unhide F3 _ (unhide HL2)).mono ?_); rintro e w9 ⟨rfl, rfl⟩)
    | (at_builtin; refine wpList_append_lies _ rfl _ _ 25 rfl w.heap.size 21 i0 _ 1 4 Tryd.underlying25 hi hz0 hz1 hz2 rfl (by omega) _ 2 [.int .i32 (4352 + (r - 44032) / 588), .int .i32 (4449 + (r - 44032) / 28 % 21)] rfl (World.ownsRow.alloc (unhide HN) _) ⟨w.heap.size + 1, 0, none⟩ 1 1 [.int .i32 (4519 + (r - 44032) % 28)] rfl rfl (World.news_of_block (B := w.heap.size + 1) (cs := #[.int .i32 (4519 + (r - 44032) % 28)]) (t := 21) (fr := (0, 0)) (by rw [← World.size_alloc w (.cells #[.int .i32 (4352 + (r - 44032) / 588), .int .i32 (4449 + (r - 44032) / 28 % 21)] 21)]; exact heap_new _ _)) (by simp [Value.oneCell']) (by omega) hm1 hm2 (by simp; omega) (w.heap.size + 2) (by simp) ?_; intro g9 cap9 w9 hown9 hgrow9 hat9 hlt9))
  go_ret
  refine ⟨_, rfl, hown9, ((Below.one w _).alloc (by simp) _).trans (below_own hgrow9 (by simp; omega) (own_block (unhide HN)))⟩

set_option maxHeartbeats 1600000 in
theorem rapart_open (r : Int) (w : World) (h0 : isSyl r = true) (h1 : (r - 44032) % 28 = 0) :
    Calls Tryd.prog 14 #[.int .i32 r] w fun e w' => ∃ v, e = .returned v ∧ Rn w.heap.size v (apt r) w' ∧ Below w.heap.size w w' := by
  have HS : Hid (∀ w, Calls Tryd.prog 9 #[.int .i32 r] w fun e w' => e = .returned (.bool true) ∧ w = w') := fun w => by rw [← h0]; exact (rsyl_any r w).mono fun _ _ ⟨a, b⟩ => ⟨a, b.symm⟩
  rw [apt_open h0 h1]
  have hx := (syl_iff r).1 h0
  have k1 : IntKind.i32.wrap (r - 44032) = r - 44032 := wrap_in (by omega) (by omega)
  have k2 : IntKind.i32.wrap (4352 + (r - 44032) / 588) = 4352 + (r - 44032) / 588 := wrap_in (by omega) (by omega)
  have k3 : IntKind.i32.wrap (4449 + (r - 44032) / 28 % 21) = 4449 + (r - 44032) / 28 % 21 := wrap_in (by omega) (by omega)
  have HN := hide (Rn.new2 w (4352 + (r - 44032) / 588) (4449 + (r - 44032) / 28 % 21))
  go_enter Tryd.func14, Tryd.ntmps14
  go_wp2_with (go_at_call 9; refine (unhide HS _).mono ?_; rintro e w' ⟨rfl, rfl⟩)
  go_ret
  exact ⟨_, rfl, unhide HN, Below.one w _⟩

set_option maxHeartbeats 1600000 in
theorem rapart_closed (r : Int) (w : World) (h0 : isSyl r = true) (h1 : ¬ (r - 44032) % 28 = 0) :
    Calls Tryd.prog 14 #[.int .i32 r] w fun e w' => ∃ v, e = .returned v ∧ Rn w.heap.size v (apt r) w' ∧ Below w.heap.size w w' := by
  have HS : Hid (∀ w, Calls Tryd.prog 9 #[.int .i32 r] w fun e w' => e = .returned (.bool true) ∧ w = w') := fun w => by rw [← h0]; exact (rsyl_any r w).mono fun _ _ ⟨a, b⟩ => ⟨a, b.symm⟩
  rw [apt_closed h0 h1]
  have hx := (syl_iff r).1 h0
  have k1 : IntKind.i32.wrap (r - 44032) = r - 44032 := wrap_in (by omega) (by omega)
  have k2 : IntKind.i32.wrap (4352 + (r - 44032) / 588) = 4352 + (r - 44032) / 588 := wrap_in (by omega) (by omega)
  have k3 : IntKind.i32.wrap (4449 + (r - 44032) / 28 % 21) = 4449 + (r - 44032) / 28 % 21 := wrap_in (by omega) (by omega)
  have k4 : IntKind.i32.wrap (4519 + (r - 44032) % 28) = 4519 + (r - 44032) % 28 := wrap_in (by omega) (by omega)
  have HN := hide (Rn.new3 w (4352 + (r - 44032) / 588) (4449 + (r - 44032) / 28 % 21) (4519 + (r - 44032) % 28))
  go_enter Tryd.func14, Tryd.ntmps14
  go_wp2_with (go_at_call 9; refine (unhide HS _).mono ?_; rintro e w' ⟨rfl, rfl⟩)
  go_ret
  exact ⟨_, rfl, unhide HN, Below.one w _⟩

/-- Apart, of any number. -/
theorem apart_any (r : Int) (w : World) (hL : Lay w) : Calls Tryd.prog 13 #[.int .i32 r] w fun e w' => ∃ v, e = .returned v ∧ Rn w.heap.size v (apt r) w' ∧ Below w.heap.size w w' := by
  cases h : isSyl r
  · rw [apt_none h]; exact apart_no r w h
  · by_cases h1 : (r - 44032) % 28 = 0
    · exact apart_open r w hL h h1
    · exact apart_closed r w hL h h1
/-- The document's Apart, of any number. -/
theorem rapart_any (r : Int) (w : World) : Calls Tryd.prog 14 #[.int .i32 r] w fun e w' => ∃ v, e = .returned v ∧ Rn w.heap.size v (apt r) w' ∧ Below w.heap.size w w' := by
  cases h : isSyl r
  · rw [apt_none h]; exact rapart_no r w h
  · by_cases h1 : (r - 44032) % 28 = 0
    · exact rapart_open r w h h1
    · exact rapart_closed r w h h1
end Go.Proofs.YtcgkdiflhlmlgaaDoor
