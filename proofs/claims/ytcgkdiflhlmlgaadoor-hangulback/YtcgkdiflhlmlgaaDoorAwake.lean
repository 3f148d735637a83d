/- The fixed answers that every law of this stage asks. -/
import Derived.Test.YtcgkdiflhlmlgaaDoorApartsW
namespace Go.Proofs.YtcgkdiflhlmlgaaDoor
open Go.RowKit

theorem apt_44033 : apt 44033 = [4352, 4449, 4520] := by decide
theorem whl_four : whl [4352, 4449, 4520, 65] = [44033, 65] := by decide
theorem syl_last : isSyl 55203 = true := by decide
theorem part_first : part 44032 = 4 := by decide
theorem jB_no : jB 65 4449 = false := by decide
theorem jR_no : jR 65 4449 = 0 := by decide

theorem aw1 (W : World) (h : Lay W) : Calls Tryd.prog 13 #[.int .i32 44033] W fun e w' => ∃ v, e = .returned v ∧ Row w' v [4352, 4449, 4520] ∧ Below W.heap.size W w' :=
  (apart_any 44033 W h).mono fun _ _ ⟨v, he, hr, hb⟩ => ⟨v, he, by rw [apt_44033] at hr; exact hr.row, hb⟩
theorem aw2 (W : World) (h : Lay W) : Calls Tryd.prog 18 #[.slice (some ⟨W.heap.size, 0, none⟩) 4 4] (W.alloc (.cells #[.int .i32 4352, .int .i32 4449, .int .i32 4520, .int .i32 65] 21)) fun e w' => ∃ v, e = .returned v ∧ Row w' v [44033, 65] ∧ Below W.heap.size W w' :=
  (whole_any _ [4352, 4449, 4520, 65] _ (by decide) (h.gr (Gr.one _ _)) (row_new W [4352, 4449, 4520, 65] _ _ rfl)).mono fun _ _ ⟨v, he, hr, hb⟩ => ⟨v, he, by rw [whl_four] at hr; exact hr.row, below_new hb⟩
theorem aw3 (W : World) (h : Lay W) : Calls Tryd.prog 16 #[.int .i32 65, .int .i32 4449] W fun e w' => e = .returned (.tuple #[.int .i32 0, .bool false]) ∧ Below W.heap.size W w' :=
  (join_any 65 4449 W h).mono fun _ _ ⟨he, hg⟩ => ⟨he.trans (ret_rb jR_no jB_no), hg.below⟩
theorem aw4 (W : World) (v : Value) (h : Row W v [4352, 4449, 4520]) : Calls Tryd.prog 12 #[v, .slice (some ⟨W.heap.size, 0, none⟩) 3 3] (W.alloc (.cells #[.int .i32 4352, .int .i32 4449, .int .i32 4520] 21)) fun e w' => e = .returned (.bool true) ∧ Below W.heap.size W w' :=
  (same_any _ _ [4352, 4449, 4520] _ (by decide) (h.below (Below.one _ _)) (row_new W [4352, 4449, 4520] _ _ rfl)).mono fun _ _ ⟨he, hb⟩ => ⟨he, below_new hb⟩
theorem aw5 (W : World) (v : Value) (h : Row W v [44033, 65]) : Calls Tryd.prog 12 #[v, .slice (some ⟨W.heap.size, 0, none⟩) 2 2] (W.alloc (.cells #[.int .i32 44033, .int .i32 65] 21)) fun e w' => e = .returned (.bool true) ∧ Below W.heap.size W w' :=
  (same_any _ _ [44033, 65] _ (by decide) (h.below (Below.one _ _)) (row_new W [44033, 65] _ _ rfl)).mono fun _ _ ⟨he, hb⟩ => ⟨he, below_new hb⟩
theorem aw6 (W : World) : Calls Tryd.prog 8 #[.int .i32 55203] W fun e w' => e = .returned (.bool true) ∧ W = w' :=
  (syl_any 55203 W).mono fun _ _ ⟨he, hw⟩ => ⟨he.trans (ret_bool syl_last), hw.symm⟩
theorem aw7 (W : World) (h : Lay W) : Calls Tryd.prog 10 #[.int .i32 44032] W fun e w' => e = .returned (.int .i64 4) ∧ Below W.heap.size W w' :=
  (part_any 44032 W h).mono fun _ _ ⟨he, hg⟩ => ⟨he.trans (ret_int part_first), hg.below⟩

set_option maxHeartbeats 1600000 in
theorem awake_any (w : World) (hL : Lay w) : Calls Tryd.prog 15 #[] w fun e w' => e = .returned (.bool true) ∧ Below w.heap.size w w' := by
  have H1 := hide aw1
  have H2 := hide aw2
  have H3 := hide aw3
  have H4 := hide aw4
  have H5 := hide aw5
  have H6 := hide aw6
  have H7 := hide aw7
  have hpos := hL.pos
  go_enter Tryd.func15, Tryd.ntmps15
  go_wp2_with (first
    | (go_at_call 13; refine (unhide H1 _ hL).mono ?_; rintro e w1 ⟨v1, rfl, r1, b1⟩; have hL1 := hL.below b1 hpos; have hp1 := hL1.pos)
    | (go_at_call 18; refine (unhide H2 _ hL1).mono ?_; rintro e w2 ⟨v2, rfl, r2, b2⟩; have hL2 := hL1.below b2 hp1; have hp2 := hL2.pos; have b12 := b1.trans (b2.mono b1.size); have r12 := r1.below b2)
    | (go_at_call 16; refine (unhide H3 _ hL2).mono ?_; rintro e w3 ⟨rfl, b3⟩; have hL3 := hL2.below b3 hp2; have hp3 := hL3.pos; have b13 := b12.trans (b3.mono b12.size); have r13 := r12.below b3; have r23 := r2.below b3)
    | (go_at_call 12; (first
      | (refine (unhide H4 _ _ r13).mono ?_; rintro e w4 ⟨rfl, b4⟩; clear H4; have hL4 := hL3.below b4 hp3; have hp4 := hL4.pos; have b14 := b13.trans (b4.mono b13.size); have r24 := r23.below b4)
      | (refine (unhide H5 _ _ r24).mono ?_; rintro e w5 ⟨rfl, b5⟩; have hL5 := hL4.below b5 hp4; have b15 := b14.trans (b5.mono b14.size))))
    | (go_at_call 8; refine (unhide H6 _).mono ?_; rintro e w6 ⟨rfl, rfl⟩)
    | (go_at_call 10; refine (unhide H7 _ hL5).mono ?_; rintro e w7 ⟨rfl, b7⟩; have b17 := b15.trans (b7.mono b15.size)))
  go_ret
  exact ⟨rfl, b17⟩
end Go.Proofs.YtcgkdiflhlmlgaaDoor
