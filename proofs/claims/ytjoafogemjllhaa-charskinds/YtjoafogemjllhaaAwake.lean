/- The fixed answers that every law of this stage asks; the law CharsMarks. -/
import Derived.Test.YtjoafogemjllhaaCls
namespace Go.Proofs.Ytjoafogemjllhaa
open Go.RowKit

theorem kd_65 : kd 65 = 1 := by kernel_rfl
theorem kd_769 : kd 769 = 3 := by kernel_rfl
theorem kd_8203 : kd 8203 = 6 := by kernel_rfl
theorem kd_57344 : kd 57344 = 7 := by kernel_rfl
theorem kd_880 : kd 880 = 0 := by kernel_rfl
theorem cls_769 : cls 769 = 230 := by kernel_rfl
theorem is_two : decide (kd 32 ∈ ([6, 5] : List Int)) = true := by kernel_rfl
theorem is_no : decide (kd 32 ∈ ([] : List Int)) = false := by kernel_rfl

theorem ints_new (w : World) (zs : List Int) (cs : Array Value) (T : TypeId) (hcs : cs.toList = zs.map (Value.int .i64)) : Ints (w.alloc (.cells cs T)) (.slice (some ⟨w.heap.size, 0, none⟩) zs.length zs.length) zs := by
  refine ⟨_, _, rfl, fun _ => ⟨w.heap.size, 0, rfl, fun j hj => ?_⟩⟩
  rw [World.cell?_alloc_mark, Nat.zero_add]
  have : cs.toList[j]? = some (.int .i64 (zs.getD j 0)) := by rw [hcs]; simp [List.getD, hj]
  simpa using this


theorem aw1 (W : World) : Calls Try.prog 8 #[.int .i32 65] W fun e w' => e = .returned (.int .i64 1) ∧ Gr W w' :=
  (kind_any 65 W).mono fun _ _ ⟨he, hg⟩ => ⟨he.trans (ret_int kd_65), hg⟩
theorem aw2 (W : World) : Calls Try.prog 8 #[.int .i32 769] W fun e w' => e = .returned (.int .i64 3) ∧ Gr W w' :=
  (kind_any 769 W).mono fun _ _ ⟨he, hg⟩ => ⟨he.trans (ret_int kd_769), hg⟩
theorem aw3 (W : World) : Calls Try.prog 12 #[.int .i32 769] W fun e w' => e = .returned (.int .i64 230) ∧ Gr W w' :=
  (class_any 769 W).mono fun _ _ ⟨he, hg⟩ => ⟨he.trans (ret_int cls_769), hg⟩
theorem aw4 (W : World) : Calls Try.prog 8 #[.int .i32 8203] W fun e w' => e = .returned (.int .i64 6) ∧ Gr W w' :=
  (kind_any 8203 W).mono fun _ _ ⟨he, hg⟩ => ⟨he.trans (ret_int kd_8203), hg⟩
theorem aw5 (W : World) : Calls Try.prog 8 #[.int .i32 57344] W fun e w' => e = .returned (.int .i64 7) ∧ Gr W w' :=
  (kind_any 57344 W).mono fun _ _ ⟨he, hg⟩ => ⟨he.trans (ret_int kd_57344), hg⟩
theorem aw6 (W : World) : Calls Try.prog 8 #[.int .i32 880] W fun e w' => e = .returned (.int .i64 0) ∧ Gr W w' :=
  (kind_any 880 W).mono fun _ _ ⟨he, hg⟩ => ⟨he.trans (ret_int kd_880), hg⟩
theorem aw7 (W : World) : Calls Try.prog 10 #[.int .i32 32, .slice (some ⟨W.heap.size, 0, none⟩) 2 2] (W.alloc (.cells #[.int .i64 6, .int .i64 5] 3)) fun e w' => e = .returned (.bool true) ∧ Gr (W.alloc (.cells #[.int .i64 6, .int .i64 5] 3)) w' :=
  (is_any 32 _ [6, 5] _ (ints_new W [6, 5] _ _ rfl) (by decide)).mono fun _ _ ⟨he, hg⟩ => ⟨he.trans (ret_bool is_two), hg⟩
theorem aw8 (W : World) : Calls Try.prog 10 #[.int .i32 32, .slice none 0 0] W fun e w' => e = .returned (.bool false) ∧ Gr W w' :=
  (is_any 32 _ [] W ⟨none, 0, rfl, fun h => absurd h (Nat.lt_irrefl _)⟩ (by decide)).mono fun _ _ ⟨he, hg⟩ => ⟨he.trans (ret_bool is_no), hg⟩

set_option maxHeartbeats 1600000 in
theorem awake_any (w : World) : Calls Try.prog 14 #[] w fun e w' => e = .returned (.bool true) ∧ Gr w w' := by
  have H1 := hide aw1
  have H2 := hide aw2
  have H3 := hide aw3
  have H4 := hide aw4
  have H5 := hide aw5
  have H6 := hide aw6
  have H7 := hide aw7
  have H8 := hide aw8
  have g := Gr.refl w
  go_enter Try.func14, Try.ntmps14
  go_wp2_with (first
    | (go_at_call 8; (first | (refine (unhide H1 _).mono ?_; clear H1) | (refine (unhide H2 _).mono ?_; clear H2) | (refine (unhide H4 _).mono ?_; clear H4) | (refine (unhide H5 _).mono ?_; clear H5) | (refine (unhide H6 _).mono ?_; clear H6)); rintro e w1 ⟨rfl, g1⟩; replace g := g.trans g1; clear g1)
    | (go_at_call 12; refine (unhide H3 _).mono ?_; rintro e w3 ⟨rfl, g1⟩; replace g := g.trans g1; clear g1)
    | (go_at_call 10; (first | (refine (unhide H7 _).mono ?_; rintro e w3 ⟨rfl, g1⟩; replace g := (g.alloc _).trans g1; clear g1 H7) | (refine (unhide H8 _).mono ?_; rintro e w3 ⟨rfl, g1⟩; replace g := g.trans g1; clear g1))))
  go_ret
  exact ⟨rfl, g⟩
end Go.Proofs.Ytjoafogemjllhaa
