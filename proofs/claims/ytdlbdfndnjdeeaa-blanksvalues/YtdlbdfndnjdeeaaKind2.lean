/- Kind: what it answers of any number. -/
import Derived.Test.YtdlbdfndnjdeeaaKind
namespace Go.Proofs.Ytdlbdfndnjdeeaa
open Go.RowKit
open Go.Sort (grow)

theorem fnd_app_left (a b : List Sp) (r : Int) (h : fnd b r = 0) : fnd (a ++ b) r = fnd a r := by
  induction a with
  | nil => exact h
  | cons s a ih => simp only [List.cons_append, fnd, ih]
theorem fnd_app_right (a b : List Sp) (r : Int) (h : ∀ s, s ∈ a → inS s r = false) : fnd (a ++ b) r = fnd b r := by
  induction a with
  | nil => rfl
  | cons s a ih =>
    simp only [List.cons_append, fnd, h s (by simp), Bool.false_eq_true, if_false]
    exact ih fun x hx => h x (by simp [hx])
theorem rowsA_ok : okTo rowsA rowsA.length = true := by kernel_rfl
theorem rowsA_len : rowsA.length = 90 := by kernel_rfl
theorem rowsA_top : (rowsA.all fun s => decide (s.t ≤ 65535)) = true := by kernel_rfl
theorem rowsA_last : (rowsA.getD 89 sp0).t = 65535 := by kernel_rfl
theorem kd_low (r : Int) (h : r < 65536) : kd r = fnd rowsA r := by
  refine fnd_app_left _ _ r (fnd_none _ r fun i hi => ?_)
  rw [rowsP_len] at hi
  rw [rowsP_get i hi, inS_not]
  simp only [lastS]
  omega
theorem kd_high (r : Int) (h : 65536 ≤ r) : kd r = fnd rowsP r := by
  refine fnd_app_right _ _ r fun s hs => ?_
  have := List.all_eq_true.1 rowsA_top s hs
  rw [inS_not]
  simp at this
  omega


theorem cellsA_size : cellsA.size = 270 := by kernel_rfl
theorem cellsA_one : cellsA.all (·.oneCell') = true := by kernel_rfl
theorem zerosA_size : zerosA.size = 270 := by kernel_rfl
theorem cellsA_get (j : Nat) (h : j < 90) : cellsA[j * 3]? = some (.int .i32 (rowsA.getD j sp0).f) ∧ cellsA[j * 3 + 1]? = some (.int .i32 (rowsA.getD j sp0).t) ∧ cellsA[j * 3 + 2]? = some (.int .i64 (rowsA.getD j sp0).h) := by
  unfold cellsA
  simpa using spcs_get rowsA j (by rw [rowsA_len]; exact h)

set_option maxHeartbeats 800000 in
theorem kind_high (r : Int) (w : World) (h : 65536 ≤ r) :
    Calls Try.prog 36 #[.int .i32 r] w fun e w' => e = .returned (.int .i64 (kd r)) ∧ Gr w w' := by
  rw [kd_high r h]
  have hb := hide (fun W => behind_any r W)
  generalize fnd rowsP r = q at *
  go_enter Try.func36, Try.ntmps36
  go_wp2_with (go_at_call 41; refine (unhide hb _).mono ?_; rintro e w1 ⟨rfl, hg1⟩)
  go_ret
  exact ⟨rfl, ((Gr.refl _).alloc _).trans hg1⟩

theorem rowZ (W : World) : (zeroValue 45).run Try.prog W = .ok (.agg zerosA) W := (zero_of_info (n := 270) (by kernel_rfl)).1 W
theorem rowI : (Try.prog.info? 45).map (·.size) = some cellsA.size := by kernel_rfl

theorem firstPlane_gr (w : World) : Calls Try.prog 42 #[] w fun e w' => e = .returned (.agg cellsA) ∧ Gr w w' :=
  (firstPlane_any w).mono fun e w' ⟨he, hw⟩ => ⟨he, by rw [hw]; exact Gr.one _ _⟩

theorem row_cells (w : World) (T : TypeId) : ∀ j, j < 90 → (w.alloc (.cells cellsA T)).cell? ⟨w.heap.size, j * 3, none⟩ = some (.int .i32 (rowsA.getD j sp0).f) ∧ (w.alloc (.cells cellsA T)).cell? ⟨w.heap.size, j * 3 + 1, none⟩ = some (.int .i32 (rowsA.getD j sp0).t) ∧ (w.alloc (.cells cellsA T)).cell? ⟨w.heap.size, j * 3 + 2, none⟩ = some (.int .i64 (rowsA.getD j sp0).h) := by
  intro j hj
  have h := cellsA_get j hj
  rw [cell_of_row _ _ _ cellsA T (0, 0) (heap_alloc_last w _), cell_of_row _ _ _ cellsA T (0, 0) (heap_alloc_last w _), cell_of_row _ _ _ cellsA T (0, 0) (heap_alloc_last w _)]
  exact h

set_option maxHeartbeats 1600000 in
theorem kind_low (r : Int) (w : World) (h : r < 65536) :
    Calls Try.prog 36 #[.int .i32 r] w fun e w' => e = .returned (.int .i64 (kd r)) ∧ Gr w w' := by
  rw [kd_low r h]
  have mx := mixed
  have hlt : ¬ 65536 ≤ r := by omega
  have hz := rowZ
  have hs3 := fun W => run_storeCells_new (P := Try.prog) W 45 zerosA cellsA rowI (by rw [zerosA_size, cellsA_size]) cellsA_one
  have hsz := cellsA_size
  have cx := box1 w (.int .i32 r) 21
  have hg0 := (Gr.refl w).alloc (.cells #[.int .i32 r] 21)
  have HT := hide rowsA_ok
  have HLST := hide rowsA_last
  go_enter Try.func36, Try.ntmps36
  go_wp2_with (first
      | (go_at_call 42; refine (firstPlane_gr _).mono ?_; rintro e w1 ⟨rfl, hg1⟩; replace cx := (hg1.alloc (.cells cellsA 45)).cell cx; replace hg1 := (hg0.trans hg1).alloc (.cells cellsA 45); have HC := hide (row_cells w1 45))
      | (go_at_call 43; refine (search_any 44 _ 90 (fun i => decide (r ≤ (rowsA.getD i sp0).t)) _ (enters_of Try.func44 (by kernel_rfl) rfl) (by omega) (fun W i hW hi => kind1_any _ _ i _ r W hi (hW.cell (unhide HC i hi).2.1) (hW.cell cx))).mono ?_; rintro e w2 ⟨m, rfl, hm, h1, h2, hg2⟩))
  replace cx := cell_gr (hg2.cell cx)
  have H1 : Hid (m = 0 ∨ (rowsA.getD (m - 1) sp0).t < r) := h1.imp id (fun h => by have := of_decide_eq_false h; omega)
  have H2 : Hid (m = 90 ∨ r ≤ (rowsA.getD m sp0).t) := h2.imp id (fun h => of_decide_eq_true h)
  clear h1 h2
  have hml : m ≠ 90 := by
    intro h9
    subst h9
    rcases unhide H1 with h | h
    · omega
    · have := unhide HLST
      simp only [Nat.reduceSub] at h
      omega
  have hlt : m < 90 := by omega
  have d1 : ((m : Int) == 90) = false := by simp; omega
  have hzl : (m : Int) < 90 := by omega
  have hz0 : (0 : Int) ≤ (m : Int) := by omega
  obtain ⟨g1, g2, g3⟩ := unhide HC m hlt
  replace g1 := cell_gr (hg2.cell g1)
  replace g2 := cell_gr (hg2.cell g2)
  replace g3 := cell_gr (hg2.cell g3)
  replace hg2 := hg1.trans hg2
  have hin : inS (rowsA.getD m sp0) r = true → Hid (fnd rowsA r = (rowsA.getD m sp0).h) := fun h => search_in r (unhide HT) (by rw [rowsA_len]; exact hlt) h
  have hout : inS (rowsA.getD m sp0) r = false → Hid (fnd rowsA r = 0) := fun h => search_out r (unhide HT) (by rw [rowsA_len]; exact hm) (unhide H1) (.inr h) (by rw [rowsA_len]; exact unhide H2)
  clear H1 H2 hml HC HT HLST hs3 hz hg0 hg1
  generalize rowsA.getD m sp0 = s at *
  obtain ⟨f, t, h⟩ := s
  dsimp only at g1 g2 g3 hin
  have hh := fun w => holds_any f t h r w
  cases hi : inS ⟨f, t, h⟩ r <;> rw [hi] at hh
  · have HE := hout hi
    have HH := hide hh
    clear hin hout hi hh
    refine wp_region_quiet_grown (by first | exact mx | assumption) (by kernel_rfl) ?_
    repeat (go_big_quiet_step ((go_at_call 45; exact callsGr (unhide HH _))))
    refine wpQuiet_nil ?_
    intro _ hw'
    obtain ⟨⟨nq, osq⟩, hw''⟩ := hw'
    subst hw''
    go_wp2
    go_ret
    exact ⟨ret_int (unhide HE).symm, hg2.grow _ _⟩
  · have HE := hin hi
    have HH := hide hh
    clear hin hout hi hh
    refine wp_region_quiet_grown (by first | exact mx | assumption) (by kernel_rfl) ?_
    repeat (go_big_quiet_step ((go_at_call 45; exact callsGr (unhide HH _))))
    refine wpQuiet_nil ?_
    intro _ hw'
    obtain ⟨⟨nq, osq⟩, hw''⟩ := hw'
    subst hw''
    replace g3 := g3 nq osq
    go_wp2
    go_ret
    exact ⟨ret_int (unhide HE).symm, hg2.grow _ _⟩

/-- Kind, of any number. -/
theorem kind_any (r : Int) (w : World) :
    Calls Try.prog 36 #[.int .i32 r] w fun e w' => e = .returned (.int .i64 (kd r)) ∧ Gr w w' := by
  by_cases h : 65536 ≤ r
  · exact kind_high r w h
  · exact kind_low r w (by omega)
end Go.Proofs.Ytdlbdfndnjdeeaa
