/- The document's Same, of any spans; '==' of two spans. -/
import Derived.Test.YtnlkefdicpeemaaLeaf
import Derived.Test.YtnlkefdicpeemaaPlain
import Derived.Laws.StructEq
namespace Go.Proofs.Ytnlkefdicpeemaa
open Go.RowKit

theorem span_under : Try.prog.underlying 37 = some (.struct (Try.prog.fieldsOf 37)) := by kernel_rfl
theorem span_held : Try.prog.stoodInHeld 37 = false := by kernel_rfl
theorem span_guard : Try.prog.eqGuardType Try.prog.depth 37 = false := by kernel_rfl

theorem eqIn_span (f1 t1 h1 f2 t2 h2 : Int) (w : World) : (Op.equalIn 10000 37 (.agg #[.int .i32 f1, .int .i32 t1, .int .i64 h1]) (.agg #[.int .i32 f2, .int .i32 t2, .int .i64 h2])).run Try.prog w = .ok (decide (f1 = f2 ∧ t1 = t2 ∧ h1 = h2)) w := by
  have u3 := Try.underlying3
  have a3 := Try.isAgg3
  have z3 := Try.sizeOf3
  have u4 := Try.underlying21
  have a4 := Try.isAgg21
  have z4 := Try.sizeOf21
  rw [show (10000 : Nat) = 9999 + 1 from rfl, run_equalIn_agg w 9999 37 _ _ span_under span_held]
  simp only [Program.fieldsOf, Try.underlying37]
  go_simp
  by_cases g1 : f1 = f2 <;> by_cases g2 : t1 = t2 <;> by_cases g3 : h1 = h2 <;> simp [g1, g2, g3]
theorem neq_span (f1 t1 h1 f2 t2 h2 : Int) (w : World) : (binOp .neq 37 (.agg #[.int .i32 f1, .int .i32 t1, .int .i64 h1]) (.agg #[.int .i32 f2, .int .i32 t2, .int .i64 h2])).run Try.prog w = .ok (.bool (!decide (f1 = f2 ∧ t1 = t2 ∧ h1 = h2))) w := by
  rw [run_neq_struct, eqIn_span]; rfl
theorem eql_span (f1 t1 h1 f2 t2 h2 : Int) (w : World) : (binOp .eql 37 (.agg #[.int .i32 f1, .int .i32 t1, .int .i64 h1]) (.agg #[.int .i32 f2, .int .i32 t2, .int .i64 h2])).run Try.prog w = .ok (.bool (decide (f1 = f2 ∧ t1 = t2 ∧ h1 = h2))) w := by
  rw [run_eql_struct, eqIn_span]; rfl

theorem list_ext (l1 l2 : List Sp) (hl : l1.length = l2.length) (h : ∀ j, j < l1.length → l1.getD j sp0 = l2.getD j sp0) : l1 = l2 := by
  apply List.ext_getElem hl
  intro i h1 h2
  have := h i h1
  simpa [List.getD, h1, h2] using this

set_option maxHeartbeats 1600000 in
theorem rsame_some (b1 o1 c1 b2 o2 c2 : Nat) (l1 l2 : List Sp) (w : World) (hl : l1.length = l2.length) (hle : l1.length ≤ 1000)
    (h1 : ∀ j, j < l1.length → w.cell? ⟨b1, o1 + j * 3, none⟩ = some (.int .i32 (l1.getD j sp0).f) ∧ w.cell? ⟨b1, o1 + j * 3 + 1, none⟩ = some (.int .i32 (l1.getD j sp0).t) ∧ w.cell? ⟨b1, o1 + j * 3 + 2, none⟩ = some (.int .i64 (l1.getD j sp0).h))
    (h2 : ∀ j, j < l2.length → w.cell? ⟨b2, o2 + j * 3, none⟩ = some (.int .i32 (l2.getD j sp0).f) ∧ w.cell? ⟨b2, o2 + j * 3 + 1, none⟩ = some (.int .i32 (l2.getD j sp0).t) ∧ w.cell? ⟨b2, o2 + j * 3 + 2, none⟩ = some (.int .i64 (l2.getD j sp0).h)) :
    Calls Try.prog 17 #[.slice (some ⟨b1, o1, none⟩) l1.length c1, .slice (some ⟨b2, o2, none⟩) l2.length c2] w fun e w' => e = .returned (.bool (eqL l1 l2)) ∧ Gr w w' := by
  have mx := mixed
  have H1 := hide h1
  have H2 := hide h2
  clear h1 h2
  rw [← hl]
  go_enter Try.func17, Try.ntmps17
  go_wp2
  go_loopw [5] (fun i wr => ∃ k : Nat, k ≤ l1.length ∧ i = .int .i64 k ∧ Gr w wr ∧ Hid (∀ j, j < k → l1.getD j sp0 = l2.getD j sp0)) (fun i _ => l1.length - (intOf i).toNat)
  case atStart => exact ⟨0, Nat.zero_le _, rfl, Gr.refl _, hide (fun j hj => by omega)⟩
  case round =>
    obtain ⟨k, hk, rfl, hg, HE⟩ := hrel
    by_cases hlt : k < l1.length
    · have hzl : (k : Int) < (l1.length : Int) := by omega
      have hz0 : (0 : Int) ≤ (k : Int) := by omega
      obtain ⟨p1, p2, p3⟩ := unhide H1 k hlt
      obtain ⟨q1, q2, q3⟩ := unhide H2 k (by omega)
      replace p1 := hg.cell p1
      replace p2 := hg.cell p2
      replace p3 := hg.cell p3
      replace q1 := hg.cell q1
      replace q2 := hg.cell q2
      replace q3 := hg.cell q3
      have heq : l1.getD k sp0 = l2.getD k sp0 → Hid (∀ j, j < k + 1 → l1.getD j sp0 = l2.getD j sp0) := fun he => by
        show ∀ j, j < k + 1 → l1.getD j sp0 = l2.getD j sp0
        intro j hj
        rcases Nat.lt_succ_iff_lt_or_eq.1 hj with h | rfl
        · exact unhide HE j h
        · exact he
      have hneq : l1.getD k sp0 ≠ l2.getD k sp0 → Hid (eqL l1 l2 = false) := fun he => by
        show eqL l1 l2 = false
        exact eqL_false (fun h => by rw [h] at he; exact he rfl)
      generalize l1.getD k sp0 = s1 at *
      generalize l2.getD k sp0 = s2 at *
      obtain ⟨f1, t1, h1⟩ := s1
      obtain ⟨f2, t2, h2⟩ := s2
      dsimp only at p1 p2 p3 q1 q2 q3
      have hnq := fun w => neq_span f1 t1 h1 f2 t2 h2 w
      have hgd := span_guard
      cases hd : decide (f1 = f2 ∧ t1 = t2 ∧ h1 = h2) <;> rw [hd] at hnq
      · have HB := hneq (by
          have := of_decide_eq_false hd
          intro h; cases h; exact this ⟨rfl, rfl, rfl⟩)
        clear heq hneq hd
        go_wp2
        go_quiet (fail)
        go_wp2
        go_ret
        exact ⟨ret_bool (unhide HB).symm, hg.drewN _⟩
      · have HB := heq (by
          obtain ⟨rfl, rfl, rfl⟩ := of_decide_eq_true hd
          rfl)
        clear heq hneq hd
        go_wp2
        go_quiet (fail)
        go_wp2
        go_roundw
        case rel => exact ⟨k + 1, by omega, by go_num, hg.drewN _, HB⟩
        case measure => simp [intOf]; omega
    · have hzl : ¬ (k : Int) < (l1.length : Int) := by omega
      have HB : Hid (eqL l1 l2 = true) := eqL_true (list_ext l1 l2 hl (fun j hj => unhide HE j (by omega)))
      go_wp2
      go_ret
      exact ⟨ret_bool (unhide HB).symm, hg⟩

set_option maxHeartbeats 400000 in
theorem rsame_len (a1 a2 : Option Addr) (n1 n2 c1 c2 : Nat) (w : World) (hl : n1 ≠ n2) :
    Calls Try.prog 17 #[.slice a1 n1 c1, .slice a2 n2 c2] w fun e w' => e = .returned (.bool false) ∧ Gr w w' := by
  have hz : ((n1 : Int) == (n2 : Int)) = false := by simp; omega
  have hz2 : ¬ (n1 : Int) = (n2 : Int) := by omega
  go_enter Try.func17, Try.ntmps17
  go_wp2
  go_ret
  exact ⟨rfl, Gr.refl _⟩

set_option maxHeartbeats 400000 in
theorem rsame_none (a1 a2 : Option Addr) (c1 c2 : Nat) (w : World) :
    Calls Try.prog 17 #[.slice a1 0 c1, .slice a2 0 c2] w fun e w' => e = .returned (.bool true) ∧ Gr w w' := by
  go_enter Try.func17, Try.ntmps17
  go_wp2
  refine wp_loop_rounds 1 ?_
  rw [rounds_succ]
  go_wp2
  go_ret
  exact ⟨rfl, Gr.refl _⟩

/-- The document's Same. -/
theorem rsame_any (v1 v2 : Value) (l1 l2 : List Sp) (w : World) (h1 : Tab w v1 l1) (h2 : Tab w v2 l2) (hle : l1.length ≤ 1000) :
    Calls Try.prog 17 #[v1, v2] w fun e w' => e = .returned (.bool (eqL l1 l2)) ∧ Gr w w' := by
  obtain ⟨a1, c1, rfl, h1⟩ := h1
  obtain ⟨a2, c2, rfl, h2⟩ := h2
  by_cases hl : l1.length = l2.length
  · by_cases h0 : l1.length = 0
    · obtain rfl : l1 = [] := List.length_eq_zero_iff.1 h0
      obtain rfl : l2 = [] := List.length_eq_zero_iff.1 (by omega)
      exact rsame_none a1 a2 c1 c2 w
    · obtain ⟨b1, o1, rfl, g1⟩ := h1 (by omega)
      obtain ⟨b2, o2, rfl, g2⟩ := h2 (by omega)
      exact rsame_some b1 o1 c1 b2 o2 c2 l1 l2 w hl hle g1 g2
  · rw [show eqL l1 l2 = false from eqL_false (fun h => hl (by rw [h]))]
    exact rsame_len a1 a2 _ _ c1 c2 w hl
end Go.Proofs.Ytnlkefdicpeemaa
