/- The landed endless: does a line go on for longer than there are types? -/
import Derived.Test.YtoaoplfbnjajiaaRg20
namespace Go.Proofs.Ytoaoplfbnjajiaa
open Go.RowKit
attribute [local go_sem] Oper.semAt_some

set_option maxHeartbeats 800000 in
theorem mkline_any (a : Option Addr) (k c : Nat) (n : ByteArray) (w : World) : Calls Try.prog 29 #[.slice a k c, .string n] w fun e w' => e = .returned (.func (.func 36) #[] #[.pointer (some ⟨w.heap.size, 0, none⟩), .pointer (some ⟨w.heap.size + 1, 0, none⟩)]) ∧ w' = (w.alloc (.cells #[.slice a k c] 22)).alloc (.cells #[.string n] 9) := by
  go_enter Try.func29, Try.ntmps29
  go_wp2
  go_ret
  exact ⟨rfl, rfl⟩
set_option maxRecDepth 100000 in
set_option maxHeartbeats 3200000 in
theorem endless_any (v : Value) (l : List Ty) (n : ByteArray) (w : World) (hV : TysV w v l) : Calls Try.prog 32 #[v, .string n] w fun e w' =>
    ∃ z, e = .returned (.bool z) ∧ (z = true → ∃ pre o, wlk l (fndT l n) pre o ∧ pre.length = l.length + 1) ∧ (z = false → ∃ xs, xs.length ≤ l.length ∧ wlk l (fndT l n) xs none) ∧ Below w.heap.size w w' := by
  have hn2 : (l.length : Int) ≤ 9223372036854775807 := by obtain ⟨_, _, _, h, _⟩ := hV; omega
  have HV := hide hV
  obtain ⟨va, vc, rfl⟩ := hV.shape
  clear hV
  refine (callsIn_wide (n := 4)).1 ?_
  refine callsIn_of_wp_marks Try.func32 rfl trivial ?_ rfl
  simp only [Try.ntmps32, List.size_toArray, List.length_cons, List.length_nil, Nat.reduceAdd, Nat.reduceSub, Array.replicate_succ, Array.replicate_zero, List.push_toArray, List.append_toArray, List.nil_append, List.cons_append]
  gi_wp2_with (refine ⟨trivial, ?_⟩; gi_at_call 29; refine (callsIn_wide.2 (mkline_any _ _ _ _ _)).mono ?_; rintro e w2 ⟨rfl, rfl⟩)
  obtain ⟨W0, hW0⟩ : ∃ W0, (((((w.alloc (.cells #[.slice va l.length vc] 22)).alloc (.cells #[.bool false] 4)).alloc (.cells #[.int .i64 0] 3)).alloc (.cells #[.slice va l.length vc] 22)).alloc (.cells #[.string n] 9)) = W0 := ⟨_, rfl⟩
  rw [hW0]
  have s0 : W0.heap.size = w.heap.size + 5 := by rw [← hW0]; simp
  have B0 : Below w.heap.size w W0 := by rw [← hW0]; exact (((((Below.refl _ w).alloc (by simp) _).alloc (by simp) _).alloc (by simp; omega) _).alloc (by simp; omega) _).alloc (by simp; omega) _
  have x0 : Boxed W0 w.heap.size 22 (.slice va l.length vc) := by rw [← hW0]; exact (((((Boxed.new _ _ _).alloc _).alloc _).alloc _).alloc _)
  have x1 : Boxed W0 (w.heap.size + 1) 4 (.bool false) := by rw [← hW0]; exact ((((box_at (by simp)).alloc _).alloc _).alloc _)
  have x2 : Boxed W0 (w.heap.size + 1 + 1) 3 (.int .i64 0) := by rw [← hW0]; exact (((box_at (by simp)).alloc _).alloc _)
  have x3 : Boxed W0 (w.heap.size + 1 + 1 + 1) 22 (.slice va l.length vc) := by rw [← hW0]; exact ((box_at (by simp)).alloc _)
  have x4 : Boxed W0 (w.heap.size + 1 + 1 + 1 + 1) 9 (.string n) := by rw [← hW0]; exact (box_at (by simp))
  clear hW0
  have hI : ∀ (s : List Ty) (A C : World), (s.length ≤ l.length ∧ Boxed A w.heap.size 22 (.slice va l.length vc) ∧ Boxed A (w.heap.size + 1) 4 (.bool false) ∧ Boxed A (w.heap.size + 1 + 1) 3 (.int .i64 (s.length : Int)) ∧ Below w.heap.size w A) → Qr W0.heap.size A C →
      (s.length ≤ l.length ∧ Boxed C w.heap.size 22 (.slice va l.length vc) ∧ Boxed C (w.heap.size + 1) 4 (.bool false) ∧ Boxed C (w.heap.size + 1 + 1) 3 (.int .i64 (s.length : Int)) ∧ Below w.heap.size w C) := fun s A C ⟨h1, h2, h3, h4, h5⟩ k => ⟨h1, k.same _ _ h2 rfl, k.same _ _ h3 rfl, k.same _ _ h4 rfl, h5.trans (k.below.mono (by omega))⟩
  refine wpIn_up 4 (w.heap.size + 1 + 1 + 1) (w.heap.size + 1 + 1 + 1 + 1) w.heap.size l.length (by omega) (.slice va l.length vc) l n rfl rfl x3 x4.cell (by omega) (fun W' h => (unhide HV).below (B0.trans h))
    (fun s A => s.length ≤ l.length ∧ Boxed A w.heap.size 22 (.slice va l.length vc) ∧ Boxed A (w.heap.size + 1) 4 (.bool false) ∧ Boxed A (w.heap.size + 1 + 1) 3 (.int .i64 (s.length : Int)) ∧ Below w.heap.size w A)
    (fun s A => s.length = l.length + 1 ∧ Boxed A (w.heap.size + 1) 4 (.bool true) ∧ Below w.heap.size w A)
    hI (fun s A C ⟨h1, h2, h3⟩ k => ⟨h1, k.same _ _ h2 rfl, h3.trans (k.below.mono (by omega))⟩)
    ⟨by simp, x0, x1, x2, B0⟩
    (fun x => #[.slice va l.length vc, .string n, .pointer (some ⟨w.heap.size, 0, none⟩), undef, .pointer (some ⟨w.heap.size + 1, 0, none⟩), .pointer (some ⟨w.heap.size + 1 + 1, 0, none⟩), .slice va l.length vc, .string n, .func (.func 36) #[] #[.pointer (some ⟨w.heap.size + 1 + 1 + 1, 0, none⟩), .pointer (some ⟨w.heap.size + 1 + 1 + 1 + 1, 0, none⟩)], aggV x, undef, undef, undef, undef, undef, undef]) (fun _ => by simp)
    (fun pre x W h _ => h.1) ?round ?done ?stop
  case round =>
    intro L pre x W hL hLW hi hw
    gi_wp2
    refine ⟨Ke.refl _ _ _, fun r r' hr => ?_⟩
    have hi2 := hI _ _ _ hi (Ke.put (.loop r') (by omega) hr rfl)
    generalize W.putObj L (.loop r') = W2 at *
    obtain ⟨h1, y0, y1, y2, hb⟩ := hi2
    have c0 := y0.cell
    have c1 := y1.cell
    have c2 := y2.cell
    have f1 := y1.frozen
    have f2 := y2.frozen
    have hlen : (pre ++ [x]).length = pre.length + 1 := by simp
    by_cases hq : pre.length = l.length
    · have hz : ((pre.length : Int) == (l.length : Int)) = true := by rw [hq]; simp
      clear hi
      gi_wp2
      exact ⟨Ke.set (by omega) y1 rfl, by rw [hlen, hq], y1.set _, hb.setCell (p := ⟨w.heap.size + 1, 0, none⟩) (by simp) _⟩
    · have hz : ((pre.length : Int) == (l.length : Int)) = false := by rw [beq_eq_false_iff_ne]; omega
      clear hi
      gi_wp2
      refine ⟨Ke.set (by omega) y2 rfl, by rw [hlen]; omega, y0.other (by omega) _, y1.other (by omega) _, ?_, hb.setCell (p := ⟨w.heap.size + 1 + 1, 0, none⟩) (by simp; omega) _⟩
      rw [hlen]
      exact y2.set _
  case done =>
    rintro D xs W hD hw ⟨h1, _, y1, _, hb⟩ hK
    have c1 := y1.cell
    have f1 := y1.frozen
    gi_wp2
    have hK' := (KeepsOthers.setCell W ⟨w.heap.size + 1, 0, none⟩ (.bool false)).same D _ hK rfl
    refine ⟨by simp, .inl ⟨_, _, rfl, run_takeDeferred hK', ?_⟩⟩
    have hc5 := cell_kept ((y1.set (.bool false)).cell) (grownBy_putObj' _ D (.deferred none)) (fun r e => by cases e; exact ⟨_, hK', rfl⟩)
    refine ⟨.bool false, ?_, false, rfl, fun h => (by cases h), fun _ => ⟨xs, h1, hw⟩, (hb.setCell (p := ⟨w.heap.size + 1, 0, none⟩) (by simp) _).trans (belowK_b (w := w) (Nat.le_refl _) _ D _ _ (by omega) hK' rfl rfl)⟩
    simp [results, Try.f32, go_sem, hc5]
  case stop =>
    rintro D pre o W hD hw ⟨h1, y1, hb⟩ hK
    gi_wp2
    refine ⟨by simp, .inl ⟨_, _, rfl, run_takeDeferred hK, ?_⟩⟩
    have hc5 := cell_kept y1.cell (grownBy_putObj' _ D (.deferred none)) (fun r e => by cases e; exact ⟨_, hK, rfl⟩)
    refine ⟨.bool true, ?_, true, rfl, fun _ => ⟨pre, o, hw, h1⟩, fun h => (by cases h), hb.trans (belowK_b (w := w) (Nat.le_refl _) W D _ _ (by omega) hK rfl rfl)⟩
    simp [results, Try.f32, go_sem, hc5]
end Go.Proofs.Ytoaoplfbnjajiaa
