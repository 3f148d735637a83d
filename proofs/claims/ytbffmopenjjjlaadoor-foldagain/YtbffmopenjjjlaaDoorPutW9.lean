/- The landed put: what a number is folded to is put behind a row of the call's own. -/
import Derived.Test.YtbffmopenjjjlaaDoorSt9
import Derived.Test.YtbffmopenjjjlaaDoorPutn9
import Derived.Laws.Rows
namespace Go.Proofs.YtbffmopenjjjlaaDoor
open Go.RowKit

/-- The program's table, as it lies. -/
def foc4 (o : Fo) : List Value := [.int .i32 o.f, .int .i32 o.t, .int .i32 o.s, .int .i32 o.u]
def arr9 : Array Value := (sts9.flatMap foc4).toArray
def Ly (w : World) : Prop := ∃ t fr, w.heap[0]? = some (.cells arr9 t fr)
theorem Ly.pos {w : World} (h : Ly w) : 0 < w.heap.size := by
  obtain ⟨t, fr, h⟩ := h
  exact (Array.getElem?_eq_some_iff.1 h).1
theorem Ly.below {w w2 : World} {B : Nat} (h : Ly w) (hb : Below B w w2) (hB : 0 < B) : Ly w2 := by
  obtain ⟨t, fr, h⟩ := h
  exact ⟨t, fr, (hb.block _ hB).trans h⟩
theorem Ly.keep {w w2 : World} (h : Ly w) (hb : Below w.heap.size w w2) : Ly w2 := h.below hb h.pos
theorem idx9_0 (W : World) : (Instr.index 44 (.agg arr9) (.int .i64 0)).run Tryd.prog W = .ok (.agg #[.int .i32 65, .int .i32 90, .int .i32 1, .int .i32 32]) W := by kernel_rfl
theorem idx9_1 (W : World) : (Instr.index 44 (.agg arr9) (.int .i64 1)).run Tryd.prog W = .ok (.agg #[.int .i32 192, .int .i32 214, .int .i32 1, .int .i32 32]) W := by kernel_rfl
theorem idx9_2 (W : World) : (Instr.index 44 (.agg arr9) (.int .i64 2)).run Tryd.prog W = .ok (.agg #[.int .i32 216, .int .i32 222, .int .i32 1, .int .i32 32]) W := by kernel_rfl
theorem idx9_3 (W : World) : (Instr.index 44 (.agg arr9) (.int .i64 3)).run Tryd.prog W = .ok (.agg #[.int .i32 256, .int .i32 302, .int .i32 2, .int .i32 1]) W := by kernel_rfl
theorem idx9_4 (W : World) : (Instr.index 44 (.agg arr9) (.int .i64 4)).run Tryd.prog W = .ok (.agg #[.int .i32 306, .int .i32 310, .int .i32 2, .int .i32 1]) W := by kernel_rfl
theorem idx9_5 (W : World) : (Instr.index 44 (.agg arr9) (.int .i64 5)).run Tryd.prog W = .ok (.agg #[.int .i32 313, .int .i32 327, .int .i32 2, .int .i32 1]) W := by kernel_rfl
theorem idx9_6 (W : World) : (Instr.index 44 (.agg arr9) (.int .i64 6)).run Tryd.prog W = .ok (.agg #[.int .i32 330, .int .i32 374, .int .i32 2, .int .i32 1]) W := by kernel_rfl
theorem idx9_7 (W : World) : (Instr.index 44 (.agg arr9) (.int .i64 7)).run Tryd.prog W = .ok (.agg #[.int .i32 377, .int .i32 381, .int .i32 2, .int .i32 1]) W := by kernel_rfl
theorem idx9_8 (W : World) : (Instr.index 44 (.agg arr9) (.int .i64 8)).run Tryd.prog W = .ok (.agg #[.int .i32 904, .int .i32 906, .int .i32 1, .int .i32 37]) W := by kernel_rfl
theorem idx9_9 (W : World) : (Instr.index 44 (.agg arr9) (.int .i64 9)).run Tryd.prog W = .ok (.agg #[.int .i32 913, .int .i32 929, .int .i32 1, .int .i32 32]) W := by kernel_rfl
theorem idx9_10 (W : World) : (Instr.index 44 (.agg arr9) (.int .i64 10)).run Tryd.prog W = .ok (.agg #[.int .i32 931, .int .i32 939, .int .i32 1, .int .i32 32]) W := by kernel_rfl
theorem idx9_11 (W : World) : (Instr.index 44 (.agg arr9) (.int .i64 11)).run Tryd.prog W = .ok (.agg #[.int .i32 1040, .int .i32 1071, .int .i32 1, .int .i32 32]) W := by kernel_rfl
theorem idx9_12 (W : World) : (Instr.index 44 (.agg arr9) (.int .i64 12)).run Tryd.prog W = .ok (.agg #[.int .i32 8544, .int .i32 8555, .int .i32 1, .int .i32 16]) W := by kernel_rfl
theorem idx9_13 (W : World) : (Instr.index 44 (.agg arr9) (.int .i64 13)).run Tryd.prog W = .ok (.agg #[.int .i32 65313, .int .i32 65338, .int .i32 1, .int .i32 32]) W := by kernel_rfl
theorem idx9 (n : Nat) (h : n < 14) (W : World) : (Instr.index 44 (.agg arr9) (.int .i64 (n : Int))).run Tryd.prog W = .ok (.agg #[.int .i32 (sts9.getD n fo0).f, .int .i32 (sts9.getD n fo0).t, .int .i32 (sts9.getD n fo0).s, .int .i32 (sts9.getD n fo0).u]) W := by
  have hn : n = 0 ∨ n = 1 ∨ n = 2 ∨ n = 3 ∨ n = 4 ∨ n = 5 ∨ n = 6 ∨ n = 7 ∨ n = 8 ∨ n = 9 ∨ n = 10 ∨ n = 11 ∨ n = 12 ∨ n = 13 := by omega
  clear h
  rcases hn with rfl | rfl | rfl | rfl | rfl | rfl | rfl | rfl | rfl | rfl | rfl | rfl | rfl | rfl
  · exact idx9_0 W
  · exact idx9_1 W
  · exact idx9_2 W
  · exact idx9_3 W
  · exact idx9_4 W
  · exact idx9_5 W
  · exact idx9_6 W
  · exact idx9_7 W
  · exact idx9_8 W
  · exact idx9_9 W
  · exact idx9_10 W
  · exact idx9_11 W
  · exact idx9_12 W
  · exact idx9_13 W
theorem inF_y {f t s u r : Int} (h1 : f ≤ r) (h2 : r ≤ t) (h3 : (r - f) % s = 0) : inF ⟨f, t, s, u⟩ r = true := decide_eq_true ⟨h1, h2, h3⟩
theorem inF_n {f t s u r : Int} (h : ¬ (f ≤ r ∧ r ≤ t ∧ (r - f) % s = 0)) : inF ⟨f, t, s, u⟩ r = false := decide_eq_false h

set_option maxRecDepth 20000 in
set_option maxHeartbeats 6400000 in
theorem put_st (r : Int) (B : Nat) (v : Value) (T : List Int) (w : World) (hL : Ly w) (hr : -2147483648 ≤ r ∧ r ≤ 2147483647) (hB : B ≤ w.heap.size) (h : Rn B v T w) (hT : T.length ≤ 100000) : Calls Tryd.prog 17 #[v, .int .i32 r] w fun e w' => ∃ v', e = .returned v' ∧ Rn B v' (T ++ stL r sts9) w' ∧ Below B w w' := by
  obtain ⟨i0, hi, hz0, hz1, hz2⟩ := info_parts elem_info
  have mx : Tryd.prog.follows .mixedOrders = true := by kernel_rfl
  obtain ⟨ty, fr, hg0⟩ := hL
  have HI := hide idx9
  have HNM := hide (putn_any r B)
  obtain ⟨xa, xc, hv⟩ := h.shape
  obtain ⟨N, hN⟩ : ∃ N, N = T.length := ⟨_, rfl⟩
  have HT := hide hT
  rw [← hN] at hv hT
  have HN := hide hN
  clear hN
  subst hv
  have HO := hide h
  clear h
  have hm1 : N + 1 ≤ maxLen := by unfold maxLen; omega
  have hm2 : (N + 1) * 4 ≤ 140737488355328 := by omega
  go_enter Tryd.func17, Tryd.ntmps17
  go_wp2_with (refine wpList_load_row rfl 44 _ rfl 0 rfl ty arr9 fr _ hg0 Tryd.underlying44 rfl (by kernel_rfl) ?_)
  go_loopw [8] (fun i wr => ∃ n : Nat, n ≤ 14 ∧ i = .int .i64 (n : Int) ∧ Hid (stL r (sts9.drop n) = stL r sts9) ∧ Gr w wr) (fun i _ => 14 - (intOf i).toNat)
  case atStart => exact ⟨0, Nat.zero_le _, rfl, hide rfl, Gr.refl _⟩
  case round =>
    obtain ⟨n, hn, rfl, HP, hg⟩ := hrel
    have hs1 := hg.size
    by_cases hlt : n < 14
    · have hzl : (n : Int) < 14 := by omega
      have hq0 : (0 : Int) ≤ (n : Int) := by omega
      have x0 := unhide HI n hlt
      have hst := stL_step r n hlt
      have hok := st9_ok n hlt
      rw [unhide HP] at hst
      generalize sts9.getD n fo0 = o at *
      obtain ⟨f, t, s, u⟩ := o
      simp only [okF, decide_eq_true_eq] at hok
      obtain ⟨o1, o2, o3, o4, o5, o6, o7, o8⟩ := hok
      dsimp only at x0 hst
      have HST := hide hst
      clear hst
      by_cases q1 : f ≤ r
      · have z1 : decide (f ≤ r) = true := by simpa using q1
        by_cases q2 : r ≤ t
        · have z2 : decide (r ≤ t) = true := by simpa using q2
          have ks : IntKind.i32.wrap (r - f) = r - f := wrap_in (by omega) (by omega)
          have z3 : ¬ s = 0 := by omega
          have z4 : (s == 0) = false := by simpa using z3
          have q3' : (r - f).tmod s = (r - f) % s := Int.tmod_eq_emod_of_nonneg (by omega)
          by_cases q3 : (r - f) % s = 0
          · have HE : Hid (stL r sts9 = [r + u]) := by
              show _ = _
              rw [unhide HST, if_pos (inF_y q1 q2 q3)]
            have z5 : ((r - f) % s == 0) = true := by simpa using q3
            have ku : IntKind.i32.wrap (r + u) = r + u := wrap_in (by omega) (by omega)
            clear HST HP
            have HO1 := hide ((unhide HO).below (hg.alloc (.cells #[.int .i32 f, .int .i32 t, .int .i32 s, .int .i32 u] 43)).below)
            go_wp2_with (at_builtin; refine wpList_append_lies _ rfl _ _ 23 rfl B 21 i0 _ 1 4 Tryd.underlying23 hi hz0 hz1 hz2 rfl (by omega) _ N _ rfl (World.ownsRow.alloc (Rn.own (unhide HN) (unhide HO1)) _) ⟨wr.heap.size + 1, 0, none⟩ 1 1 [.int .i32 (r + u)] rfl rfl (World.news_of_block (cs := #[.int .i32 (r + u)]) (t := 21) (fr := (0, 0)) (by simpa using heap_new (wr.alloc (.cells #[.int .i32 f, .int .i32 t, .int .i32 s, .int .i32 u] 43)) (.cells #[.int .i32 (r + u)] 21))) (by simp [Value.oneCell']) (by omega) hm1 hm2 (by simp; omega) (wr.heap.size + 1 + 1) (by simp) ?_; intro g9 cap9 w9 hown9 hgrow9 hat9 hlt9)
            go_ret
            refine ⟨_, rfl, ?_, ((((hg.alloc (.cells #[.int .i32 f, .int .i32 t, .int .i32 s, .int .i32 u] 43)).alloc (.cells #[.int .i32 (r + u)] 21)).below).mono hB).trans (below_own hgrow9 (by simp; omega) (own_block (Rn.own (unhide HN) (unhide HO1))))⟩
            rw [unhide HE]
            exact Rn.app (zs := [r + u]) (unhide HN) rfl hown9
          · have HE : Hid (stL r (sts9.drop (n + 1)) = stL r sts9) := by
              show _ = _
              rw [unhide HST, if_neg (by rw [inF_n (fun h => q3 h.2.2)]; simp)]
            have z5 : ((r - f) % s == 0) = false := by simpa using q3
            clear HST HP
            go_wp2
            go_roundw
            case rel => exact ⟨n + 1, by omega, by go_num, HE, hg.alloc _⟩
            case measure => simp [intOf]; omega
        · have HE : Hid (stL r (sts9.drop (n + 1)) = stL r sts9) := by
            show _ = _
            rw [unhide HST, if_neg (by rw [inF_n (fun h => q2 h.2.1)]; simp)]
          have z2 : decide (r ≤ t) = false := by simpa using q2
          clear HST HP
          go_wp2
          go_roundw
          case rel => exact ⟨n + 1, by omega, by go_num, HE, hg.alloc _⟩
          case measure => simp [intOf]; omega
      · have HE : Hid (stL r (sts9.drop (n + 1)) = stL r sts9) := by
          show _ = _
          rw [unhide HST, if_neg (by rw [inF_n (fun h => q1 h.1)]; simp)]
        have z1 : decide (f ≤ r) = false := by simpa using q1
        clear HST HP
        go_wp2
        go_roundw
        case rel => exact ⟨n + 1, by omega, by go_num, HE, hg.alloc _⟩
        case measure => simp [intOf]; omega
    · have hzl : ¬ (n : Int) < 14 := by omega
      obtain rfl : n = 14 := by omega
      have HE : Hid (stL r sts9 = namL r nms9) := (unhide HP).symm
      have HO1 := hide ((unhide HO).below hg.below)
      clear HP
      go_wp2_with (go_at_call 23; refine (unhide HNM _ T _ (Nat.le_trans hB hs1) (unhide HO1) (unhide HT)).mono ?_; rintro e w1 ⟨v1, rfl, r1, b1⟩)
      go_ret
      exact ⟨_, rfl, by rw [unhide HE]; exact r1, (hg.below.mono hB).trans b1⟩
end Go.Proofs.YtbffmopenjjjlaaDoor
