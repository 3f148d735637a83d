/- Stage 16: PrimsGroups, over the contracts (made by gen_groups.py). -/
import Derived.Test.YtcboggoindhmkaaHeld16
import Derived.Test.YtcboggoindhmkaaRGr16
import Derived.Test.YtcboggoindhmkaaFew16
namespace Go.Proofs.Ytcboggoindhmkaa
open Go.RowKit

theorem few_list (l : List El) (x : Int) (hx : x ≤ 1000) (h : 0 ≤ fewE.L l x) : l.length ≤ 1000 ∧ fewN.L l ∧ hgt.L l ≤ 65536 := by
  obtain ⟨a, b, c⟩ := fewL_all l x (fun e _ => few_all e) hx h
  exact ⟨by omega, a, by omega⟩
theorem is_made (c n : Int) (l : List El) : isE (mkE c true n ⟨#[]⟩ l) c n true = mkOk c n := by
  unfold mkE isE
  cases mkOk c n
  · simp [el0]
  · simp
theorem below_0 {w w2 : World} {o : Obj} (h : Below (w.alloc o).heap.size (w.alloc o) w2) : Below w.heap.size w w2 := below_next (Below.one w o) h
set_option maxHeartbeats 6400000 in
theorem groups16_law (c n : Int) (l : List El) (v : Value) (w : World) (hV : ElsV w v l) : Calls Try.prog 4 #[.agg #[.int .i64 c, .int .i64 n], v] w fun e w' => e = .returned (.bool true) ∧ Below w.heap.size w w' := by
  have HA := hide awake16
  have HT0 := hide (Below.one w (bxT c n))
  obtain ⟨t0, t1⟩ := bxT_cells w c n
  have HC : Hid (∀ w2, Below (w.alloc (bxT c n)).heap.size (w.alloc (bxT c n)) w2 → w2.cell? ⟨w.heap.size, 0, none⟩ = some (.int .i64 c) ∧ w2.cell? ⟨w.heap.size, 1, none⟩ = some (.int .i64 n)) := fun w2 hb => ⟨(hb.cell (cell_lt t0)).trans t0, (hb.cell (cell_lt t1)).trans t1⟩
  have HV := hide (hV.below (unhide HT0))
  obtain ⟨ad, cap, rfl, hn, _⟩ := hV
  have HL := hide (unhide HV)
  clear t0 t1
  go_enter Try.func4, Try.ntmps4
  go_wp2
  go_loopw [5, 6] (fun vl vi wr => ∃ (i : Nat) (k : Int), i ≤ l.length ∧ vl = .int .i64 k ∧ vi = .int .i64 (i : Int) ∧ k ≤ 1000 ∧ Hid (fewE.L l 200 = fewE.L (l.drop i) k) ∧ Below (w.alloc (bxT c n)).heap.size (w.alloc (bxT c n)) wr) (fun _ i _ => l.length - (intOf i).toNat)
  case atStart => exact ⟨0, 200, Nat.zero_le _, rfl, rfl, by omega, rfl, Below.refl _ _⟩
  case round =>
    obtain ⟨i, k, hi, rfl, rfl, hk, HF, hb⟩ := hrel
    by_cases hlt : i < l.length
    · have hzl : (i : Int) < (l.length : Int) := by omega
      have hz0 : (0 : Int) ≤ (i : Int) := by omega
      by_cases hk0 : k < 0
      · go_wp2_with (go_at_call 15; refine (unhide HA _).mono ?_; rintro r w1 ⟨rfl, b1⟩)
        go_ret
        exact ⟨rfl, below_next (below_0 hb) b1⟩
      · obtain ⟨ad2, cap2, hv2, _, hc2⟩ := unhide HL
        cases hv2
        obtain ⟨g, off, rfl, hl⟩ := hc2.resolve_left (by omega)
        obtain ⟨a0, a1, a2, a3, a4, q0, q1, q2, q3, q4, hv⟩ := hl.get i hlt
        have k0 := (hb.cell (cell_lt q0)).trans q0
        have k1 := (hb.cell (cell_lt q1)).trans q1
        have k2 := (hb.cell (cell_lt q2)).trans q2
        have k3 := (hb.cell (cell_lt q3)).trans q3
        have k4 := (hb.cell (cell_lt q4)).trans q4
        have CF := few_any _ k _ wr (hv.grow hb) (by omega) (by omega)
        have hfi := (fewE_in (l.getD i el0) k (by omega) (by omega)).2
        have HS := hide (fewL_drop l i k hlt)
        generalize fewE (l.getD i el0) k = k2' at *
        clear hv hl q0 q1 q2 q3 q4 HL HV hc2
        go_wp2_with (go_at_call 16; refine CF.mono ?_; rintro r w2 ⟨rfl, g2⟩)
        go_roundw
        case rel => exact ⟨i + 1, k2', by omega, rfl, by go_num, hfi, (by show _ = _; rw [unhide HF, unhide HS, if_pos (by omega)]), below_next hb g2.below⟩
        case measure => simp [intOf]; omega
    · have hzl : ¬ (i : Int) < (l.length : Int) := by omega
      by_cases hk0 : k < 0
      · go_wp2_with (go_at_call 15; refine (unhide HA _).mono ?_; rintro r w1 ⟨rfl, b1⟩)
        go_ret
        exact ⟨rfl, below_next (below_0 hb) b1⟩
      · have hf : 0 ≤ fewE.L l 200 := by
          rw [unhide HF, List.drop_eq_nil_of_le (by omega)]
          simp only [fewE.L]
          omega
        obtain ⟨f1, f2, f3⟩ := few_list l 200 (by decide) hf
        have X0 := hide hb
        have VW := hide ((unhide HV).below hb)
        have C1 := hide (fun w2 h => group_any c n l (.slice ad l.length cap) w2 f1 f2 f3 h)
        have C2 := hide (fun w2 h => rgroup_any c n l (.slice ad l.length cap) w2 f1 h)
        have C3 := hide (fun v w2 h => is_any (mkE c true n ⟨#[]⟩ l) v c n true w2 h)
        rw [is_made] at C3
        have t0 := (unhide HC _ (unhide X0)).1
        have t1 := (unhide HC _ (unhide X0)).2
        unfold mkX at C1 C2
        generalize mkE c true n ⟨#[]⟩ l = E at *
        clear HL HV HF hb hf f1 f2 f3
        cases hok : mkOk c n
        · rw [hok] at C1 C2 C3
          simp only [Bool.false_eq_true, if_false] at C1 C2
          go_wp2_with (first
            | (go_at_call 15; refine (unhide HA _).mono ?_; rintro r w9 ⟨rfl, b9⟩)
            | (go_at_call 19; refine (unhide C3 _ _ (unhide GA3).ev).mono ?_; rintro r w4 ⟨rfl, g4⟩; have X4 := hide (below_next (unhide X3) g4.below); clear g4)
            | (go_at_call 14; refine (rsame_any E _ _ _ (unhide GA2).ev (unhide GB2).ev).mono ?_; rintro r w3 ⟨rfl, g3⟩; have X3 := hide (below_next (unhide X2) g3.below); have GA3 := hide ((unhide GA2).below g3.below); have ga30 := (unhide GA3).bx.c0; have ga31 := (unhide GA3).bx.c1; have ga32 := (unhide GA3).bx.c2; have ga33 := (unhide GA3).bx.c3; have ga34 := (unhide GA3).bx.c4; have t03 := (unhide HC _ (unhide X3)).1; have t13 := (unhide HC _ (unhide X3)).2; clear g3)
            | (go_at_call 18; refine (unhide C2 _ (unhide VW1)).mono ?_; rintro r w2 ⟨v2, rfl, u2, b2⟩; obtain ⟨a2, n2, rfl⟩ := u2.shape; have d2 := bel_one b2 (bxE E a2 n2); have X2 := hide (below_next (unhide X1) d2); have GA2 := hide ((unhide GA1).below d2); have GB2 := hide (Held.new u2); have ga20 := (unhide GA2).bx.c0; have ga21 := (unhide GA2).bx.c1; have ga22 := (unhide GA2).bx.c2; have ga23 := (unhide GA2).bx.c3; have ga24 := (unhide GA2).bx.c4; have gb20 := (unhide GB2).bx.c0; have gb21 := (unhide GB2).bx.c1; have gb22 := (unhide GB2).bx.c2; have gb23 := (unhide GB2).bx.c3; have gb24 := (unhide GB2).bx.c4; clear b2 d2 u2)
            | (go_at_call 17; refine (unhide C1 _ (unhide VW)).mono ?_; rintro r w1 ⟨v1, rfl, p1, b1⟩; have u1 := ElP.toV _ _ p1; clear p1; obtain ⟨a1, n1, rfl⟩ := u1.shape; have d1 := bel_one b1 (bxE E a1 n1); have X1 := hide (below_next (unhide X0) d1); have GA1 := hide (Held.new u1); have VW1 := hide ((unhide VW).below d1); have t01 := (unhide HC _ (unhide X1)).1; have t11 := (unhide HC _ (unhide X1)).2; clear b1 d1 u1))
          go_ret
          exact ⟨rfl, below_next (below_0 (unhide X4)) b9⟩
        · rw [hok] at C1 C2 C3
          simp only [if_true] at C1 C2
          go_wp2_with (first
            | (go_at_call 15; refine (unhide HA _).mono ?_; rintro r w9 ⟨rfl, b9⟩)
            | (go_at_call 19; refine (unhide C3 _ _ (unhide GA3).ev).mono ?_; rintro r w4 ⟨rfl, g4⟩; have X4 := hide (below_next (unhide X3) g4.below); clear g4)
            | (go_at_call 14; refine (rsame_any E _ _ _ (unhide GA2).ev (unhide GB2).ev).mono ?_; rintro r w3 ⟨rfl, g3⟩; have X3 := hide (below_next (unhide X2) g3.below); have GA3 := hide ((unhide GA2).below g3.below); have ga30 := (unhide GA3).bx.c0; have ga31 := (unhide GA3).bx.c1; have ga32 := (unhide GA3).bx.c2; have ga33 := (unhide GA3).bx.c3; have ga34 := (unhide GA3).bx.c4; have t03 := (unhide HC _ (unhide X3)).1; have t13 := (unhide HC _ (unhide X3)).2; clear g3)
            | (go_at_call 18; refine (unhide C2 _ (unhide VW1)).mono ?_; rintro r w2 ⟨v2, rfl, u2, b2⟩; obtain ⟨a2, n2, rfl⟩ := u2.shape; have d2 := bel_one b2 (bxE E a2 n2); have X2 := hide (below_next (unhide X1) d2); have GA2 := hide ((unhide GA1).below d2); have GB2 := hide (Held.new u2); have ga20 := (unhide GA2).bx.c0; have ga21 := (unhide GA2).bx.c1; have ga22 := (unhide GA2).bx.c2; have ga23 := (unhide GA2).bx.c3; have ga24 := (unhide GA2).bx.c4; have gb20 := (unhide GB2).bx.c0; have gb21 := (unhide GB2).bx.c1; have gb22 := (unhide GB2).bx.c2; have gb23 := (unhide GB2).bx.c3; have gb24 := (unhide GB2).bx.c4; clear b2 d2 u2)
            | (go_at_call 17; refine (unhide C1 _ (unhide VW)).mono ?_; rintro r w1 ⟨v1, rfl, p1, b1⟩; have u1 := ElP.toV _ _ p1; clear p1; obtain ⟨a1, n1, rfl⟩ := u1.shape; have d1 := bel_one b1 (bxE E a1 n1); have X1 := hide (below_next (unhide X0) d1); have GA1 := hide (Held.new u1); have VW1 := hide ((unhide VW).below d1); have t01 := (unhide HC _ (unhide X1)).1; have t11 := (unhide HC _ (unhide X1)).2; clear b1 d1 u1))
          go_ret
          exact ⟨rfl, below_next (below_0 (unhide X4)) b9⟩
end Go.Proofs.Ytcboggoindhmkaa
