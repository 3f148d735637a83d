/- The document's Table. -/
import Derived.Test.YtjoafogemjllhaaTbl
import Derived.Test.YtjoafogemjllhaaRef2
namespace Go.Proofs.Ytjoafogemjllhaa
open Go.RowKit

theorem rowsT_ok : okTo rowsT 106 = true := by kernel_rfl
theorem rowsT_fol (k : Nat) (h0 : 0 < k) (h : k < 106) : folS (rowsT.getD (k - 1) sp0) (rowsT.getD k sp0) = true := by
  have h1 := okTo_at rowsT_ok k h
  simp only [okAt, Bool.and_eq_true, Bool.or_eq_true, decide_eq_true_eq] at h1
  rcases h1.2.2 with h2 | h2
  · omega
  · exact h2
theorem rowsT_may (k : Nat) (h : k < 106) : 0 ≤ (rowsT.getD k sp0).f ∧ (rowsT.getD k sp0).f ≤ (rowsT.getD k sp0).t ∧ (rowsT.getD k sp0).t ≤ 1114111 := okAt_may (okTo_at rowsT_ok k h)
theorem takeT (k : Nat) (h : k < 106) : rowsT.take (k + 1) = rowsT.take k ++ [rowsT.getD k sp0] := by
  rw [List.take_add_one]
  have hl : k < rowsT.length := by rw [rowsT_len]; exact h
  simp [List.getD, hl]
theorem takeT_get (k j : Nat) (_h : k ≤ 106) (hj : j < k) : (rowsT.take k).getD j sp0 = rowsT.getD j sp0 := by
  simp [List.getD, hj]
theorem takeT_len (k : Nat) (h : k ≤ 106) : (rowsT.take k).length = k := by
  rw [List.length_take, rowsT_len]; omega


set_option maxHeartbeats 3200000 in
theorem rtable_any (w : World) : Calls Try.prog 20 #[] w fun e w' => ∃ g cap, e = .returned (.slice (some ⟨g, 0, none⟩) 106 cap) ∧ w'.ownsRow w.heap.size 44 3 (.slice (some ⟨g, 0, none⟩) 106 cap) 106 (spcs rowsT) ∧ Below w.heap.size w w' := by
  have mx := mixed
  obtain ⟨i0, hi, hz0', hz1, hz2⟩ := info_parts span_info
  have HR := hide (rows_any w)
  go_enter Try.func20, Try.ntmps20
  go_wp2_with (go_at_call 29; refine (unhide HR).mono ?_; rintro e w1 ⟨gr, capr, rfl, hownr, hbr⟩; have HC : Hid (∀ j, j < 106 → w1.cell? ⟨gr, j * 3, none⟩ = some (.int .i32 (rowsT.getD j sp0).f) ∧ w1.cell? ⟨gr, j * 3 + 1, none⟩ = some (.int .i32 (rowsT.getD j sp0).t) ∧ w1.cell? ⟨gr, j * 3 + 2, none⟩ = some (.int .i64 (rowsT.getD j sp0).h)) := hide (fun j hj => Ow.cells (l := rowsT) (by unfold Ow; rw [rowsT_len]; exact hownr) (by rw [rowsT_len]; exact hj)); clear hownr HR)
  go_loopw [2, 3] (fun x y wr => ∃ k : Nat, k ≤ 106 ∧ y = .int .i64 (k : Int) ∧ wr.ownsRow w1.heap.size 44 3 x k (spcs (rowsT.take k)) ∧ Below w1.heap.size w1 wr) (fun _ y _ => 106 - (intOf y).toNat)
  case atStart => exact ⟨0, Nat.zero_le _, rfl, ⟨rfl, .inl ⟨rfl, rfl⟩⟩, Below.refl _ _⟩
  case round =>
    obtain ⟨k, hk, rfl, hown, hb⟩ := hrel
    by_cases hlt : k < 106
    · have hzl : (k : Int) < 106 := by omega
      have hz0 : (0 : Int) ≤ (k : Int) := by omega
      obtain ⟨a1, a2, a3⟩ := unhide HC k hlt
      replace a1 := cell_gr ((hb.cell (p := ⟨gr, k * 3, none⟩) (cell_lt a1)).trans a1)
      replace a2 := cell_gr ((hb.cell (p := ⟨gr, k * 3 + 1, none⟩) (cell_lt a2)).trans a2)
      replace a3 := cell_gr ((hb.cell (p := ⟨gr, k * 3 + 2, none⟩) (cell_lt a3)).trans a3)
      have hS : spcs (rowsT.take (k + 1)) = spcs (rowsT.take k) ++ [.int .i32 (rowsT.getD k sp0).f, .int .i32 (rowsT.getD k sp0).t, .int .i64 (rowsT.getD k sp0).h] := by
        rw [takeT k hlt, spcs_append, spcs_one]; rfl
      have hm1 : k + 1 ≤ maxLen := by unfold maxLen; omega
      have hm2 : (k + 1) * 16 ≤ 140737488355328 := by omega
      have hsz := hb.size
      have HO := hide hown
      rcases hown.2 with ⟨hv, h0⟩ | ⟨g2, cap2, cur, hv, hrest⟩
      · subst hv
        subst h0
        generalize rowsT.getD 0 sp0 = s at *
        obtain ⟨f, t, h⟩ := s
        dsimp only at a1 a2 a3 hS
        have HS := hide hS
        clear hS HO
        go_wp2
        refine wp_region_quiet_grown (by first | exact mx | assumption) (by kernel_rfl) ?_
        repeat (go_big_quiet_step (fail))
        refine wpQuiet_nil ?_
        intro _ hw'
        obtain ⟨⟨nq, osq⟩, hw''⟩ := hw'
        subst hw''
        have gr1 := (Gr.refl wr).grow nq osq
        replace a1 := a1 nq osq
        replace a2 := a2 nq osq
        replace a3 := a3 nq osq
        generalize Go.Sort.grow (wr.drewN nq) osq = w2 at *
        have hown2 := own_gr3 hown gr1
        have hb2 := hb.trans (gr1.below.mono hb.size)
        have hs2 := hb2.size
        go_wp2_with (at_builtin; refine wpList_append_lies _ rfl _ _ 31 rfl w1.heap.size 44 i0 _ 3 16 Try.underlying31 hi hz0' hz1 hz2 rfl (by omega) _ _ _ rfl (hown2.alloc _) ⟨w2.heap.size, 0, none⟩ 1 1 [.int .i32 f, .int .i32 t, .int .i64 h] rfl rfl (World.news_of_block (cs := #[.int .i32 f, .int .i32 t, .int .i64 h]) (t := 44) (fr := (0, 0)) (heap_new w2 _)) (by simp [Value.oneCell']) (by omega) hm1 hm2 (by simp; omega) (w2.heap.size + 1) (by simp) ?_; intro g9 cap9 w9 hown9 hgrow9 hat9 hlt9)
        go_roundw
        case rel => exact ⟨0 + 1, by omega, by go_num, by rw [unhide HS]; exact hown9, (hb2.alloc (by omega) _).trans (below_own hgrow9 (by simp; omega) (own_block hown2))⟩
        case measure => simp [intOf]
      · subst hv
        clear hrest cur
        by_cases hk0 : k = 0
        · subst hk0
          generalize rowsT.getD 0 sp0 = s at *
          obtain ⟨f, t, h⟩ := s
          dsimp only at a1 a2 a3 hS
          have HS := hide hS
          clear hS HO
          go_wp2
          refine wp_region_quiet_grown (by first | exact mx | assumption) (by kernel_rfl) ?_
          repeat (go_big_quiet_step (fail))
          refine wpQuiet_nil ?_
          intro _ hw'
          obtain ⟨⟨nq, osq⟩, hw''⟩ := hw'
          subst hw''
          have gr1 := (Gr.refl wr).grow nq osq
          replace a1 := a1 nq osq
          replace a2 := a2 nq osq
          replace a3 := a3 nq osq
          generalize Go.Sort.grow (wr.drewN nq) osq = w2 at *
          have hown2 := own_gr3 hown gr1
          have hb2 := hb.trans (gr1.below.mono hb.size)
          have hs2 := hb2.size
          go_wp2_with (at_builtin; refine wpList_append_lies _ rfl _ _ 31 rfl w1.heap.size 44 i0 _ 3 16 Try.underlying31 hi hz0' hz1 hz2 rfl (by omega) _ _ _ rfl (hown2.alloc _) ⟨w2.heap.size, 0, none⟩ 1 1 [.int .i32 f, .int .i32 t, .int .i64 h] rfl rfl (World.news_of_block (cs := #[.int .i32 f, .int .i32 t, .int .i64 h]) (t := 44) (fr := (0, 0)) (heap_new w2 _)) (by simp [Value.oneCell']) (by omega) hm1 hm2 (by simp; omega) (w2.heap.size + 1) (by simp) ?_; intro g9 cap9 w9 hown9 hgrow9 hat9 hlt9)
          go_roundw
          case rel => exact ⟨0 + 1, by omega, by go_num, by rw [unhide HS]; exact hown9, (hb2.alloc (by omega) _).trans (below_own hgrow9 (by simp; omega) (own_block hown2))⟩
          case measure => simp [intOf]
        · obtain ⟨p1, p2, p3⟩ := Ow.cells (l := rowsT.take k) (k := k - 1) (by unfold Ow; rw [takeT_len k hk]; exact hown) (by rw [takeT_len k hk]; omega)
          rw [takeT_get k (k - 1) hk (by omega)] at p1 p2 p3
          replace p1 := cell_gr p1
          replace p2 := cell_gr p2
          replace p3 := cell_gr p3
          have hfol := rowsT_fol k (by omega) hlt
          have hmay := rowsT_may (k - 1) (by omega)
          have hofs : ((k : Int) - 1).toNat = k - 1 := by omega
          have hwr : IntKind.i64.wrap ((k : Int) - 1) = (k : Int) - 1 := by rw [IntKind.wrap_i64]; omega
          have hgt : (0 : Int) < (k : Int) := by omega
          have d1 : decide ((k : Int) > 0) = true := decide_eq_true (by omega)
          have d2 : decide ((0 : Int) < (k : Int)) = true := decide_eq_true (by omega)
          have d3 : decide (0 < k) = true := decide_eq_true (by omega)
          have hge1 : (0 : Int) ≤ (k : Int) - 1 := by omega
          have hlt1 : (k : Int) - 1 < (k : Int) := by omega
          clear hk0
          generalize rowsT.getD (k - 1) sp0 = p at *
          generalize rowsT.getD k sp0 = s at *
          obtain ⟨f, t, h⟩ := s
          obtain ⟨pf, pt, ph⟩ := p
          dsimp only at a1 a2 a3 hS p1 p2 p3 hmay
          have HS := hide hS
          clear hS HO
          generalize k - 1 = k1 at *
          have hw2 : IntKind.i32.wrap (pt + 1) = pt + 1 := by simp [IntKind.wrap, IntKind.bits, IntKind.signed]; omega
          cases he : (ph == h)
          · clear hfol
            go_wp2
            refine wp_region_quiet_grown (by first | exact mx | assumption) (by kernel_rfl) ?_
            repeat (go_big_quiet_step (fail))
            refine wpQuiet_nil ?_
            intro _ hw'
            obtain ⟨⟨nq, osq⟩, hw''⟩ := hw'
            subst hw''
            have gr1 := (Gr.refl wr).grow nq osq
            replace a1 := a1 nq osq
            replace a2 := a2 nq osq
            replace a3 := a3 nq osq
            generalize Go.Sort.grow (wr.drewN nq) osq = w2 at *
            have hown2 := own_gr3 hown gr1
            have hb2 := hb.trans (gr1.below.mono hb.size)
            have hs2 := hb2.size
            go_wp2_with (at_builtin; refine wpList_append_lies _ rfl _ _ 31 rfl w1.heap.size 44 i0 _ 3 16 Try.underlying31 hi hz0' hz1 hz2 rfl (by omega) _ _ _ rfl (hown2.alloc _) ⟨w2.heap.size, 0, none⟩ 1 1 [.int .i32 f, .int .i32 t, .int .i64 h] rfl rfl (World.news_of_block (cs := #[.int .i32 f, .int .i32 t, .int .i64 h]) (t := 44) (fr := (0, 0)) (heap_new w2 _)) (by simp [Value.oneCell']) (by omega) hm1 hm2 (by simp; omega) (w2.heap.size + 1) (by simp) ?_; intro g9 cap9 w9 hown9 hgrow9 hat9 hlt9)
            go_roundw
            case rel => exact ⟨k + 1, by omega, by go_num, by rw [unhide HS]; exact hown9, (hb2.alloc (by omega) _).trans (below_own hgrow9 (by simp; omega) (own_block hown2))⟩
            case measure => simp [intOf]; omega
          · have hnj : (pt + 1 == f) = false := by
              have hh : ph = h := by simpa using he
              simp only [folS, Bool.and_eq_true, Bool.not_eq_true', joinS_not] at hfol
              simp
              intro hf
              exact hfol.2 ⟨hf.symm, hh.symm⟩
            clear hfol
            go_wp2
            refine wp_region_quiet_grown (by first | exact mx | assumption) (by kernel_rfl) ?_
            repeat (go_big_quiet_step (fail))
            refine wpQuiet_nil ?_
            intro _ hw'
            obtain ⟨⟨nq, osq⟩, hw''⟩ := hw'
            subst hw''
            have gr1 := (Gr.refl wr).grow nq osq
            replace a1 := a1 nq osq
            replace a2 := a2 nq osq
            replace a3 := a3 nq osq
            generalize Go.Sort.grow (wr.drewN nq) osq = w2 at *
            have hown2 := own_gr3 hown gr1
            have hb2 := hb.trans (gr1.below.mono hb.size)
            have hs2 := hb2.size
            go_wp2_with (at_builtin; refine wpList_append_lies _ rfl _ _ 31 rfl w1.heap.size 44 i0 _ 3 16 Try.underlying31 hi hz0' hz1 hz2 rfl (by omega) _ _ _ rfl (hown2.alloc _) ⟨w2.heap.size, 0, none⟩ 1 1 [.int .i32 f, .int .i32 t, .int .i64 h] rfl rfl (World.news_of_block (cs := #[.int .i32 f, .int .i32 t, .int .i64 h]) (t := 44) (fr := (0, 0)) (heap_new w2 _)) (by simp [Value.oneCell']) (by omega) hm1 hm2 (by simp; omega) (w2.heap.size + 1) (by simp) ?_; intro g9 cap9 w9 hown9 hgrow9 hat9 hlt9)
            go_roundw
            case rel => exact ⟨k + 1, by omega, by go_num, by rw [unhide HS]; exact hown9, (hb2.alloc (by omega) _).trans (below_own hgrow9 (by simp; omega) (own_block hown2))⟩
            case measure => simp [intOf]; omega
    · have hzl : ¬ (k : Int) < 106 := by omega
      obtain rfl : k = 106 := by omega
      have ht : rowsT.take 106 = rowsT := List.take_of_length_le (by rw [rowsT_len]; omega)
      rw [ht] at hown
      obtain ⟨g, cap, hv⟩ : ∃ g cap, _ = Value.slice (some ⟨g, 0, none⟩) 106 cap := by
        rcases hown.2 with ⟨_, h0⟩ | ⟨g, cap, cur, hv, _⟩
        · omega
        · exact ⟨g, cap, hv⟩
      subst hv
      have HO : Hid (wr.ownsRow w.heap.size 44 3 (.slice (some ⟨g, 0, none⟩) 106 cap) 106 (spcs rowsT)) := by
        refine hide ⟨hown.1, ?_⟩
        rcases hown.2 with ⟨hv, h0⟩ | ⟨g', cap', cur, hv, hB, rest⟩
        · omega
        · exact .inr ⟨g', cap', cur, hv, Nat.le_trans hbr.size hB, rest⟩
      clear hown
      go_wp2
      go_ret
      exact ⟨g, cap, rfl, unhide HO, hbr.trans (hb.mono hbr.size)⟩
end Go.Proofs.Ytjoafogemjllhaa
