/- The document's Some; what both tell of any two numbers. -/
import Derived.Test.YtjoafogemjllhaaSome
namespace Go.Proofs.Ytjoafogemjllhaa
open Go.RowKit


set_option maxHeartbeats 3200000 in
theorem rsome_in (q n : Int) (h1 : 1 ≤ n) (h2 : n ≤ 500) (h3 : 1 ≤ q) (w : World) :
    Calls Try.prog 17 #[.int .i64 q, .int .i64 n] w fun e w' => ∃ v, e = .returned v ∧ Rn w.heap.size v ((allK q rowsT).take n.toNat) w' ∧ Below w.heap.size w w' := by
  have mx := mixed
  obtain ⟨i0, hi, hz0', hz1, hz2⟩ := info_parts elem_info
  have HT := hide (rows_any w)
  have c1 : ¬ n < 1 := by omega
  have c2 : ¬ 500 < n := by omega
  have c3 : ¬ q < 1 := by omega
  go_enter Try.func17, Try.ntmps17
  go_wp2_with (go_at_call 29; refine (unhide HT).mono ?_; rintro e w1 ⟨gt, ct, rfl, hot, hbt⟩; have HC : Hid (∀ j, j < 106 → w1.cell? ⟨gt, j * 3, none⟩ = some (.int .i32 (rowsT.getD j sp0).f) ∧ w1.cell? ⟨gt, j * 3 + 1, none⟩ = some (.int .i32 (rowsT.getD j sp0).t) ∧ w1.cell? ⟨gt, j * 3 + 2, none⟩ = some (.int .i64 (rowsT.getD j sp0).h)) := hide (fun j hj => Ow.cells (l := rowsT) (by unfold Ow; rw [rowsT_len]; exact hot) (by rw [rowsT_len]; exact hj)); clear hot HT)
  obtain ⟨B, hB⟩ : ∃ B, B = w1.heap.size := ⟨_, rfl⟩
  have HB := hide hB
  clear hB
  go_loopw [5, 7] (fun x y wr => ∃ k : Nat, k ≤ 106 ∧ y = .int .i64 (k : Int) ∧ Rn B x ((allK q (rowsT.take k)).take n.toNat) wr ∧ Below B w1 wr) (fun _ y _ => 106 - (intOf y).toNat)
  case atStart => exact ⟨0, Nat.zero_le _, rfl, by simpa [allK] using Rn.nil B w1, Below.refl _ _⟩
  case round =>
    obtain ⟨k, hk, rfl, hown, hb⟩ := hrel
    by_cases hlt : k < 106
    · have hzl : (k : Int) < 106 := by omega
      have hz0 : (0 : Int) ≤ (k : Int) := by omega
      obtain ⟨e1, e2, e3⟩ := unhide HC k hlt
      have hmay := rowsT_may k hlt
      have hS := allK_succ q k hlt
      generalize rowsT.getD k sp0 = s at *
      obtain ⟨f, t, h⟩ := s
      dsimp only at e1 e2 e3 hmay
      have E1 := hide e1
      have E2 := hide e2
      have E3 := hide e3
      have a1 := (hb.cell (p := ⟨gt, k * 3, none⟩) (by rw [unhide HB]; exact cell_lt e1)).trans e1
      have a2 := (hb.cell (p := ⟨gt, k * 3 + 1, none⟩) (by rw [unhide HB]; exact cell_lt e2)).trans e2
      have a3 := (hb.cell (p := ⟨gt, k * 3 + 2, none⟩) (by rw [unhide HB]; exact cell_lt e3)).trans e3
      clear e1 e2 e3
      generalize allK q (rowsT.take k) = A at *
      have HS := hide hS
      clear hS
      by_cases hq : h = q
      · subst hq
        have HS2 : Hid (allK h (rowsT.take (k + 1)) = A ++ rng f (t - f + 1).toNat) := by
          show _ = _
          rw [unhide HS]; simp [ofS]
        clear HS
        have HO1 := hide hown
        have HB1 := hide hb
        clear hown
        go_wp2
        clear a1 a2 a3 hb
        go_loopw [5, 8] (fun x y wr => ∃ j : Nat, y = .int .i32 (f + (j : Int)) ∧ f + (j : Int) ≤ t + 1 ∧ Rn B x ((A ++ rng f j).take n.toNat) wr ∧ Below B w1 wr) (fun _ y _ => (t + 1 - intOf y).toNat)
        case atStart => exact ⟨0, by simp, by simp; omega, by simpa [rng] using unhide HO1, unhide HB1⟩
        case round =>
          clear HO1 HB1
          obtain ⟨j, rfl, hj, hown, hb⟩ := hrel
          have a1 := (hb.cell (p := ⟨gt, k * 3, none⟩) (by rw [unhide HB]; exact cell_lt (unhide E1))).trans (unhide E1)
          have a2 := (hb.cell (p := ⟨gt, k * 3 + 1, none⟩) (by rw [unhide HB]; exact cell_lt (unhide E2))).trans (unhide E2)
          have a3 := (hb.cell (p := ⟨gt, k * 3 + 2, none⟩) (by rw [unhide HB]; exact cell_lt (unhide E3))).trans (unhide E3)
          have hsB : B ≤ wr.heap.size := by rw [unhide HB]; exact hb.size
          have HO := hide hown
          obtain ⟨xa, xc, hv⟩ := hown.shape
          clear hown
          have hlen : ((A ++ rng f j).take n.toNat).length ≤ n.toNat := by rw [List.length_take]; omega
          have HP := hide (take_push A f j n.toNat)
          have HF := hide (fun m hm => take_full A f j m n.toNat hm)
          obtain ⟨zs, hzs⟩ : ∃ zs, (A ++ rng f j).take n.toNat = zs := ⟨_, rfl⟩
          rw [hzs] at HO hv hlen HP HF
          have HZ := hide hzs
          clear hzs
          subst hv
          by_cases p1 : f + (j : Int) ≤ t
          · by_cases p2 : zs.length < n.toNat
            · have p2z : (zs.length : Int) < n := by omega
              have HP2 := hide (unhide HP p2)
              clear HP HF
              have k1 : IntKind.i32.wrap (f + (j : Int) + 1) = f + (j : Int) + 1 := by simp [IntKind.wrap, IntKind.bits, IntKind.signed]; omega
              have hm1 : zs.length + 1 ≤ maxLen := by unfold maxLen; omega
              have hm2 : (zs.length + 1) * 4 ≤ 140737488355328 := by omega
              have hsz := hb.size
              go_wp2_with (at_builtin; refine wpList_append_lies _ rfl _ _ 28 rfl B 21 i0 _ 1 4 Try.underlying28 hi hz0' hz1 hz2 rfl (by omega) _ _ _ rfl ((unhide HO).alloc _) ⟨wr.heap.size, 0, none⟩ 1 1 [.int .i32 (f + (j : Int))] rfl rfl (World.news_of_block (cs := #[.int .i32 (f + (j : Int))]) (t := 21) (fr := (0, 0)) (heap_new wr _)) (by simp [Value.oneCell']) (by omega) hm1 hm2 (by simp; omega) (wr.heap.size + 1) (by simp) ?_; intro g9 cap9 w9 hown9 hgrow9 hat9 hlt9)
              go_roundw
              case rel => exact ⟨j + 1, by push_cast; congr 1; omega, by push_cast; omega, by rw [unhide HP2]; exact Rn.push hown9 (unhide HO), (hb.alloc hsB _).trans (below_own hgrow9 (by rw [World.size_alloc]; omega) (own_block (unhide HO)))⟩
              case measure => simp [intOf]; omega
            · have p2z : ¬ (zs.length : Int) < n := by omega
              have HF2 : Hid ((A ++ rng f (t - f + 1).toNat).take n.toNat = zs) := hide (unhide HF _ (by omega) p2)
              clear HP HF
              go_wp2
              go_roundw
              case rel => exact ⟨k + 1, by omega, by go_num, by rw [unhide HS2, unhide HF2]; exact unhide HO, hb⟩
              case measure => simp [intOf]; omega
          · have HF2 : Hid (j = (t - f + 1).toNat) := by show j = _; omega
            have HE : Hid ((A ++ rng f (t - f + 1).toNat).take n.toNat = zs) := by
              show _ = _
              rw [← unhide HF2]; exact unhide HZ
            clear HP HF
            go_wp2
            go_roundw
            case rel => exact ⟨k + 1, by omega, by go_num, by rw [unhide HS2, unhide HE]; exact unhide HO, hb⟩
            case measure => simp [intOf]; omega
      · have HS2 : Hid (allK q (rowsT.take (k + 1)) = A) := by
          show _ = _
          rw [unhide HS]; simp [ofS, hq]
        clear HS
        have p1 : f ≤ t := by omega
        go_wp2
        refine wp_loop_rounds 1 ?_
        rw [rounds_succ]
        go_wp2
        go_roundw
        case rel => exact ⟨k + 1, by omega, by go_num, by rw [unhide HS2]; exact hown, hb⟩
        case measure => simp [intOf]; omega
    · have hzl : ¬ (k : Int) < 106 := by omega
      obtain rfl : k = 106 := by omega
      have ht : rowsT.take 106 = rowsT := List.take_of_length_le (by rw [rowsT_len]; omega)
      rw [ht] at hown
      have HO := hide (hown.base (C := w.heap.size) (by rw [unhide HB]; exact hbt.size))
      obtain ⟨xa, xc, hv⟩ := hown.shape
      clear hown
      rw [unhide HB] at hb
      obtain ⟨zs, hzs⟩ : ∃ zs, (allK q rowsT).take n.toNat = zs := ⟨_, rfl⟩
      rw [hzs] at HO hv
      have HZ := hide hzs
      clear hzs
      subst hv
      go_wp2
      go_ret
      exact ⟨.slice xa zs.length xc, rfl, by rw [unhide HZ]; exact unhide HO, hbt.trans (hb.mono hbt.size)⟩

set_option maxHeartbeats 800000 in
theorem some_out (q n : Int) (h : n < 1 ∨ 500 < n ∨ q < 1 ∨ 7 < q) (w : World) : Calls Try.prog 16 #[.int .i64 q, .int .i64 n] w fun e w' => ∃ v, e = .returned v ∧ Rn w.heap.size v [] w' ∧ Below w.heap.size w w' := by
  by_cases c0 : n < 1
  · go_enter Try.func16, Try.ntmps16
    go_wp2
    go_ret
    exact ⟨.slice none 0 0, rfl, Rn.nil _ _, Below.refl _ _⟩
  · by_cases c1 : 500 < n
    · go_enter Try.func16, Try.ntmps16
      go_wp2
      go_ret
      exact ⟨.slice none 0 0, rfl, Rn.nil _ _, Below.refl _ _⟩
    · by_cases c2 : q < 1
      · go_enter Try.func16, Try.ntmps16
        go_wp2
        go_ret
        exact ⟨.slice none 0 0, rfl, Rn.nil _ _, Below.refl _ _⟩
      · have c3 : 7 < q := by omega
        go_enter Try.func16, Try.ntmps16
        go_wp2
        go_ret
        exact ⟨.slice none 0 0, rfl, Rn.nil _ _, Below.refl _ _⟩

set_option maxHeartbeats 800000 in
theorem rsome_out (q n : Int) (h : n < 1 ∨ 500 < n ∨ q < 1) (w : World) : Calls Try.prog 17 #[.int .i64 q, .int .i64 n] w fun e w' => ∃ v, e = .returned v ∧ Rn w.heap.size v [] w' ∧ Below w.heap.size w w' := by
  by_cases c0 : n < 1
  · go_enter Try.func17, Try.ntmps17
    go_wp2
    go_ret
    exact ⟨.slice none 0 0, rfl, Rn.nil _ _, Below.refl _ _⟩
  · by_cases c1 : 500 < n
    · go_enter Try.func17, Try.ntmps17
      go_wp2
      go_ret
      exact ⟨.slice none 0 0, rfl, Rn.nil _ _, Below.refl _ _⟩
    · have c2 : q < 1 := by omega
      go_enter Try.func17, Try.ntmps17
      go_wp2
      go_ret
      exact ⟨.slice none 0 0, rfl, Rn.nil _ _, Below.refl _ _⟩
/-- Some, of any two numbers. -/
theorem some_any (q n : Int) (w : World) : Calls Try.prog 16 #[.int .i64 q, .int .i64 n] w fun e w' => ∃ v, e = .returned v ∧ Rn w.heap.size v (someL q n) w' ∧ Below w.heap.size w w' := by
  unfold someL
  by_cases h : 1 ≤ n ∧ n ≤ 500 ∧ 1 ≤ q ∧ q ≤ 7
  · rw [if_pos h]; exact some_in q n h.1 h.2.1 h.2.2.1 h.2.2.2 w
  · rw [if_neg h]; exact some_out q n (by omega) w
/-- The document's Some. -/
theorem rsome_any (q n : Int) (w : World) : Calls Try.prog 17 #[.int .i64 q, .int .i64 n] w fun e w' => ∃ v, e = .returned v ∧ Rn w.heap.size v (someL q n) w' ∧ Below w.heap.size w w' := by
  unfold someL
  by_cases h : 1 ≤ n ∧ n ≤ 500 ∧ 1 ≤ q ∧ q ≤ 7
  · rw [if_pos h]; exact rsome_in q n h.1 h.2.1 h.2.2.1 w
  · rw [if_neg h]
    by_cases h2 : n < 1 ∨ 500 < n ∨ q < 1
    · exact rsome_out q n h2 w
    · have := rsome_in q n (by omega) (by omega) (by omega) w
      rw [allK_none q (by omega)] at this
      simpa using this
theorem someL_len (q n : Int) : (someL q n).length ≤ 500 := by
  unfold someL
  split
  · rw [List.length_take]; omega
  · simp
end Go.Proofs.Ytjoafogemjllhaa
