/- Table. -/
import Derived.Test.YtjoafogemjllhaaRef
namespace Go.Proofs.Ytjoafogemjllhaa
open Go.RowKit


theorem extA (k : Nat) (h : k < 90) : cellsA.extract (k * 3) (k * 3 + 3) = #[.int .i32 (rowsA.getD k sp0).f, .int .i32 (rowsA.getD k sp0).t, .int .i64 (rowsA.getD k sp0).h] := by
  obtain ⟨h1, h2, h3⟩ := cellsA_get k h
  have hs := cellsA_size
  apply Array.ext_getElem?
  intro i
  rw [Array.getElem?_extract]
  rcases i with _ | _ | _ | i
  · rw [if_pos (by rw [hs]; omega)]; simpa using h1
  · rw [if_pos (by rw [hs]; omega)]; simpa using h2
  · rw [if_pos (by rw [hs]; omega)]; simpa using h3
  · rw [if_neg (by omega)]; simp
theorem idxA (k : Nat) (h : k < 90) (W : World) : (Instr.index 39 (.agg cellsA) (.int .i64 (k : Int))).run Try.prog W = .ok (.agg #[.int .i32 (rowsA.getD k sp0).f, .int .i32 (rowsA.getD k sp0).t, .int .i64 (rowsA.getD k sp0).h]) W := by
  have u1 := Try.underlying39
  have a3 := Try.isAgg38
  have z3 := Try.sizeOf38
  have hE := extA k h
  have hk : (k : Int) < 90 := by omega
  have hk0 : (0 : Int) ≤ (k : Int) := by omega
  unfold Instr.index part
  go_simp
theorem takeA (k : Nat) (h : k < 90) : rowsA.take (k + 1) = rowsA.take k ++ [rowsA.getD k sp0] := by
  rw [List.take_add_one]
  have hl : k < rowsA.length := by rw [rowsA_len]; exact h
  simp [List.getD, hl]

set_option maxHeartbeats 1600000 in
theorem table_any (w : World) : Calls Try.prog 18 #[] w fun e w' => ∃ g cap, e = .returned (.slice (some ⟨g, 0, none⟩) 106 cap) ∧ w'.ownsRow w.heap.size 44 3 (.slice (some ⟨g, 0, none⟩) 106 cap) 106 (spcs rowsT) ∧ Below w.heap.size w w' := by
  have mx := mixed
  obtain ⟨i0, hi, hz0', hz1, hz2⟩ := info_parts span_info
  have hm106 : 106 ≤ maxLen := by unfold maxLen; omega
  have HF := hide firstPlane_gr
  go_enter Try.func18, Try.ntmps18
  go_wp2_with (first
    | (at_make; refine wpList_make_own _ rfl _ _ 31 rfl w.heap.size 44 i0 _ 3 Try.underlying31 hi hz0' hz1 .i64 .i64 _ 106 rfl rfl (by omega) (by rw [hz2]; omega) hm106 (Nat.le_refl _) ?_; intro w1 hown1 hgrow1)
    | (go_at_call 24; refine (unhide HF _).mono ?_; rintro e w2 ⟨rfl, hg2⟩; have hown2 := own_gr3 hown1 hg2; have hb2 : Below w.heap.size w w2 := (below_own hgrow1 (Nat.le_refl _) (fun g hg => by cases hg)).trans (hg2.below.mono hgrow1.size); clear hown1 hgrow1 hg2))
  go_loopw [1, 7] (fun x y wr => ∃ k : Nat, k ≤ 90 ∧ y = .int .i64 (k : Int) ∧ wr.ownsRow w.heap.size 44 3 x k (spcs (rowsA.take k)) ∧ Below w.heap.size w wr) (fun _ y _ => 90 - (intOf y).toNat)
  case atStart => exact ⟨0, Nat.zero_le _, rfl, hown2, hb2⟩
  case round =>
    clear hown2 hb2
    obtain ⟨k, hk, rfl, hown, hb⟩ := hrel
    by_cases hlt : k < 90
    · have hzl : (k : Int) < 90 := by omega
      have hz0 : (0 : Int) ≤ (k : Int) := by omega
      have hS : spcs (rowsA.take (k + 1)) = spcs (rowsA.take k) ++ [.int .i32 (rowsA.getD k sp0).f, .int .i32 (rowsA.getD k sp0).t, .int .i64 (rowsA.getD k sp0).h] := by
        rw [takeA k hlt, spcs_append, spcs_one]; rfl
      have hix := idxA k hlt
      generalize rowsA.getD k sp0 = s at *
      obtain ⟨f, t, h⟩ := s
      dsimp only at hix hS
      have HS := hide hS
      clear hS
      have hm1 : k + 1 ≤ maxLen := by unfold maxLen; omega
      have hm2 : (k + 1) * 16 ≤ 140737488355328 := by omega
      have hsz := hb.size
      go_wp2_with (at_builtin; refine wpList_append_lies _ rfl _ _ 31 rfl w.heap.size 44 i0 _ 3 16 Try.underlying31 hi hz0' hz1 hz2 rfl (by omega) _ _ _ rfl ((hown.alloc _).alloc _) ⟨wr.heap.size + 1, 0, none⟩ 1 1 [.int .i32 f, .int .i32 t, .int .i64 h] rfl rfl (World.news_of_block (B := wr.heap.size + 1) (cs := #[.int .i32 f, .int .i32 t, .int .i64 h]) (t := 44) (fr := (0, 0)) (by rw [← World.size_alloc wr (.cells #[.int .i32 f, .int .i32 t, .int .i64 h] 38)]; exact heap_new _ _)) (by simp [Value.oneCell']) (by omega) hm1 hm2 (by simp; omega) (wr.heap.size + 2) (by simp) ?_; intro g9 cap9 w9 hown9 hgrow9 hat9 hlt9)
      go_roundw
      case rel =>
        refine ⟨k + 1, by omega, by go_num, by rw [unhide HS]; exact hown9, ?_⟩
        have hb2 := (hb.alloc (by omega) (.cells #[.int .i32 f, .int .i32 t, .int .i64 h] 38)).alloc (by simp; omega) (.cells #[.int .i32 f, .int .i32 t, .int .i64 h] 44)
        exact hb2.trans (below_own hgrow9 (by simp; omega) (own_block hown))
      case measure => simp [intOf]; omega
    · have hzl : ¬ (k : Int) < 90 := by omega
      obtain rfl : k = 90 := by omega
      have ht90 : rowsA.take 90 = rowsA := List.take_of_length_le (by rw [rowsA_len]; omega)
      rw [ht90] at hown
      have HL : Hid (∀ (k : Nat) W, k < 16 → Calls Try.prog 31 #[.int .i64 ((k : Int) + 1)] W fun e w' => e = .returned (.agg #[.int .i32 (((k : Int) + 1) * 65536 + 65534), .int .i32 (((k : Int) + 1) * 65536 + 65535), .int .i64 7]) ∧ Gr W w') := fun k W hk => lastTwo_any _ (by omega) (by omega) W
      clear hk hlt ht90
      go_wp2
      go_loopw [1, 15] (fun x y wr => ∃ k : Nat, k ≤ 16 ∧ y = .int .i64 (k : Int) ∧ wr.ownsRow w.heap.size 44 3 x (90 + k) (spcs rowsA ++ spcs (rowsP.take k)) ∧ Below w.heap.size w wr) (fun _ y _ => 16 - (intOf y).toNat)
      case atStart => exact ⟨0, Nat.zero_le _, rfl, by simpa [spcs] using hown, hb⟩
      case round =>
        clear hown hb
        obtain ⟨k, hk, rfl, hown, hb⟩ := hrel
        by_cases hlt : k < 16
        · have hzl : (k : Int) < 16 := by omega
          have hz0 : (0 : Int) ≤ (k : Int) := by omega
          have k1 : IntKind.i64.wrap ((k : Int) + 1) = (k : Int) + 1 := by rw [IntKind.wrap_i64]; omega
          have HLK : Hid (∀ W, Calls Try.prog 31 #[.int .i64 ((k : Int) + 1)] W fun e w' => e = .returned (.agg #[.int .i32 (((k : Int) + 1) * 65536 + 65534), .int .i32 (((k : Int) + 1) * 65536 + 65535), .int .i64 7]) ∧ Gr W w') := fun W => unhide HL k W hlt
          have hS : spcs (rowsP.take (k + 1)) = spcs (rowsP.take k) ++ [.int .i32 (((k : Int) + 1) * 65536 + 65534), .int .i32 (((k : Int) + 1) * 65536 + 65535), .int .i64 7] := by
            rw [takeP k hlt, spcs_append, spcs_one]; rfl
          generalize ((k : Int) + 1) * 65536 + 65534 = f at *
          generalize ((k : Int) + 1) * 65536 + 65535 = t at *
          have HS := hide hS
          clear hS
          have hm1 : 90 + k + 1 ≤ maxLen := by unfold maxLen; omega
          have hm2 : (90 + k + 1) * 16 ≤ 140737488355328 := by omega
          have hsz := hb.size
          go_wp2_with (first
            | (go_at_call 31; refine (unhide HLK _).mono ?_; rintro e w2 ⟨rfl, hg2⟩; have hown2 := own_gr3 hown hg2; have hb2 := hb.trans (hg2.below.mono hb.size); have hsz2 := hg2.size)
            | (at_builtin; refine wpList_append_lies _ rfl _ _ 31 rfl w.heap.size 44 i0 _ 3 16 Try.underlying31 hi hz0' hz1 hz2 rfl (by omega) _ _ _ rfl (hown2.alloc _) ⟨w2.heap.size, 0, none⟩ 1 1 [.int .i32 f, .int .i32 t, .int .i64 7] rfl rfl (World.news_of_block (cs := #[.int .i32 f, .int .i32 t, .int .i64 7]) (t := 44) (fr := (0, 0)) (heap_new w2 _)) (by simp [Value.oneCell']) (by omega) hm1 hm2 (by simp; omega) (w2.heap.size + 1) (by simp) ?_; intro g9 cap9 w9 hown9 hgrow9 hat9 hlt9))
          go_roundw
          case rel =>
            refine ⟨k + 1, by omega, by go_num, ?_, ?_⟩
            · rw [unhide HS, ← List.append_assoc]; exact hown9
            · exact (hb2.alloc (by omega) _).trans (below_own hgrow9 (by simp; omega) (own_block hown))
          case measure => simp [intOf]; omega
        · have hzl : ¬ (k : Int) < 16 := by omega
          obtain rfl : k = 16 := by omega
          have ht16 : rowsP.take 16 = rowsP := List.take_of_length_le (by rw [rowsP_len]; omega)
          rw [ht16, ← spcs_append] at hown
          obtain ⟨g, cap, hv⟩ : ∃ g cap, _ = Value.slice (some ⟨g, 0, none⟩) 106 cap := by
            rcases hown.2 with ⟨_, h0⟩ | ⟨g, cap, cur, hv, _⟩
            · omega
            · exact ⟨g, cap, hv⟩
          subst hv
          have HO := hide hown
          clear hown
          go_wp2
          go_ret
          exact ⟨g, cap, rfl, unhide HO, hb⟩
end Go.Proofs.Ytjoafogemjllhaa
