/- slices.Grow and slices.Concat, as the landed firm calls them. -/
import Derived.Test.YtdlbdfndnjdeeaaWo11
import Derived.Lib.AppendZeros
namespace Go.Proofs.Ytdlbdfndnjdeeaa
open Go.RowKit

theorem zeros_size (n : Nat) : (Builtin.zeroCells (Value.cells (.int .i32 0)) n).size = n := by
  simp [Builtin.zeroCells, Value.cells]
theorem grow_own (w : World) (n : Nat) (hn : n ≤ maxLen) : (w.drew.alloc (.cells (Builtin.zeroCells (Value.cells (.int .i32 0)) n ++ Builtin.zeroCells (Value.cells (.int .i32 0)) (grownCap w n 0 21 - n)) 21)).ownsRow w.heap.size 21 1 (.slice (some ⟨w.heap.size, 0, none⟩) 0 (grownCap w n 0 21)) 0 [] := by
  have h1 := grownCap_ge w n 0 21
  refine ⟨rfl, .inr ⟨w.heap.size, _, _, rfl, Nat.le_refl _, heap_new w.drew _, Nat.zero_le _, grownCap_le_maxLen w n 0 21 hn, ?_, rfl⟩⟩
  rw [Array.size_append, zeros_size, zeros_size]
  omega
set_option maxHeartbeats 800000 in
/-- Grow of nothing: room for n. -/
theorem grow_any (n : Nat) (w : World) (h0 : 0 < n) (hn : n ≤ 10000) :
    Calls Try.prog 46 #[.slice none 0 0, .int .i64 (n : Int)] w fun e w' => ∃ a c, e = .returned (.slice a 0 c) ∧ Rn w.heap.size (.slice a 0 c) [] w' ∧ Below w.heap.size w w' := by
  obtain ⟨i0, hi, hz0, hz1, hz2⟩ := info_parts elem_info
  have HR := Lib.run_append_nil_zeros (P := Try.prog) w 22 3 22 21 i0 (.int .i32 0) .i64 .i64 Try.underlying22 Try.underlying3 hi hz0 n h0 (by rw [hz1]; omega) (by omega) (by rw [hz2]; omega)
  have HO := hide (grow_own w n (by unfold maxLen; omega))
  have HB : Hid (Below w.heap.size w (w.drew.alloc (.cells (Builtin.zeroCells (Value.cells (.int .i32 0)) n ++ Builtin.zeroCells (Value.cells (.int .i32 0)) (grownCap w n 0 21 - n)) 21))) := (((Gr.refl w).drew).alloc _).below
  generalize (w.drew.alloc (.cells (Builtin.zeroCells (Value.cells (.int .i32 0)) n ++ Builtin.zeroCells (Value.cells (.int .i32 0)) (grownCap w n 0 21 - n)) 21)) = w1 at *
  generalize grownCap w n 0 21 = c1 at *
  have HRH := hide HR
  clear HR
  have hz : (0 : Int) < (n : Int) := by omega
  have hz' : ¬ (n : Int) < 0 := by omega
  go_enter Try.func46, Try.ntmps46
  go_wp2_with (at_builtin; refine Lib.wpList_append_run _ rfl _ _ _ _ rfl _ _ rfl rfl _ _ (unhide HRH) ?_)
  go_ret
  exact ⟨_, _, rfl, unhide HO, unhide HB⟩
set_option maxHeartbeats 3200000 in
/-- Concat of a row of one and another that is not empty. -/
theorem concat_two (p g b off cap : Nat) (l : List Int) (w : World) (h0 : 0 < l.length) (hlen : l.length ≤ 6000)
    (hp0 : w.cell? ⟨p, 0, none⟩ = some (.slice (some ⟨g, 0, none⟩) 1 1)) (hp1 : w.cell? ⟨p, 1, none⟩ = some (.slice (some ⟨b, off, none⟩) l.length cap)) (hg : w.cell? ⟨g, 0, none⟩ = some (.int .i32 32))
    (hcell : ∀ i, i < l.length → w.cell? ⟨b, off + i, none⟩ = some (.int .i32 (l.getD i 0))) :
    Calls Try.prog 38 #[.slice (some ⟨p, 0, none⟩) 2 2] w fun e w' => ∃ v', e = .returned v' ∧ Rn w.heap.size v' (32 :: l) w' ∧ Below w.heap.size w w' := by
  obtain ⟨i0, hi, hz0, hz1, hz2⟩ := info_parts elem_info
  have HG := hide (grow_any (1 + l.length) w (by omega) (by omega))
  have HN1 : Hid (∀ W, Below w.heap.size w W → ∀ j u, ([Value.int .i32 32])[j]? = some u → W.cell? ((⟨g, 0, none⟩ : Addr).add j) = some u) := fun W hW j u hu => by
    have hj : j = 0 := by
      have := (List.getElem?_eq_some_iff.1 hu).1
      simpa using this
    subst hj
    simp at hu
    subst hu
    rw [add_zero3]
    exact (hW.cell (by exact cell_lt hg)).trans hg
  have HN2 : Hid (∀ W, Below w.heap.size w W → ∀ j u, (l.map (Value.int .i32))[j]? = some u → W.cell? ((⟨b, off, none⟩ : Addr).add j) = some u) := fun W hW => news_of11 fun j hj => (hW.cell (by exact cell_lt (hcell j hj))).trans (hcell j hj)
  have HLM : Hid ((l.map (Value.int .i32)).length = l.length * 1) := by show _ = _; rw [List.length_map]; omega
  have HON := hide (ints_one l)
  have HRN : Hid (∀ (v' : Value) (w' : World), w'.ownsRow w.heap.size 21 1 v' (0 + 1 + l.length) ([] ++ [.int .i32 32] ++ l.map (Value.int .i32)) → Rn w.heap.size v' (32 :: l) w') := fun v' w' h => by
    unfold Rn
    simpa [Nat.add_comm] using h
  have HP0 := hide hp0
  have HP1 := hide hp1
  clear hcell hg
  generalize l.map (Value.int .i32) = news at *
  generalize l.length = n at *
  have hm1 : 0 + 1 ≤ maxLen := by unfold maxLen; omega
  have hm3 : 0 + 1 + n ≤ maxLen := by unfold maxLen; omega
  have hm4 : (0 + 1 + n) * 4 ≤ 140737488355328 := by omega
  have hz : ¬ (1 : Int) + (n : Int) < 0 := by omega
  have e1 : ((1 + n : Nat) : Int) = 1 + (n : Int) := by omega
  rw [e1] at HG
  go_enter Try.func38, Try.ntmps38
  go_wp2
  refine wp_loop_rounds 3 ?_
  rw [rounds_succ]
  go_wp2
  rw [rounds_succ]
  go_wp2
  rw [rounds_succ]
  go_wp2_with (go_at_call 46; refine (unhide HG).mono ?_; rintro e w1 ⟨a1, c1, rfl, o1, b1⟩; have k0 := (b1.cell (by exact cell_lt hp0)).trans hp0; have k1 := (b1.cell (by exact cell_lt hp1)).trans hp1; have hs1 := b1.size; have O1 := hide o1; clear o1)
  refine wp_loop_rounds 3 ?_
  rw [rounds_succ]
  go_wp2_with (at_builtin; refine wpList_append_lies _ rfl _ _ 22 rfl w.heap.size 21 i0 _ 1 4 Try.underlying22 hi hz0 hz1 hz2 rfl (by omega) _ 0 _ rfl (Rn.own rfl (unhide O1)) ⟨g, 0, none⟩ 1 1 [.int .i32 32] rfl rfl (unhide HN1 _ b1) (by simp [Value.oneCell']) (by omega) hm1 (by omega) hs1 _ rfl ?_; intro g8 cap8 w8 hown8 hgrow8 hat8 hlt8; have hb8 := b1.trans (below_own hgrow8 hs1 (own_block (Rn.own rfl (unhide O1)))); have hs8 := hb8.size; have k18 := (hb8.cell (by exact cell_lt (unhide HP1))).trans (unhide HP1); have HO8 := hide hown8; clear hown8 hgrow8 hat8 hlt8)
  rw [rounds_succ]
  go_wp2_with (at_builtin; refine wpList_append_lies _ rfl _ _ 22 rfl w.heap.size 21 i0 _ 1 4 Try.underlying22 hi hz0 hz1 hz2 rfl (by omega) _ (0 + 1) _ rfl (unhide HO8) ⟨b, off, none⟩ n cap news rfl (unhide HLM) (unhide HN2 _ hb8) (unhide HON) h0 hm3 hm4 hs8 _ rfl ?_; intro g9 cap9 w9 hown9 hgrow9 hat9 hlt9)
  rw [rounds_succ]
  go_wp2
  go_ret
  exact ⟨_, rfl, unhide HRN _ _ hown9, hb8.trans (below_own hgrow9 hs8 (own_block (unhide HO8)))⟩
end Go.Proofs.Ytdlbdfndnjdeeaa
