/- slices.Grow of nothing, slices.Concat of two rows of texts. -/
import Derived.Test.YtjjildpdelkejaaM16
import Derived.Lib.AppendZeros
namespace Go.Proofs.Ytjjildpdelkejaa
open Go.RowKit

theorem zerosT_size (n : Nat) : (Builtin.zeroCells (Value.cells (.string ⟨#[]⟩)) n).size = n := by
  simp [Builtin.zeroCells, Value.cells]
theorem growT_own (w : World) (n : Nat) (hn : n ≤ maxLen) : (w.drew.alloc (.cells (Builtin.zeroCells (Value.cells (.string ⟨#[]⟩)) n ++ Builtin.zeroCells (Value.cells (.string ⟨#[]⟩)) (grownCap w n 0 9 - n)) 9)).ownsRow w.heap.size 9 1 (.slice (some ⟨w.heap.size, 0, none⟩) 0 (grownCap w n 0 9)) 0 [] := by
  have h1 := grownCap_ge w n 0 9
  refine ⟨rfl, .inr ⟨w.heap.size, _, _, rfl, Nat.le_refl _, heap_new w.drew _, Nat.zero_le _, grownCap_le_maxLen w n 0 9 hn, ?_, rfl⟩⟩
  rw [Array.size_append, zerosT_size, zerosT_size]
  omega
set_option maxHeartbeats 800000 in
/-- Grow of nothing: room for n. -/
theorem growT_any (n : Nat) (w : World) (hn : n ≤ 1000000) :
    Calls Try.prog 63 #[.slice none 0 0, .int .i64 (n : Int)] w fun e w' => ∃ a c, e = .returned (.slice a 0 c) ∧ Tx w.heap.size (.slice a 0 c) [] w' ∧ Below w.heap.size w w' := by
  rcases Nat.eq_zero_or_pos n with h0 | h0
  · subst h0
    go_enter Try.func63, Try.ntmps63
    go_wp2
    go_ret
    exact ⟨_, _, rfl, Tx.nil _ _, Below.refl _ _⟩
  obtain ⟨i0, hi, hz0, hz1, hz2⟩ := info_parts str_info
  have HR := Lib.run_append_nil_zeros (P := Try.prog) w 32 3 32 9 i0 (.string ⟨#[]⟩) .i64 .i64 Try.underlying32 Try.underlying3 hi hz0 n h0 (by rw [hz1]; omega) (by omega) (by rw [hz2]; omega)
  have HO := hide (growT_own w n (by unfold maxLen; omega))
  have HB : Hid (Below w.heap.size w (w.drew.alloc (.cells (Builtin.zeroCells (Value.cells (.string ⟨#[]⟩)) n ++ Builtin.zeroCells (Value.cells (.string ⟨#[]⟩)) (grownCap w n 0 9 - n)) 9))) := (((Gr.refl w).drew).alloc _).below
  generalize (w.drew.alloc (.cells (Builtin.zeroCells (Value.cells (.string ⟨#[]⟩)) n ++ Builtin.zeroCells (Value.cells (.string ⟨#[]⟩)) (grownCap w n 0 9 - n)) 9)) = w1 at *
  generalize grownCap w n 0 9 = c1 at *
  have HRH := hide HR
  clear HR
  have hz : (0 : Int) < (n : Int) := by omega
  have hz' : ¬ (n : Int) < 0 := by omega
  go_enter Try.func63, Try.ntmps63
  go_wp2_with (at_builtin; refine Lib.wpList_append_run _ rfl _ _ _ _ rfl _ _ rfl rfl _ _ (unhide HRH) ?_)
  go_ret
  exact ⟨_, _, rfl, unhide HO, unhide HB⟩
set_option maxHeartbeats 3200000 in
set_option maxRecDepth 100000 in
theorem concatT_any (p : Nat) (va vb : Value) (A L : List ByteArray) (w : World) (hA : TsV w va A) (hB : TsV w vb L) (hla : A.length ≤ 100000) (hlb : L.length ≤ 100000)
    (hp0 : w.cell? ⟨p, 0, none⟩ = some va) (hp1 : w.cell? ⟨p, 1, none⟩ = some vb) :
    Calls Try.prog 41 #[.slice (some ⟨p, 0, none⟩) 2 2] w fun e w' => ∃ v', e = .returned v' ∧ TsV w' v' (A ++ L) ∧ Below w.heap.size w w' := by
  obtain ⟨i0, hi, hz0, hz1, hz2⟩ := info_parts str_info
  have HG := hide (growT_any (A.length + L.length) w (by omega))
  have HA := hide (fun W (h : Below w.heap.size w W) => hA.below h)
  have HL := hide (fun W (h : Below w.heap.size w W) => hB.below h)
  have HRN : Hid (∀ (v' : Value) (w' : World), w'.ownsRow w.heap.size 9 1 v' (0 + A.length + L.length) ([] ++ A.map Value.string ++ L.map Value.string) → TsV w' v' (A ++ L)) := fun v' w' h => by
    refine Tx.ts (B := w.heap.size) ?_ (by rw [List.length_append]; omega)
    unfold Tx
    simpa using h
  obtain ⟨aa, ca, rfl, _⟩ := hA
  obtain ⟨ab, cb, rfl, _⟩ := hB
  have HP0 := hide hp0
  have HP1 := hide hp1
  have hm1 : 0 + A.length ≤ maxLen := by unfold maxLen; omega
  have hm2 : (0 + A.length) * 16 ≤ 140737488355328 := by omega
  have hm3 : 0 + A.length + L.length ≤ maxLen := by unfold maxLen; omega
  have hm4 : (0 + A.length + L.length) * 16 ≤ 140737488355328 := by omega
  have hza : ¬ (A.length : Int) < 0 := by omega
  have hz : ¬ (A.length : Int) + (L.length : Int) < 0 := by omega
  have e1 : ((A.length + L.length : Nat) : Int) = (A.length : Int) + (L.length : Int) := by omega
  rw [e1] at HG
  clear e1
  go_enter Try.func41, Try.ntmps41
  go_wp2
  refine wp_loop_rounds 3 ?_
  rw [rounds_succ]
  go_wp2
  rw [rounds_succ]
  go_wp2
  rw [rounds_succ]
  go_wp2_with (go_at_call 63; refine (unhide HG).mono ?_; rintro e w1 ⟨a1, c1, rfl, o1, b1⟩; have k0 := (b1.cell (by exact cell_lt hp0)).trans hp0; have k1 := (b1.cell (by exact cell_lt hp1)).trans hp1; have hs1 := b1.size; have O1 := hide o1; clear o1)
  refine wp_loop_rounds 3 ?_
  rw [rounds_succ]
  go_wp2_with (at_builtin; refine wpList_append_tx _ rfl _ _ 32 rfl w.heap.size 9 i0 _ 16 Try.underlying32 hi hz0 hz1 hz2 rfl _ 0 _ rfl (Tx.own rfl (unhide O1)) _ A rfl (unhide HA _ b1) hm1 hm2 hs1 ?_; intro v8 w8 hown8 hgrow8 hat8; have hb8 := b1.trans (below_own hgrow8 hs1 (own_block (Tx.own rfl (unhide O1)))); have hs8 := hb8.size; have k18 := (hb8.cell (by exact cell_lt (unhide HP1))).trans (unhide HP1); have HO8 := hide hown8; clear hown8 hgrow8 hat8)
  rw [rounds_succ]
  go_wp2_with (at_builtin; refine wpList_append_tx _ rfl _ _ 32 rfl w.heap.size 9 i0 _ 16 Try.underlying32 hi hz0 hz1 hz2 rfl _ (0 + A.length) _ rfl (unhide HO8) _ L rfl (unhide HL _ hb8) hm3 hm4 hs8 ?_; intro v9 w9 hown9 hgrow9 hat9)
  rw [rounds_succ]
  go_wp2
  go_ret
  exact ⟨_, rfl, unhide HRN _ _ hown9, hb8.trans (below_own hgrow9 hs8 (own_block (unhide HO8)))⟩
end Go.Proofs.Ytjjildpdelkejaa
