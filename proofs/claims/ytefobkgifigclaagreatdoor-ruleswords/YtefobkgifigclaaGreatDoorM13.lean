/- slices.Grow and slices.Concat, as the landed firm calls them. -/
import Derived.Test.YtefobkgifigclaaGreatDoorM12
import Derived.Lib.AppendZeros
namespace Go.Proofs.YtefobkgifigclaaGreatDoor
set_option maxRecDepth 100000
open Go.RowKit

theorem zeros_size (n : Nat) : (Builtin.zeroCells (Value.cells (.int .i32 0)) n).size = n := by
  simp [Builtin.zeroCells, Value.cells]
theorem grow_own (w : World) (n : Nat) (hn : n ≤ maxLen) : (w.drew.alloc (.cells (Builtin.zeroCells (Value.cells (.int .i32 0)) n ++ Builtin.zeroCells (Value.cells (.int .i32 0)) (grownCap w n 0 21 - n)) 21)).ownsRow w.heap.size 21 1 (.slice (some ⟨w.heap.size, 0, none⟩) 0 (grownCap w n 0 21)) 0 [] := by
  have h1 := grownCap_ge w n 0 21
  refine ⟨rfl, .inr ⟨w.heap.size, _, _, rfl, Nat.le_refl _, heap_new w.drew _, Nat.zero_le _, grownCap_le_maxLen w n 0 21 hn, ?_, rfl⟩⟩
  rw [Array.size_append, zeros_size, zeros_size]
  omega
set_option maxHeartbeats 800000 in
/-- Grow of nothing: room for n. -/
theorem grow_any (n : Nat) (w : World) (h0 : 0 < n) (hn : n ≤ 10000) :
    Calls Tryz.prog 243 #[.slice none 0 0, .int .i64 (n : Int)] w fun e w' => ∃ a c, e = .returned (.slice a 0 c) ∧ Rn w.heap.size (.slice a 0 c) [] w' ∧ Below w.heap.size w w' := by
  obtain ⟨i0, hi, hz0, hz1, hz2⟩ := info_parts elem_info
  have HR := Lib.run_append_nil_zeros (P := Tryz.prog) w 131 3 131 21 i0 (.int .i32 0) .i64 .i64 Tryz.underlying131 Tryz.underlying3 hi hz0 n h0 (by rw [hz1]; omega) (by omega) (by rw [hz2]; omega)
  have HO := hide (grow_own w n (by unfold maxLen; omega))
  have HB : Hid (Below w.heap.size w (w.drew.alloc (.cells (Builtin.zeroCells (Value.cells (.int .i32 0)) n ++ Builtin.zeroCells (Value.cells (.int .i32 0)) (grownCap w n 0 21 - n)) 21))) := (((Gr.refl w).drew).alloc _).below
  generalize (w.drew.alloc (.cells (Builtin.zeroCells (Value.cells (.int .i32 0)) n ++ Builtin.zeroCells (Value.cells (.int .i32 0)) (grownCap w n 0 21 - n)) 21)) = w1 at *
  generalize grownCap w n 0 21 = c1 at *
  have HRH := hide HR
  clear HR
  have hz : (0 : Int) < (n : Int) := by omega
  have hz' : ¬ (n : Int) < 0 := by omega
  go_enter Tryz.func243, Tryz.ntmps243
  go_wp2_with (at_builtin; refine Lib.wpList_append_run _ rfl _ _ _ _ rfl _ _ rfl rfl _ _ (unhide HRH) ?_)
  go_ret
  exact ⟨_, _, rfl, unhide HO, unhide HB⟩
set_option maxHeartbeats 3200000 in
/-- Concat of a row of one and another that is not empty. -/
theorem concat_two (p g b off cap : Nat) (l : List Int) (w : World) (h0 : 0 < l.length) (hlen : l.length ≤ 6000)
    (hp0 : w.cell? ⟨p, 0, none⟩ = some (.slice (some ⟨g, 0, none⟩) 1 1)) (hp1 : w.cell? ⟨p, 1, none⟩ = some (.slice (some ⟨b, off, none⟩) l.length cap)) (hg : w.cell? ⟨g, 0, none⟩ = some (.int .i32 32))
    (hcell : ∀ i, i < l.length → w.cell? ⟨b, off + i, none⟩ = some (.int .i32 (l.getD i 0))) :
    Calls Tryz.prog 231 #[.slice (some ⟨p, 0, none⟩) 2 2] w fun e w' => ∃ v', e = .returned v' ∧ Rn w.heap.size v' (32 :: l) w' ∧ Below w.heap.size w w' := by
  obtain ⟨i0, hi, hz0, hz1, hz2⟩ := info_parts elem_info
  have HG := hide (grow_any (1 + l.length) w (by omega) (by omega))
  have HN1 : Hid (∀ W, Below w.heap.size w W → ∀ j u, ([Value.int .i32 32])[j]? = some u → W.cell? ((⟨g, 0, none⟩ : Addr).add j) = some u) := fun W hW j u hu => by
    have hj : j = 0 := by
      have := (List.getElem?_eq_some_iff.1 hu).1
      simpa using this
    subst hj
    simp at hu
    subst hu
    rw [add_zero3]
    exact (hW.cell (by exact cell_lt hg)).trans hg
  have HN2 : Hid (∀ W, Below w.heap.size w W → ∀ j u, (l.map (Value.int .i32))[j]? = some u → W.cell? ((⟨b, off, none⟩ : Addr).add j) = some u) := fun W hW => news_of11 fun j hj => (hW.cell (by exact cell_lt (hcell j hj))).trans (hcell j hj)
  have HLM : Hid ((l.map (Value.int .i32)).length = l.length * 1) := by show _ = _; rw [List.length_map]; omega
  have HON := hide (ints_one l)
  have HRN : Hid (∀ (v' : Value) (w' : World), w'.ownsRow w.heap.size 21 1 v' (0 + 1 + l.length) ([] ++ [.int .i32 32] ++ l.map (Value.int .i32)) → Rn w.heap.size v' (32 :: l) w') := fun v' w' h => by
    unfold Rn
    simpa [Nat.add_comm] using h
  have HP0 := hide hp0
  have HP1 := hide hp1
  clear hcell hg
  generalize l.map (Value.int .i32) = news at *
  generalize l.length = n at *
  have hm1 : 0 + 1 ≤ maxLen := by unfold maxLen; omega
  have hm3 : 0 + 1 + n ≤ maxLen := by unfold maxLen; omega
  have hm4 : (0 + 1 + n) * 4 ≤ 140737488355328 := by omega
  have hz : ¬ (1 : Int) + (n : Int) < 0 := by omega
  have e1 : ((1 + n : Nat) : Int) = 1 + (n : Int) := by omega
  rw [e1] at HG
  go_enter Tryz.func231, Tryz.ntmps231
  go_wp2
  refine wp_loop_rounds 3 ?_
  rw [rounds_succ]
  go_wp2
  rw [rounds_succ]
  go_wp2
  rw [rounds_succ]
  go_wp2_with (go_at_call 243; refine (unhide HG).mono ?_; rintro e w1 ⟨a1, c1, rfl, o1, b1⟩; have k0 := (b1.cell (by exact cell_lt hp0)).trans hp0; have k1 := (b1.cell (by exact cell_lt hp1)).trans hp1; have hs1 := b1.size; have O1 := hide o1; clear o1)
  refine wp_loop_rounds 3 ?_
  rw [rounds_succ]
  go_wp2_with (at_builtin; refine wpList_append_lies _ rfl _ _ 131 rfl w.heap.size 21 i0 _ 1 4 Tryz.underlying131 hi hz0 hz1 hz2 rfl (by omega) _ 0 _ rfl (Rn.own rfl (unhide O1)) ⟨g, 0, none⟩ 1 1 [.int .i32 32] rfl rfl (unhide HN1 _ b1) (by simp [Value.oneCell']) (by omega) hm1 (by omega) hs1 _ rfl ?_; intro g8 cap8 w8 hown8 hgrow8 hat8 hlt8; have hb8 := b1.trans (below_own hgrow8 hs1 (own_block (Rn.own rfl (unhide O1)))); have hs8 := hb8.size; have k18 := (hb8.cell (by exact cell_lt (unhide HP1))).trans (unhide HP1); have HO8 := hide hown8; clear hown8 hgrow8 hat8 hlt8)
  rw [rounds_succ]
  go_wp2_with (at_builtin; refine wpList_append_lies _ rfl _ _ 131 rfl w.heap.size 21 i0 _ 1 4 Tryz.underlying131 hi hz0 hz1 hz2 rfl (by omega) _ (0 + 1) _ rfl (unhide HO8) ⟨b, off, none⟩ n cap news rfl (unhide HLM) (unhide HN2 _ hb8) (unhide HON) h0 hm3 hm4 hs8 _ rfl ?_; intro g9 cap9 w9 hown9 hgrow9 hat9 hlt9)
  rw [rounds_succ]
  go_wp2
  go_ret
  exact ⟨_, rfl, unhide HRN _ _ hown9, hb8.trans (below_own hgrow9 hs8 (own_block (unhide HO8)))⟩
end Go.Proofs.YtefobkgifigclaaGreatDoor
/- The landed without: what is left out, given what the function that is handed in answers. -/
namespace Go.Proofs.YtefobkgifigclaaGreatDoor
set_option maxRecDepth 100000
open Go.RowKit

/-- All that p is not said of. -/
def flt (p : Int → List Int → Bool) : List Int → List Int
  | [] => []
  | x :: t => if p x t then flt p t else x :: flt p t
theorem flt_num (M : Int → Bool) : ∀ l, flt (sp M) l = numL M l
  | [] => rfl
  | x :: t => by simp only [flt, numL, flt_num M t]
theorem flt_ph (M : Int → Bool) : ∀ l, flt (fun x t => sp M x t || hp M x t) l = phL M l
  | [] => rfl
  | x :: t => by simp only [flt, phL, flt_ph M t]
theorem flt_len (p : Int → List Int → Bool) : ∀ l, (flt p l).length ≤ l.length
  | [] => Nat.le_refl _
  | x :: t => by
    have := flt_len p t
    simp only [flt]
    split <;> simp only [List.length_cons] <;> omega
set_option maxHeartbeats 3200000 in
theorem without_any (g : Nat) (p : Int → List Int → Bool) (a : Option Addr) (cap : Nat) (l : List Int) (w : World) (eg : ∀ args w, (callFunc g args).run Tryz.prog w = .ok (.enter g args) w) (hlen : l.length ≤ 20000) (hR : Row w (.slice a l.length cap) l)
    (hf : ∀ (m : Nat) (W : World), m < l.length → Below w.heap.size w W → Calls Tryz.prog g (#[.slice a l.length cap, .int .i64 (m : Int)] ++ #[]) W fun e w' => e = .returned (.bool (p (l.getD m 0) (l.drop (m + 1)))) ∧ Below W.heap.size W w') :
    Calls Tryz.prog 199 #[.slice a l.length cap, .func (.func g) #[] #[]] w fun e w' => ∃ v', e = .returned v' ∧ Rn w.heap.size v' (flt p l) w' ∧ Below w.heap.size w w' := by
  obtain ⟨i0, hi, hz0, hz1, hz2⟩ := info_parts elem_info
  have HF := hide hf
  have hml : l.length ≤ maxLen := by unfold maxLen; omega
  have HFL := hide (flt_len p l)
  clear hf
  obtain ⟨a', cap', hv, hc⟩ := hR
  cases hv
  by_cases h0 : 0 < l.length
  · obtain ⟨b, off, rfl, hcc⟩ := hc h0
    have HC := hide hcc
    clear hc hcc
    go_enter Tryz.func199, Tryz.ntmps199
    go_wp2_with (refine wpList_make_own _ rfl _ _ 131 rfl w.heap.size 21 i0 (.int .i32 0) 1 Tryz.underlying131 hi hz0 hz1 .i64 .i64 _ l.length rfl rfl rfl (by rw [hz2]; omega) hml (Nat.le_refl _) ?_; intro w1 hown1 hgrow1)
    have HB : Below w.heap.size w w1 := (Below.refl _ _).grown hgrow1 (Nat.le_refl _) (by intro k h; cases h)
    have HO := hide hown1
    clear hown1 hgrow1
    go_loopw [5, 13] (fun v i wr => ∃ (k : Nat) (out : List Int), k ≤ l.length ∧ i = .int .i64 (k : Int) ∧ Hid (Rn w.heap.size v out wr) ∧ Hid (out ++ flt p (l.drop k) = flt p l) ∧ Below w.heap.size w wr) (fun _ i _ => l.length - (intOf i).toNat)
    case atStart => exact ⟨0, [], Nat.zero_le _, rfl, HO, by show _ = _; rfl, HB⟩
    case round =>
      clear HO HB
      obtain ⟨k, out, hk, rfl, RK, EK, hb⟩ := hrel
      have hsz := hb.size
      by_cases hlt : k < l.length
      · have hzl : (k : Int) < (l.length : Int) := by omega
        have hz0' : (0 : Int) ≤ (k : Int) := by omega
        have k1 : wr.cell? ⟨b, off + k, none⟩ = some (.int .i32 (l.getD k 0)) := (hb.cell (by exact cell_lt (unhide HC k hlt))).trans (unhide HC k hlt)
        have HX := unhide HF k wr hlt hb
        have HD := hide (drop_at' l k hlt)
        have hol : out.length ≤ l.length := by
          have := congrArg List.length (unhide EK)
          rw [List.length_append] at this
          have := unhide HFL
          omega
        rw [unhide HD] at EK
        generalize l.getD k 0 = x at *
        cases hs : p x (l.drop (k + 1)) <;> rw [hs] at HX
        · have EK2 : Hid ((out ++ [x]) ++ flt p (l.drop (k + 1)) = flt p l) := by show _ = _; rw [← unhide EK]; simp [flt, hs]
          obtain ⟨a4, c4, hv4⟩ := (unhide RK).shape
          obtain ⟨N, hN⟩ : ∃ N, N = out.length := ⟨_, rfl⟩
          rw [← hN] at hv4 hol
          subst hv4
          have HN := hide hN
          clear hN hs EK
          have hm1 : N + 1 ≤ maxLen := by unfold maxLen; omega
          have hm2 : (N + 1) * 4 ≤ 140737488355328 := by omega
          go_wp2_with (first
            | (at_builtin; refine wpList_append_lies _ rfl _ _ 131 rfl w.heap.size 21 i0 _ 1 4 Tryz.underlying131 hi hz0 hz1 hz2 rfl (by omega) _ N _ rfl (World.ownsRow.alloc (Rn.own (unhide HN) (unhide HO2)) _) ⟨w2.heap.size, 0, none⟩ 1 1 [.int .i32 x] rfl rfl (World.news_of_block (cs := #[.int .i32 x]) (t := 21) (fr := (0, 0)) (heap_new w2 _)) (by simp [Value.oneCell']) (by omega) hm1 hm2 (by simp; omega) (w2.heap.size + 1) (by simp) ?_; intro g9 cap9 w9 hown9 hgrow9 hat9 hlt9)
            | (refine HX.mono ?_; rintro e w2 ⟨rfl, b2⟩; have hb12 := hb.trans (b2.mono hb.size); have hs2 := hb12.size; have HO2 := hide ((unhide RK).below b2)))
          go_roundw
          case rel => exact ⟨k + 1, out ++ [x], by omega, by go_num, Rn.push (unhide HN) hown9, EK2, (hb12.alloc (by omega) _).trans (below_own hgrow9 (by simp; omega) (own_block (Rn.own (unhide HN) (unhide HO2))))⟩
          case measure => simp [intOf]; omega
        · have EK2 : Hid (out ++ flt p (l.drop (k + 1)) = flt p l) := by show _ = _; rw [← unhide EK]; simp [flt, hs]
          clear hs EK
          go_wp2_with (refine HX.mono ?_; rintro e w2 ⟨rfl, b2⟩)
          go_roundw
          case rel => exact ⟨k + 1, out, by omega, by go_num, (unhide RK).below b2, EK2, hb.trans (b2.mono hb.size)⟩
          case measure => simp [intOf]; omega
      · have hzl : ¬ (k : Int) < (l.length : Int) := by omega
        obtain rfl : k = l.length := by omega
        rw [List.drop_length] at EK
        have HE : Hid (out = flt p l) := by show _ = _; rw [← unhide EK]; simp [flt]
        rw [unhide HE] at RK
        obtain ⟨a4, c4, hv4⟩ := (unhide RK).shape
        generalize (flt p l).length = N at *
        subst hv4
        go_wp2
        go_ret
        exact ⟨_, rfl, unhide RK, hb⟩
  · obtain rfl : l = [] := List.length_eq_zero_iff.1 (by omega)
    go_enter Tryz.func199, Tryz.ntmps199
    go_wp2_with (refine wpList_make_own _ rfl _ _ 131 rfl w.heap.size 21 i0 (.int .i32 0) 1 Tryz.underlying131 hi hz0 hz1 .i64 .i64 _ 0 rfl rfl rfl (by rw [hz2]; omega) (Nat.zero_le _) (Nat.le_refl _) ?_; intro w1 hown1 hgrow1)
    refine wp_loop_rounds 1 ?_
    rw [rounds_succ]
    have HB : Below w.heap.size w w1 := (Below.refl _ _).grown hgrow1 (Nat.le_refl _) (by intro k h; cases h)
    have HO := hide hown1
    clear hown1 hgrow1
    go_wp2
    go_ret
    exact ⟨_, rfl, unhide HO, HB⟩
end Go.Proofs.YtefobkgifigclaaGreatDoor
