/- The document's rows: lower, upper, planes, Rows. -/
import Derived.Test.YtdlbdfndnjdeeaaKind2
import Derived.Test.YtdlbdfndnjdeeaaOwn
import Derived.Deep.AppendLies
namespace Go.Proofs.Ytdlbdfndnjdeeaa
open Go.RowKit
open Go.Sort (grow)

theorem grown_trans {a b c : World} {row : Option Nat} (h : a.grownBy b row) (k : b.grownBy c row) : a.grownBy c row :=
  ⟨k.os.trans h.os, k.tape.trans h.tape, k.output.trans h.output, Nat.le_trans h.size k.size, fun i hi hne => (k.block i (Nat.lt_of_lt_of_le hi h.size) hne).trans (h.block i hi hne)⟩
theorem own_gr3 {B e size n : Nat} {v : Value} {xs : List Value} {w w2 : World} (h : w.ownsRow B e size v n xs) (hg : Gr w w2) : w2.ownsRow B e size v n xs :=
  h.kept (row := none) ⟨hg.below.os, hg.below.tape, hg.below.output, hg.size, fun k hk _ => hg.below.block k hk⟩ (by cases hv : v.ownBlock <;> simp)
theorem span_info : (Try.prog.info? 54).map (fun i => (i.zero, i.size, i.bytes)) = some (some (.agg #[.int .i32 0, .int .i32 0, .int .i64 0]), 3, 16) := by kernel_rfl

/-- A row of spans of the call's own. -/
def Ow (B : Nat) (v : Value) (l : List Sp) (w : World) : Prop := w.ownsRow B 54 3 v l.length (spcs l)

theorem Ow.shape {B : Nat} {v : Value} {l : List Sp} {w : World} (h : Ow B v l w) (hl : 0 < l.length) : ∃ g cap, v = .slice (some ⟨g, 0, none⟩) l.length cap := by
  rcases h.2 with ⟨_, h0⟩ | ⟨g, cap, _, hv, _⟩
  · omega
  · exact ⟨g, cap, hv⟩
theorem Ow.cells {B : Nat} {l : List Sp} {w : World} {g n cap : Nat} (h : Ow B (.slice (some ⟨g, 0, none⟩) n cap) l w) {k : Nat} (hk : k < l.length) :
    w.cell? ⟨g, k * 3, none⟩ = some (.int .i32 (l.getD k sp0).f) ∧ w.cell? ⟨g, k * 3 + 1, none⟩ = some (.int .i32 (l.getD k sp0).t) ∧ w.cell? ⟨g, k * 3 + 2, none⟩ = some (.int .i64 (l.getD k sp0).h) := by
  obtain ⟨h1, h2, h3⟩ := spcs_get l k hk
  refine ⟨?_, ?_, ?_⟩
  · have := World.ownsRow.cells h (g := g) rfl _ _ h1; rwa [add_zero3] at this
  · have := World.ownsRow.cells h (g := g) rfl _ _ h2; rwa [add_zero3] at this
  · have := World.ownsRow.cells h (g := g) rfl _ _ h3; rwa [add_zero3] at this
theorem Ow.tab {B : Nat} {v : Value} {l : List Sp} {w : World} (h : Ow B v l w) : Tab w v l := by
  rcases h.2 with ⟨hv, h0⟩ | ⟨g, cap, cur, hv, _⟩
  · obtain rfl : l = [] := List.length_eq_zero_iff.1 h0
    rw [hv]; exact Tab.nil _ _ _
  · subst hv
    refine ⟨_, cap, rfl, fun _ => ⟨g, 0, rfl, fun j hj => ?_⟩⟩
    have := Ow.cells h hj
    simpa using this




def cellsL : Array Value := (spcs rowsL).toArray
def cellsU : Array Value := (spcs rowsU).toArray
def frameL : Act := { tmps := (.slice none 0 0 :: ((rowsL.map fun s => Value.agg (spc s).toArray) ++ [undef])).toArray, defers := [] }
def frameU : Act := { tmps := (.slice none 0 0 :: ((rowsU.map fun s => Value.agg (spc s).toArray) ++ [undef])).toArray, defers := [] }
def frameL' (x v : Value) : Act := { tmps := (x :: ((rowsL.map fun s => Value.agg (spc s).toArray) ++ [v])).toArray, defers := [] }
def frameU' (x v : Value) : Act := { tmps := (x :: ((rowsU.map fun s => Value.agg (spc s).toArray) ++ [v])).toArray, defers := [] }

section

set_option maxRecDepth 1000000 in
set_option maxHeartbeats 4000000 in
theorem lower_any (w : World) : Calls Try.prog 50 #[] w fun e w' => e = .returned (.slice (some ⟨w.heap.size, 0, none⟩) 45 45) ∧ w' = w.alloc (.cells cellsL 54) := by
  go_enter Try.func50, Try.ntmps50
  apply wp_seq_k; intro K0 hK0
  apply wp_region_lit
  refine Great.wpList_readTo rfl (some 0) rfl (.slice none 0 0) (by kernel_rfl) ?_
  apply wpList_nil
  refine hK0 _ _ ?_
  clear hK0 K0
  apply wp_seq_k; intro K0 hK0
  apply wp_region_lit
  refine wpList_buildsN 45 frameL _ (by kernel_rfl) rfl ?_
  simp only [List.drop_succ_cons, List.drop_zero]
  refine Great.wpList_buildSliceTo rfl 52 54 45 _ rfl w.heap.size rfl (some 46) rfl Try.underlying52 cellsL (by kernel_rfl) ?_
  refine wpList_frame (a' := frameL' (.slice none 0 0) (.slice (some ⟨w.heap.size, 0, none⟩) 45 45)) (by kernel_rfl) ?_
  refine Great.wpList_readTo rfl (some 0) rfl (.slice (some ⟨w.heap.size, 0, none⟩) 45 45) (by kernel_rfl) ?_
  refine wpList_frame (a' := frameL' (.slice (some ⟨w.heap.size, 0, none⟩) 45 45) (.slice (some ⟨w.heap.size, 0, none⟩) 45 45)) (by kernel_rfl) ?_
  apply wpList_nil
  refine hK0 _ _ ?_
  clear hK0 K0
  refine wp_ret ?_
  exact bodyPost_ret (results_tmp Try.results50 _ _ _) rfl ⟨rfl, rfl⟩

set_option maxRecDepth 1000000 in
set_option maxHeartbeats 4000000 in
theorem upper_any (w : World) : Calls Try.prog 51 #[] w fun e w' => e = .returned (.slice (some ⟨w.heap.size, 0, none⟩) 45 45) ∧ w' = w.alloc (.cells cellsU 54) := by
  go_enter Try.func51, Try.ntmps51
  apply wp_seq_k; intro K0 hK0
  apply wp_region_lit
  refine Great.wpList_readTo rfl (some 0) rfl (.slice none 0 0) (by kernel_rfl) ?_
  apply wpList_nil
  refine hK0 _ _ ?_
  clear hK0 K0
  apply wp_seq_k; intro K0 hK0
  apply wp_region_lit
  refine wpList_buildsN 45 frameU _ (by kernel_rfl) rfl ?_
  simp only [List.drop_succ_cons, List.drop_zero]
  refine Great.wpList_buildSliceTo rfl 52 54 45 _ rfl w.heap.size rfl (some 46) rfl Try.underlying52 cellsU (by kernel_rfl) ?_
  refine wpList_frame (a' := frameU' (.slice none 0 0) (.slice (some ⟨w.heap.size, 0, none⟩) 45 45)) (by kernel_rfl) ?_
  refine Great.wpList_readTo rfl (some 0) rfl (.slice (some ⟨w.heap.size, 0, none⟩) 45 45) (by kernel_rfl) ?_
  refine wpList_frame (a' := frameU' (.slice (some ⟨w.heap.size, 0, none⟩) 45 45) (.slice (some ⟨w.heap.size, 0, none⟩) 45 45)) (by kernel_rfl) ?_
  apply wpList_nil
  refine hK0 _ _ ?_
  clear hK0 K0
  refine wp_ret ?_
  exact bodyPost_ret (results_tmp Try.results51 _ _ _) rfl ⟨rfl, rfl⟩

end

theorem takeP (k : Nat) (h : k < 16) : rowsP.take (k + 1) = rowsP.take k ++ [lastS ((k : Int) + 1)] := by
  rw [List.take_add_one]
  have : rowsP[k]? = some (lastS ((k : Int) + 1)) := by simp [rowsP, h]
  rw [this]; rfl
theorem spcs_one (s : Sp) : spcs [s] = spc s := by simp [spcs]

set_option maxHeartbeats 1600000 in
theorem planes_any (w : World) : Calls Try.prog 52 #[] w fun e w' => ∃ g cap, e = .returned (.slice (some ⟨g, 0, none⟩) 16 cap) ∧ w'.ownsRow w.heap.size 54 3 (.slice (some ⟨g, 0, none⟩) 16 cap) 16 (spcs rowsP) ∧ Below w.heap.size w w' := by
  have mx := mixed
  obtain ⟨i0, hi, hz0', hz1, hz2⟩ := info_parts span_info
  go_enter Try.func52, Try.ntmps52
  go_wp2
  go_loopw [1, 2] (fun x y wr => ∃ k : Nat, k ≤ 16 ∧ y = .int .i64 ((k : Int) + 1) ∧ wr.ownsRow w.heap.size 54 3 x k (spcs (rowsP.take k)) ∧ Below w.heap.size w wr) (fun _ y _ => 17 - (intOf y).toNat)
  case atStart => exact ⟨0, Nat.zero_le _, rfl, ⟨rfl, .inl ⟨rfl, rfl⟩⟩, Below.refl _ _⟩
  case round =>
    obtain ⟨k, hk, rfl, hown, hb⟩ := hrel
    by_cases hlt : k < 16
    · have hzl : (k : Int) + 1 ≤ 16 := by omega
      have k2 : IntKind.i64.wrap (65536 * ((k : Int) + 1)) = 65536 * ((k : Int) + 1) := by rw [IntKind.wrap_i64]; omega
      have k3 : IntKind.i64.wrap (65536 * ((k : Int) + 1) + 65534) = 65536 * ((k : Int) + 1) + 65534 := by rw [IntKind.wrap_i64]; omega
      have k4 : IntKind.i32.wrap (65536 * ((k : Int) + 1) + 65534) = ((k : Int) + 1) * 65536 + 65534 := by simp [IntKind.wrap, IntKind.bits, IntKind.signed]; omega
      have k5 : IntKind.i32.wrap (((k : Int) + 1) * 65536 + 65534 + 1) = ((k : Int) + 1) * 65536 + 65535 := by simp [IntKind.wrap, IntKind.bits, IntKind.signed]; omega
      have hT := takeP k hlt
      have hS : spcs (rowsP.take (k + 1)) = spcs (rowsP.take k) ++ [.int .i32 (((k : Int) + 1) * 65536 + 65534), .int .i32 (((k : Int) + 1) * 65536 + 65535), .int .i64 7] := by
        rw [hT, spcs_append, spcs_one]; rfl
      have HS := hide hS
      clear hT hS
      generalize ((k : Int) + 1) * 65536 + 65534 = f at *
      generalize ((k : Int) + 1) * 65536 + 65535 = t at *
      have hm1 : k + 1 ≤ maxLen := by unfold maxLen; omega
      have hm2 : (k + 1) * 16 ≤ 140737488355328 := by omega
      have hsz := hb.size
      go_wp2_with (at_builtin; refine wpList_append_lies _ rfl _ _ 52 rfl w.heap.size 54 i0 _ 3 16 Try.underlying52 hi hz0' hz1 hz2 rfl (by omega) _ _ _ rfl (hown.alloc _) ⟨wr.heap.size, 0, none⟩ 1 1 [.int .i32 f, .int .i32 t, .int .i64 7] rfl rfl (World.news_of_block (cs := #[.int .i32 f, .int .i32 t, .int .i64 7]) (t := 54) (fr := (0, 0)) (heap_new wr _)) (by simp [Value.oneCell']) (by omega) hm1 hm2 (by simp; omega) (wr.heap.size + 1) (by simp) ?_; intro g9 cap9 w9 hown9 hgrow9 hat9 hlt9)
      go_roundw
      case rel =>
        refine ⟨k + 1, by omega, by go_num, by rw [unhide HS]; exact hown9, ?_⟩
        have hb2 : Below w.heap.size w (wr.alloc (.cells #[.int .i32 f, .int .i32 t, .int .i64 7] 54)) := hb.alloc (by omega) _
        exact hb2.trans (below_own hgrow9 (by simp; omega) (own_block hown))
      case measure => simp [intOf]; omega
    · have hzl : ¬ (k : Int) + 1 ≤ 16 := by omega
      obtain rfl : k = 16 := by omega
      obtain ⟨g, cap, hv⟩ : ∃ g cap, _ = Value.slice (some ⟨g, 0, none⟩) 16 cap := by
        rcases hown.2 with ⟨_, h0⟩ | ⟨g, cap, cur, hv, _⟩
        · omega
        · exact ⟨g, cap, hv⟩
      subst hv
      have HO := hide hown
      clear hown
      go_wp2
      go_ret
      exact ⟨g, cap, rfl, unhide HO, hb⟩

theorem own_new (w : World) (e : TypeId) (cs : Array Value) (n : Nat) (hs : cs.size = n * 3) (hn : n ≤ maxLen) : (w.alloc (.cells cs e)).ownsRow w.heap.size e 3 (.slice (some ⟨w.heap.size, 0, none⟩) n n) n cs.toList :=
  ⟨by simpa using hs, .inr ⟨w.heap.size, n, cs, rfl, Nat.le_refl _, heap_new w _, Nat.le_refl _, hn, hs, List.take_of_length_le (by simp [hs])⟩⟩
theorem spcs_oneCell (l : List Sp) : ∀ u ∈ spcs l, u.oneCell' = true := by
  intro u hu
  simp only [spcs, List.mem_flatMap] at hu
  obtain ⟨s, _, hs⟩ := hu
  simp only [spc, List.mem_cons, List.not_mem_nil, or_false] at hs
  rcases hs with rfl | rfl | rfl <;> rfl
theorem sizeL : cellsL.size = 45 * 3 := by kernel_rfl
theorem sizeU : cellsU.size = 45 * 3 := by kernel_rfl
theorem lenU : (spcs rowsU).length = 45 * 3 := by kernel_rfl
theorem lenP : (spcs rowsP).length = 16 * 3 := by kernel_rfl
theorem news_own {w : World} {B e size g n cap : Nat} {xs : List Value} (h : w.ownsRow B e size (.slice (some ⟨g, 0, none⟩) n cap) n xs) : ∀ j u, xs[j]? = some u → w.cell? ((⟨g, 0, none⟩ : Addr).add j) = some u :=
  fun j u hu => World.ownsRow.cells h (g := g) rfl j u hu


set_option maxHeartbeats 1600000 in
theorem rows_any (w : World) : Calls Try.prog 48 #[] w fun e w' => ∃ g cap, e = .returned (.slice (some ⟨g, 0, none⟩) 106 cap) ∧ w'.ownsRow w.heap.size 54 3 (.slice (some ⟨g, 0, none⟩) 106 cap) 106 (spcs rowsT) ∧ Below w.heap.size w w' := by
  have mx := mixed
  obtain ⟨i0, hi, hz0', hz1, hz2⟩ := info_parts span_info
  have hm0 : 45 ≤ maxLen := by unfold maxLen; omega
  have hm1 : 45 + 45 ≤ maxLen := by unfold maxLen; omega
  have hm2 : (45 + 45) * 16 ≤ 140737488355328 := by omega
  have hm3 : 45 + 45 + 16 ≤ maxLen := by unfold maxLen; omega
  have hm4 : (45 + 45 + 16) * 16 ≤ 140737488355328 := by omega
  have hL := hide lower_any
  have hU := hide upper_any
  have hP := hide planes_any
  have hcl : cellsL.toList = spcs rowsL := by unfold cellsL; rfl
  have hcu : cellsU.toList = spcs rowsU := by unfold cellsU; rfl
  have HCL := hide hcl
  have HCU := hide hcu
  clear hcl hcu
  go_enter Try.func48, Try.ntmps48
  go_wp2_with (first
    | (go_at_call 50; refine (unhide hL _).mono ?_; rintro e w1 ⟨rfl, hw1⟩; have HW1 := hide hw1; clear hw1)
    | (go_at_call 51; refine (unhide hU _).mono ?_; rintro e w2 ⟨rfl, hw2⟩
       have HO1 : Hid (w2.ownsRow w.heap.size 54 3 (.slice (some ⟨w.heap.size, 0, none⟩) 45 45) 45 (spcs rowsL)) := by
         show w2.ownsRow _ _ _ _ _ _
         rw [hw2, ← unhide HCL, unhide HW1]
         exact own_gr3 (own_new w 54 cellsL 45 sizeL hm0) (Gr.one _ _)
       have HO2 : Hid (w2.ownsRow w1.heap.size 54 3 (.slice (some ⟨w1.heap.size, 0, none⟩) 45 45) 45 (spcs rowsU)) := by
         show w2.ownsRow _ _ _ _ _ _
         rw [hw2, ← unhide HCU]
         exact own_new w1 54 cellsU 45 sizeU hm0
       have hg2 : Gr w w2 := by rw [hw2, unhide HW1]; exact ((Gr.refl _).alloc _).alloc _
       clear HW1 hw2)
    | (go_at_call 52; refine (unhide hP _).mono ?_; rintro e w4 ⟨g4, cap4, rfl, hown4, hb4⟩; have HO4 := hide hown4; have HO3' := hide (own_below (unhide HO3) hb4); clear hown4 HO3)
    | (at_builtin; refine wpList_append_lies _ rfl _ _ 52 rfl w.heap.size 54 i0 _ 3 16 Try.underlying52 hi hz0' hz1 hz2 rfl (by omega) _ _ _ rfl (unhide HO1) ⟨w1.heap.size, 0, none⟩ 45 45 (spcs rowsU) rfl lenU (news_own (unhide HO2)) (spcs_oneCell _) (by omega) hm1 hm2 hg2.size w2.heap.size rfl ?_; intro g3 cap3 w3 hown3 hgrow3 hat3 hlt3; have HO3 := hide hown3; clear hown3 HO1 HO2)
    | (at_builtin; refine wpList_append_lies _ rfl _ _ 52 rfl w.heap.size 54 i0 _ 3 16 Try.underlying52 hi hz0' hz1 hz2 rfl (by omega) _ _ _ rfl (unhide HO3') ⟨g4, 0, none⟩ 16 cap4 (spcs rowsP) rfl lenP (news_own (unhide HO4)) (spcs_oneCell _) (by omega) hm3 hm4 (Nat.le_trans hg2.size (Nat.le_trans hgrow3.size hb4.size)) w4.heap.size rfl ?_; intro g5 cap5 w5 hown5 hgrow5 hat5 hlt5))
  have hbk3 : w.heap.size ≤ g3 := own_block (unhide HO3') g3 rfl
  go_ret
  refine ⟨g5, cap5, rfl, ?_, ?_⟩
  · have e : spcs rowsT = spcs rowsL ++ spcs rowsU ++ spcs rowsP := by rw [rowsT, rowsA, spcs_append, spcs_append]
    rw [e]
    exact hown5
  · have b3 := hg2.below.trans (below_own hgrow3 hg2.size (fun g hg => Nat.le_of_eq (Option.some.inj hg)))
    have b4 := b3.trans (hb4.mono b3.size)
    exact b4.trans (below_own hgrow5 b4.size (fun g hg => Nat.le_trans hbk3 (Nat.le_of_eq (Option.some.inj hg))))

/-- Rows: a table, of the call's own. -/
theorem rows_tab (w : World) : Calls Try.prog 48 #[] w fun e w' => ∃ g cap, e = .returned (.slice (some ⟨g, 0, none⟩) 106 cap) ∧ Hid (∀ j, j < 106 → w'.cell? ⟨g, j * 3, none⟩ = some (.int .i32 (rowsT.getD j sp0).f) ∧ w'.cell? ⟨g, j * 3 + 1, none⟩ = some (.int .i32 (rowsT.getD j sp0).t) ∧ w'.cell? ⟨g, j * 3 + 2, none⟩ = some (.int .i64 (rowsT.getD j sp0).h)) ∧ Below w.heap.size w w' :=
  (rows_any w).mono fun _ _ ⟨g, cap, he, ho, hb⟩ => ⟨g, cap, he, fun _ hj => Ow.cells (l := rowsT) ho hj, hb⟩
end Go.Proofs.Ytdlbdfndnjdeeaa
