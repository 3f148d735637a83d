/- pieces.Prepare: of one piece in the midst, folded. -/
import Derived.Test.YtddliikhjilngaaGreatDoorM26
import Derived.Deep.Cut
import Derived.Deep.CutRange
import Derived.Deep.RegionWith
import Derived.Lib.SlBuf
import Derived.Laws.IdiomCopy
namespace Go.Proofs.YtddliikhjilngaaGreatDoor
set_option maxRecDepth 100000
open Go.RowKit

theorem copy13 (W : World) (ty : TypeId) (ga g off cap : Nat) (x s : ByteArray) (ha : W.cell? ⟨ga, 0, none⟩ = some (.string x)) (hf : W.frozen? ⟨ga, 0, none⟩ = false) (hg : W.cell? ⟨g, off, none⟩ = some (.string s)) :
    (Builtin.copy_ #[27, 27] ty #[.slice (some ⟨ga, 0, none⟩) 1 1, .slice (some ⟨g, off, none⟩) 1 cap]).run Tryz.prog W = .ok (goInt 1) (W.setCell ⟨ga, 0, none⟩ (.string s)) := by
  have h := run_copy_cells (P := Tryz.prog) W 27 27 ty 9 ga 0 1 1 ⟨g, off, none⟩ 1 cap [.string s] Tryz.underlying27 (by kernel_rfl) rfl
    (fun j v hj => by
      cases j with
      | zero => simp at hj; rw [← hj]; exact hg
      | succ j => simp at hj)
    (fun j hj => by
      have : j = 0 := by simpa using hj
      subst this
      rw [ha]; rfl)
    (fun j hj => by
      have : j = 0 := by simpa using hj
      subst this
      exact hf)
    (fun v hv => by
      have : v = .string s := by simpa using hv
      rw [this]; rfl)
  exact h
theorem text_info : (Tryz.prog.info? 9).map (fun i => (i.zero, i.size, i.bytes)) = some (some (.string ⟨#[]⟩), 1, 16) := by kernel_rfl
theorem make13 (W : World) : (Instr.makeSlice 27 (.int .i64 1) (.int .i64 1)).run Tryz.prog W = .ok (.slice (some ⟨W.heap.size, 0, none⟩) 1 1) (W.alloc (.cells #[.string ⟨#[]⟩] 9)) := by
  have hi := text_info
  cases h : Tryz.prog.info? 9 with
  | none => rw [h] at hi; cases hi
  | some i =>
    rw [h] at hi
    simp only [Option.map_some, Option.some.injEq, Prod.mk.injEq] at hi
    obtain ⟨h1, h2, h3⟩ := hi
    have r := run_makeSlice W 27 9 i (.string ⟨#[]⟩) Tryz.underlying27 h h1 .i64 .i64 1 1 (by omega) (by omega) (by rw [h2]; decide) (by rw [h3]; decide) (by omega)
    have e : madeCells (Value.string ⟨#[]⟩).cells (Int.toNat 1 * 1) = #[.string ⟨#[]⟩] := by kernel_rfl
    rw [r, h2, e]
    rfl
set_option maxHeartbeats 2000000 in
theorem prepare_one (s S : ByteArray) (v : Value) (w : World) (hL : L12 w) (hz : Pz 2 s S) (hc : chkI ⟨#[]⟩ ⟨#[]⟩ [s] false false = 0) (hv : Txs w v [s]) :
    Calls Tryz.prog 12 #[.int .i64 2, .agg #[.string ⟨#[]⟩, v, .string ⟨#[]⟩, .bool false, .bool false]] w fun e w' => ∃ ga, e = .returned (.tuple #[.agg #[.string ⟨#[]⟩, .slice (some ⟨ga, 0, none⟩) 1 1, .string ⟨#[]⟩, .bool false, .bool false], .int .i64 0]) ∧ w.heap.size ≤ ga ∧ w'.cell? ⟨ga, 0, none⟩ = some (.string S) ∧ Below w.heap.size w w' := by
  have HC := hide (fun W (hW : Below w.heap.size w W) => check_any ⟨#[]⟩ ⟨#[]⟩ v [s] false false W (hv.below hW))
  rw [hc] at HC
  have HS := hide (fun W hW => steps_ok 2 (.slice none 0 0) [] W hW (by omega) (by omega) (by simp) (by simp) (by kernel_rfl) (by kernel_rfl) (Row.nil _ _ _))
  have HL := hide hL
  obtain ⟨ad, cap, rfl, hn, hcc⟩ := hv
  obtain ⟨g, off, rfl, hcell⟩ := hcc (by simp)
  have hg : w.cell? ⟨g, off, none⟩ = some (.string s) := hcell 0 (by simp)
  have P0 := hide (P3.new w (.slice (some ⟨g, off, none⟩) 1 cap))
  have b0 := three13 w (.cells #[.int .i64 2] 3) (.cells #[.string ⟨#[]⟩, .slice (some ⟨g, off, none⟩) 1 cap, .string ⟨#[]⟩, .bool false, .bool false] 29) (.cells #[.string ⟨#[]⟩, .slice none 0 0, .string ⟨#[]⟩, .bool false, .bool false] 29)
  have HCL : Hid (∀ gf W, L12 W → W.cell? ⟨gf, 0, none⟩ = some (.int .i64 0) → W.frozen? ⟨gf, 0, none⟩ = false → W.cell? ⟨w.heap.size, 0, none⟩ = some (.int .i64 2) → Calls Tryz.prog 21 (#[.int .i64 2, .string s] ++ #[.pointer (some ⟨gf, 0, none⟩), .pointer (some ⟨w.heap.size, 0, none⟩)]) W fun e w' => e = .returned (.string S) ∧ Below W.heap.size W w') :=
    fun gf W hW h1 h2 h3 => clo13_any gf w.heap.size 2 s S W hW hz h1 h2 h3
  have eg : ∀ args w, (callFunc 21 args).run Tryz.prog w = .ok (.enter 21 args) w := enters_of Tryz.func21 (by kernel_rfl) rfl
  have mk := make13
  clear hcell hcc hn hL hc hz
  go_enter Tryz.func12, Tryz.ntmps12
  go_upto_region 9 with (first
    | (go_at_call 20; refine (unhide HS _ (unhide HL1)).mono ?_; rintro e w2 ⟨v2, rfl, q2, b2⟩; have t2 := t1.trans (b2.mono t1.size); have PP2 := (unhide PP1).keep b2; have P2 := hide PP2; obtain ⟨y0, ⟨c0, c1, c2, c3, c4, f0, f1, f2, f3, f4⟩, _⟩ := PP2; have l1 : w.heap.size + 1 < w2.heap.size := cell_lt c0; have l2 : w.heap.size + 1 < w2.heap.size + 1 := (by omega); have l3 : w.heap.size + 1 < w2.heap.size + 1 + 1 := (by omega); have l4 : ¬ w.heap.size + 1 = w2.heap.size := (by omega); have l5 : ¬ w.heap.size + 1 = w2.heap.size + 1 := (by omega))
    | (go_at_call 8; refine (unhide HC _ b0).mono ?_; rintro e w1 ⟨rfl, b1⟩; have t1 := b0.trans (b1.mono b0.size); have PP1 := hide ((unhide P0).keep b1); have HL1 := hide ((unhide HL).keep t1); have x1 := (unhide PP1).way))
  go_cut [11] from 30 to 38 (fun v11 wx => ∃ gm ga : Nat, v11 = .pointer (some ⟨gm, 0, none⟩) ∧ M13 w2 wx w2.heap.size gm ga ⟨#[]⟩)
  case first =>
    go_region
    all_goals (go_wp2_with fail; go_meet; first | exact ⟨_, _, rfl, (M13.newA w2 _ _ _).drewN 1⟩ | exact ⟨_, _, rfl, (M13.newB w2 _ _ _).drewN 1⟩)
  case rest =>
    obtain ⟨gm, ga, rfl, hM⟩ := hcut
    have tc := t2.trans (hM.b.mono t2.size)
    have hgc : wc.cell? ⟨g, off, none⟩ = some (.string s) := (tc.cell (cell_lt hg)).trans hg
    have PPc := (unhide P2).keep hM.b
    have hcopy := fun ty => copy13 wc ty ga g off cap ⟨#[]⟩ s hM.a hM.fa hgc
    have hM1 := hide (hM.put s)
    clear l1 l2 l3 l4 l5 c0 c1 c2 c3 c4 f0 f1 f2 f3 f4 y0 x1 q2 b1 b2 mk HS HC P0 b0 PP1 HL1
    obtain ⟨y0, ⟨c0, c1, c2, c3, c4, f0, f1, f2, f3, f4⟩, _⟩ := PPc
    obtain ⟨k1, k2, k3, ⟨m0, m1, m2, m3, m4, n0, n1, n2, n3, n4⟩, k5, k6, k7, k8, k9, k10⟩ := hM
    go_upto_region 11 with (at_builtin; refine Lib.wpList_copy_run _ rfl _ _ 27 27 rfl _ _ rfl rfl (hcopy _) ?_)
    clear hcopy hgc y0 c0 c1 c2 c3 c4 f0 f1 f2 f3 f4 k1 k2 k3 m0 m1 m2 m3 m4 n0 n1 n2 n3 n4 k5 k6 tc
    generalize wc.setCell ⟨ga, 0, none⟩ (.string s) = wd at *
    have hMd := unhide hM1
    have PPd := (unhide P2).keep hMd.b
    have td := t2.trans (hMd.b.mono t2.size)
    have HCD : Hid (Calls Tryz.prog 21 #[.int .i64 2, .string s, .pointer (some ⟨w2.heap.size, 0, none⟩), .pointer (some ⟨w.heap.size, 0, none⟩)] wd.drew fun e w' => e = .returned (.string S) ∧ Below wd.heap.size wd w') :=
      (unhide HCL w2.heap.size (wd.drewN 1) ((unhide HL).keep (below_drewN td 1)) hMd.fc hMd.ff PPd.way).mono fun e w' ⟨h1, h2⟩ => ⟨h1, (below_drewN (Below.refl _ _) 1).trans h2⟩
    obtain ⟨y0, ⟨c0, c1, c2, c3, c4, f0, f1, f2, f3, f4⟩, _⟩ := PPd
    obtain ⟨k1, k2, k3, ⟨m0, m1, m2, m3, m4, n0, n1, n2, n3, n4⟩, k5, k6, k7, k8, k9, k10⟩ := hMd
    go_wp2
    refine wp_loop_rounds 3 ?_
    rw [rounds_succ]
    go_upto_region 16 with fail
    go_region_with (refine (unhide HCD).mono ?_; rintro e w5 ⟨rfl, b5⟩; have hM5 := hide ((unhide hM1).keep b5); have r1 := (unhide hM5).m.c1; have r2 := (unhide hM5).a; have r3 := (unhide hM5).fa)
    all_goals
      have hM6 := (unhide hM5).put S
      have PP6 := (unhide P2).keep hM6.b
      have t6 := t2.trans (hM6.b.mono t2.size)
      have hga := hM6.ha
      have hs2 := cell_lt (unhide P2).r.c0
      clear hM5 r1 r2 r3 b5 y0 c0 c1 c2 c3 c4 f0 f1 f2 f3 f4 k1 k2 k3 m0 m1 m2 m3 m4 n0 n1 n2 n3 n4 k5 k6 hM1 HCD td
      generalize w5.setCell ⟨ga, 0, none⟩ (.string S) = w6 at *
      obtain ⟨y0, ⟨c0, c1, c2, c3, c4, f0, f1, f2, f3, f4⟩, hr⟩ := PP6
      have HRS := hide hr
      obtain ⟨d0, d1, d2, d3, d4, e0, e1, e2, e3, e4⟩ := hr
      obtain ⟨k1, k2, k3, ⟨m0, m1, m2, m3, m4, n0, n1, n2, n3, n4⟩, k5, k6, -, -, -, -⟩ := hM6
      go_wp2
      rw [rounds_succ]
      go_wp2
      obtain ⟨hB, ho, hbb⟩ := (unhide HRS).store (.string ⟨#[]⟩) (.slice (some ⟨ga, 0, none⟩) 1 1) (.string ⟨#[]⟩) (.bool false) (.bool false)
      have h9 := ho ga 0 (by have : w.heap.size + 1 + 1 < w2.heap.size := hs2; omega)
      have t9 := hbb w.heap.size w (by omega) t6
      rw [k5] at h9
      clear ho hbb
      generalize (((((w6.setCell _ _).setCell _ _).setCell _ _).setCell _ _).setCell _ _) = w7 at *
      obtain ⟨g0, g1, g2, g3, g4, -, -, -, -, -⟩ := hB
      refine bodyPost_ret (by simp [results, Tryz.results12, go_sem, g0, g1, g2, g3, g4]; try rfl) rfl ?_
      exact ⟨ga, rfl, by have := t2.size; omega, h9, t9⟩
/-- A slice of one text. -/
theorem txs_one {W : World} {g off c : Nat} {S : ByteArray} (h : W.cell? ⟨g, off, none⟩ = some (.string S)) : Txs W (.slice (some ⟨g, off, none⟩) 1 c) [S] :=
  ⟨some ⟨g, off, none⟩, c, rfl, by simp, fun _ => ⟨g, off, rfl, fun j hj => by
    have : j = 0 := by simpa using hj
    subst this
    exact h⟩⟩
end Go.Proofs.YtddliikhjilngaaGreatDoor
