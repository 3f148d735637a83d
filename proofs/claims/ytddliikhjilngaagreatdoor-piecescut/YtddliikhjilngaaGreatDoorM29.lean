/- pieces.Asks of one piece in the midst, folded; the laws' probe (awake). -/
import Derived.Test.YtddliikhjilngaaGreatDoorM27
import Derived.Test.YtddliikhjilngaaGreatDoorM28
namespace Go.Proofs.YtddliikhjilngaaGreatDoor
set_option maxRecDepth 100000
open Go.RowKit

/-- The tables, and the library's bound. -/
structure L13 (w : World) : Prop where
  t : L12 w
  m : Mx w
theorem L13.keep {w w2 : World} (h : L13 w) (hb : Below w.heap.size w w2) : L13 w2 := ⟨h.t.keep hb, h.m.keep hb⟩

set_option maxHeartbeats 1000000 in
theorem asks_one (V S1 s S : ByteArray) (v : Value) (w : World) (hL : L13 w) (hV : Ez 2 V ∧ vE 2 V = 0 ∧ vS 2 V = S1) (hS1 : S1.size < 4294967281) (hz : Pz 2 s S) (hc : chkI ⟨#[]⟩ ⟨#[]⟩ [s] false false = 0) (hv : Txs w v [s]) :
    Calls Tryz.prog 11 #[.int .i64 2, .string V, .agg #[.string ⟨#[]⟩, v, .string ⟨#[]⟩, .bool false, .bool false]] w fun e w' => e = .returned (.tuple #[.bool (mat (bts S1) (bts ⟨#[]⟩) (bts ⟨#[]⟩) ([S].map bts) false false), .int .i64 0]) ∧ Below w.heap.size w w' := by
  have HV := hide (fun W hW => value_any 2 V W hW (by omega) (by omega) hV.1)
  rw [hV.2.1, hV.2.2] at HV
  have HP := hide (fun v W hW hv => prepare_one s S v W hW hz hc hv)
  have HM := hide (fun v W (hW : Mx W) hv => match_any S1 ⟨#[]⟩ ⟨#[]⟩ v [S] false false W (by omega) (fun _ => ⟨hS1, hW⟩) hv)
  have b0 := Below.one w (.cells #[.string ⟨#[]⟩, v, .string ⟨#[]⟩, .bool false, .bool false] 29)
  have B0 := hide (B5.new w (.string ⟨#[]⟩) v (.string ⟨#[]⟩) (.bool false) (.bool false) 29)
  have HL := hide hL
  have HT := hide hv
  have hL0 := hL.keep b0
  clear hL hV hz hc hv
  generalize mat (bts S1) (bts ⟨#[]⟩) (bts ⟨#[]⟩) ([S].map bts) false false = r at *
  obtain ⟨ad, cap, rfl, -, -⟩ := unhide HT
  go_enter Tryz.func11, Tryz.ntmps11
  go_upto_region 4 with (go_at_call 19; refine (unhide HV _ hL0.t).mono ?_; rintro e w1 ⟨rfl, b1⟩; have t1 := b0.trans (b1.mono b0.size); have HB1 := hide ((unhide B0).keep b1); obtain ⟨c0, c1, c2, c3, c4, f0, f1, f2, f3, f4⟩ := unhide HB1; have HL1 := hide ((unhide HL).keep t1))
  go_upto_region 5 with (go_at_call 12; refine (unhide HP _ _ (unhide HL1).t ((unhide HT).below t1)).mono ?_; rintro e w2 ⟨ga, rfl, hga, q2, b2⟩; have t2 := t1.trans (b2.mono t1.size); have HB2 := hide ((unhide HB1).keep b2); obtain ⟨d0, d1, d2, d3, d4, e0, e1, e2, e3, e4⟩ := unhide HB2; have l1 := cell_lt c0)
  obtain ⟨hB, ho, hbb⟩ := (unhide HB2).store (.string ⟨#[]⟩) (.slice (some ⟨ga, 0, none⟩) 1 1) (.string ⟨#[]⟩) (.bool false) (.bool false)
  have t3 := hbb w.heap.size w (Nat.le_refl _) t2
  have hL3 := (unhide HL).keep t3
  have l2 : w.heap.size < w1.heap.size := l1
  have hq := (ho ga 0 (by omega)).trans q2
  clear ho hbb HB2 d0 d1 d2 d3 d4 e0 e1 e2 e3 e4 q2 c0 c1 c2 c3 c4 f0 f1 f2 f3 f4 HP HV hL0
  generalize (((((w2.setCell _ _).setCell _ _).setCell _ _).setCell _ _).setCell _ _) = w3 at *
  have hT3 := txs_one (c := 1) hq
  obtain ⟨c0, c1, c2, c3, c4, f0, f1, f2, f3, f4⟩ := hB
  go_wp2_with (go_at_call 9; refine (unhide HM _ _ hL3.m hT3).mono ?_; rintro e w4 ⟨rfl, b4⟩)
  go_ret2
  exact ⟨rfl, t3.trans (b4.mono t3.size)⟩
end Go.Proofs.YtddliikhjilngaaGreatDoor
