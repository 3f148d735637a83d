/- Stage 16: PrimsReads, over the contracts (made by gen_reads.py). -/
import Derived.Test.YtcboggoindhmkaaHeld16
import Derived.Test.YtcboggoindhmkaaRAs16
import Derived.Test.YtcboggoindhmkaaRTx16
import Derived.Test.YtcboggoindhmkaaFew16
namespace Go.Proofs.Ytcboggoindhmkaa
open Go.RowKit

theorem txs_len (e : El) (h : e.els.length ≤ 1000) : (txsE e).1.length ≤ 1000 := by
  unfold txsE
  split
  · simpa using h
  · simp
set_option maxHeartbeats 6400000 in
theorem reads16_law (e : El) (v : Value) (w : World) (hV : ElV w e v) : Calls Try.prog 5 #[v] w fun r w' => r = .returned (.bool true) ∧ Below w.heap.size w w' := by
  obtain ⟨ad, cap, hv⟩ := hV.shape
  subst hv
  have HA := hide awake16
  have X0 := hide (Below.one w (bxE e ad cap))
  have G0 := hide (Held.new hV)
  have C0 := hide (fun w2 h => few_any e 200 (.agg #[.int .i64 e.cls, .bool e.made, .int .i64 e.num, .string e.con, .slice ad e.els.length cap]) w2 h (by decide) (by decide))
  by_cases hf : fewE e 200 < 0
  · clear hV
    generalize fewE e 200 = F at *
    go_enter Try.func5, Try.ntmps5
    go_wp2_with (first
      | (go_at_call 15; refine (unhide HA _).mono ?_; rintro r w9 ⟨rfl, b9⟩)
      | (go_at_call 16; refine (unhide C0 _ (unhide G0).ev).mono ?_; rintro r w1 ⟨rfl, g1⟩; have X1 := hide (below_next (unhide X0) g1.below); have G1 := hide ((unhide G0).below g1.below); have q10 := (unhide G1).bx.c0; have q11 := (unhide G1).bx.c1; have q12 := (unhide G1).bx.c2; have q13 := (unhide G1).bx.c3; have q14 := (unhide G1).bx.c4))
    go_ret
    exact ⟨rfl, below_next (unhide X1) b9⟩
  · have hl := few_els e 200 (by decide) (by decide) (by omega)
    have HTL := hide (txs_len e hl)
    have C1 := hide (fun w2 h => asint_any e (.agg #[.int .i64 e.cls, .bool e.made, .int .i64 e.num, .string e.con, .slice ad e.els.length cap]) w2 h)
    have C2 := hide (fun w2 h => rasint_any e (.agg #[.int .i64 e.cls, .bool e.made, .int .i64 e.num, .string e.con, .slice ad e.els.length cap]) w2 h)
    have C3 := hide (fun w2 h => asbool_any e (.agg #[.int .i64 e.cls, .bool e.made, .int .i64 e.num, .string e.con, .slice ad e.els.length cap]) w2 h)
    have C4 := hide (fun w2 h => rasbool_any e (.agg #[.int .i64 e.cls, .bool e.made, .int .i64 e.num, .string e.con, .slice ad e.els.length cap]) w2 h)
    have C5 := hide (fun w2 h => texts_any e (.agg #[.int .i64 e.cls, .bool e.made, .int .i64 e.num, .string e.con, .slice ad e.els.length cap]) w2 hl h)
    have C6 := hide (fun w2 h => rtexts_any e (.agg #[.int .i64 e.cls, .bool e.made, .int .i64 e.num, .string e.con, .slice ad e.els.length cap]) w2 hl h)
    have zb : ((asB e).1 == (asB e).1) = true := by simp
    clear hV hl
    generalize fewE e 200 = F at *
    generalize (asIE e).1 = n1 at *
    generalize (asIE e).2 = n2 at *
    generalize (asB e).1 = m1 at *
    generalize (asB e).2 = m2 at *
    generalize (txsE e).2 = t2 at *
    generalize (txsE e).1 = T at *
    obtain ⟨L, hL⟩ : ∃ L, T.length = L := ⟨_, rfl⟩
    have HLN := hide hL
    clear hL
    go_enter Try.func5, Try.ntmps5
    go_wp2_with (first
      | (go_at_call 15; refine (unhide HA _).mono ?_; rintro r w9 ⟨rfl, b9⟩)
      | (go_at_call 26; refine (rsametx_any T (unhide HTL) _ _ _ (unhide TS6) (unhide TS7)).mono ?_; rintro r w8 ⟨rfl, g8⟩; have X8 := hide (below_next (unhide X7) g8.below))
      | (go_at_call 25; refine (unhide C6 _ (unhide G6).ev).mono ?_; rintro r w7 ⟨v7, rfl, ts7, b7⟩; have X7 := hide (below_next (unhide X6) b7); have G7 := hide ((unhide G6).below b7); obtain ⟨a7, c7, rfl⟩ : ∃ a c, v7 = .slice a L c := (by obtain ⟨a, c, h, _⟩ := ts7; rw [unhide HLN] at h; exact ⟨a, c, h⟩); have TS6 := hide (ts6.below b7); have TS7 := hide ts7)
      | (go_at_call 24; refine (unhide C5 _ (unhide G5).ev).mono ?_; rintro r w6 ⟨v6, rfl, ts6, b6⟩; have X6 := hide (below_next (unhide X5) b6); have G6 := hide ((unhide G5).below b6); obtain ⟨a6, c6, rfl⟩ : ∃ a c, v6 = .slice a L c := (by obtain ⟨a, c, h, _⟩ := ts6; rw [unhide HLN] at h; exact ⟨a, c, h⟩); have q60 := (unhide G6).bx.c0; have q61 := (unhide G6).bx.c1; have q62 := (unhide G6).bx.c2; have q63 := (unhide G6).bx.c3; have q64 := (unhide G6).bx.c4)
      | (go_at_call 23; refine (unhide C4 _ (unhide G4).ev).mono ?_; rintro r w5 ⟨rfl, g5⟩; have X5 := hide (below_next (unhide X4) g5.below); have G5 := hide ((unhide G4).below g5.below); have q50 := (unhide G5).bx.c0; have q51 := (unhide G5).bx.c1; have q52 := (unhide G5).bx.c2; have q53 := (unhide G5).bx.c3; have q54 := (unhide G5).bx.c4)
      | (go_at_call 22; refine (unhide C3 _ (unhide G3).ev).mono ?_; rintro r w4 ⟨rfl, g4⟩; have X4 := hide (below_next (unhide X3) g4.below); have G4 := hide ((unhide G3).below g4.below); have q40 := (unhide G4).bx.c0; have q41 := (unhide G4).bx.c1; have q42 := (unhide G4).bx.c2; have q43 := (unhide G4).bx.c3; have q44 := (unhide G4).bx.c4)
      | (go_at_call 21; refine (unhide C2 _ (unhide G2).ev).mono ?_; rintro r w3 ⟨rfl, g3⟩; have X3 := hide (below_next (unhide X2) g3.below); have G3 := hide ((unhide G2).below g3.below); have q30 := (unhide G3).bx.c0; have q31 := (unhide G3).bx.c1; have q32 := (unhide G3).bx.c2; have q33 := (unhide G3).bx.c3; have q34 := (unhide G3).bx.c4)
      | (go_at_call 20; refine (unhide C1 _ (unhide G1).ev).mono ?_; rintro r w2 ⟨rfl, b2⟩; have X2 := hide (below_next (unhide X1) b2); have G2 := hide ((unhide G1).below b2); have q20 := (unhide G2).bx.c0; have q21 := (unhide G2).bx.c1; have q22 := (unhide G2).bx.c2; have q23 := (unhide G2).bx.c3; have q24 := (unhide G2).bx.c4)
      | (go_at_call 16; refine (unhide C0 _ (unhide G0).ev).mono ?_; rintro r w1 ⟨rfl, g1⟩; have X1 := hide (below_next (unhide X0) g1.below); have G1 := hide ((unhide G0).below g1.below); have q10 := (unhide G1).bx.c0; have q11 := (unhide G1).bx.c1; have q12 := (unhide G1).bx.c2; have q13 := (unhide G1).bx.c3; have q14 := (unhide G1).bx.c4))
    go_ret
    exact ⟨rfl, below_next (unhide X8) b9⟩
end Go.Proofs.Ytcboggoindhmkaa
