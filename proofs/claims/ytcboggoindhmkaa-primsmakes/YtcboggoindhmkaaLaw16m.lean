/- Stage 16: PrimsMakes, over the contracts (made by gen_makes.py). -/
import Derived.Test.YtcboggoindhmkaaHeld16
import Derived.Test.YtcboggoindhmkaaRMl16
namespace Go.Proofs.Ytcboggoindhmkaa
open Go.RowKit

set_option maxHeartbeats 6400000 in
theorem makes16_law (c n k : Int) (s : ByteArray) (w : World) : Calls Try.prog 3 #[.agg #[.int .i64 c, .int .i64 n], .int .i64 k, .string s] w fun e w' => e = .returned (.bool true) ∧ Below w.heap.size w w' := by
  have C1 := hide (int_any c n k)
  have C2 := hide (rint_any c n k)
  have C3 := hide (bool_any c n (decide (0 < k)))
  have C4 := hide (rbool_any c n (decide (0 < k)))
  have C5 := hide (text_any c n s)
  have C6 := hide (rtext_any c n s)
  have HA := hide awake16
  have HT0 := hide (Below.one w (bxT c n))
  obtain ⟨t0, t1⟩ := bxT_cells w c n
  have HC : Hid (∀ w2, Below (w.alloc (bxT c n)).heap.size (w.alloc (bxT c n)) w2 → w2.cell? ⟨w.heap.size, 0, none⟩ = some (.int .i64 c) ∧ w2.cell? ⟨w.heap.size, 1, none⟩ = some (.int .i64 n)) := fun w2 hb => ⟨(hb.cell (cell_lt t0)).trans t0, (hb.cell (cell_lt t1)).trans t1⟩
  have X0 := hide (Below.refl (w.alloc (bxT c n)).heap.size (w.alloc (bxT c n)))
  clear t0 t1
  generalize intE c n k = E1 at *
  generalize intX c n k = Y1 at *
  generalize mkE c false n (boolS (decide (0 < k))) [] = E3 at *
  generalize mkE c false n s [] = E5 at *
  generalize mkX c n = Y3 at *
  go_enter Try.func3, Try.ntmps3
  go_wp2_with (first
    | (go_at_call 15; refine (unhide HA _).mono ?_; rintro r w10 ⟨rfl, b10⟩)
    | (go_at_call 14; refine (rsame_any E5 _ _ _ (unhide G58).ev (unhide G68).ev).mono ?_; rintro r w9 ⟨rfl, g9⟩; have X9 := hide (below_next (unhide X8) g9.below); clear g9)
    | (go_at_call 14; refine (rsame_any E3 _ _ _ (unhide G37).ev (unhide G47).ev).mono ?_; rintro r w8 ⟨rfl, g8⟩; have X8 := hide (below_next (unhide X7) g8.below); have G58 := hide ((unhide G57).below g8.below); have G68 := hide ((unhide G67).below g8.below); have q50 := (unhide G58).bx.c0; have q51 := (unhide G58).bx.c1; have q52 := (unhide G58).bx.c2; have q53 := (unhide G58).bx.c3; have q54 := (unhide G58).bx.c4; have q60 := (unhide G68).bx.c0; have q61 := (unhide G68).bx.c1; have q62 := (unhide G68).bx.c2; have q63 := (unhide G68).bx.c3; have q64 := (unhide G68).bx.c4; clear g8)
    | (go_at_call 14; refine (rsame_any E1 _ _ _ (unhide G16).ev (unhide G26).ev).mono ?_; rintro r w7 ⟨rfl, g7⟩; have X7 := hide (below_next (unhide X6) g7.below); have G37 := hide ((unhide G36).below g7.below); have G47 := hide ((unhide G46).below g7.below); have G57 := hide ((unhide G56).below g7.below); have G67 := hide ((unhide G66).below g7.below); have q30 := (unhide G37).bx.c0; have q31 := (unhide G37).bx.c1; have q32 := (unhide G37).bx.c2; have q33 := (unhide G37).bx.c3; have q34 := (unhide G37).bx.c4; have q40 := (unhide G47).bx.c0; have q41 := (unhide G47).bx.c1; have q42 := (unhide G47).bx.c2; have q43 := (unhide G47).bx.c3; have q44 := (unhide G47).bx.c4; clear g7)
    | (go_at_call 13; refine (unhide C6 _).mono ?_; rintro r w6 ⟨v6, rfl, p6, b6⟩; have u6 := p6; clear p6; obtain ⟨a6, n6, rfl⟩ := u6.shape; have d6 := bel_one b6 (bxE E5 a6 n6); have X6 := hide (below_next (unhide X5) d6); have G16 := hide ((unhide G15).below d6); have G26 := hide ((unhide G25).below d6); have G36 := hide ((unhide G35).below d6); have G46 := hide ((unhide G45).below d6); have G56 := hide ((unhide G55).below d6); have G66 := hide (Held.new u6); have q10 := (unhide G16).bx.c0; have q11 := (unhide G16).bx.c1; have q12 := (unhide G16).bx.c2; have q13 := (unhide G16).bx.c3; have q14 := (unhide G16).bx.c4; have q20 := (unhide G26).bx.c0; have q21 := (unhide G26).bx.c1; have q22 := (unhide G26).bx.c2; have q23 := (unhide G26).bx.c3; have q24 := (unhide G26).bx.c4; clear b6 d6 u6)
    | (go_at_call 12; refine (unhide C5 _).mono ?_; rintro r w5 ⟨v5, rfl, p5, b5⟩; have u5 := ElP.toV _ _ p5; clear p5; obtain ⟨a5, n5, rfl⟩ := u5.shape; have d5 := bel_one b5 (bxE E5 a5 n5); have X5 := hide (below_next (unhide X4) d5); have G15 := hide ((unhide G14).below d5); have G25 := hide ((unhide G24).below d5); have G35 := hide ((unhide G34).below d5); have G45 := hide ((unhide G44).below d5); have G55 := hide (Held.new u5); have t05 := (unhide HC _ (unhide X5)).1; have t15 := (unhide HC _ (unhide X5)).2; clear b5 d5 u5)
    | (go_at_call 11; refine (unhide C4 _).mono ?_; rintro r w4 ⟨v4, rfl, p4, b4⟩; have u4 := p4; clear p4; obtain ⟨a4, n4, rfl⟩ := u4.shape; have d4 := bel_one b4 (bxE E3 a4 n4); have X4 := hide (below_next (unhide X3) d4); have G14 := hide ((unhide G13).below d4); have G24 := hide ((unhide G23).below d4); have G34 := hide ((unhide G33).below d4); have G44 := hide (Held.new u4); have t04 := (unhide HC _ (unhide X4)).1; have t14 := (unhide HC _ (unhide X4)).2; clear b4 d4 u4)
    | (go_at_call 10; refine (unhide C3 _).mono ?_; rintro r w3 ⟨v3, rfl, p3, b3⟩; have u3 := ElP.toV _ _ p3; clear p3; obtain ⟨a3, n3, rfl⟩ := u3.shape; have d3 := bel_one b3 (bxE E3 a3 n3); have X3 := hide (below_next (unhide X2) d3); have G13 := hide ((unhide G12).below d3); have G23 := hide ((unhide G22).below d3); have G33 := hide (Held.new u3); have t03 := (unhide HC _ (unhide X3)).1; have t13 := (unhide HC _ (unhide X3)).2; clear b3 d3 u3)
    | (go_at_call 9; refine (unhide C2 _).mono ?_; rintro r w2 ⟨v2, rfl, p2, b2⟩; have u2 := p2; clear p2; obtain ⟨a2, n2, rfl⟩ := u2.shape; have d2 := bel_one b2 (bxE E1 a2 n2); have X2 := hide (below_next (unhide X1) d2); have G12 := hide ((unhide G11).below d2); have G22 := hide (Held.new u2); have t02 := (unhide HC _ (unhide X2)).1; have t12 := (unhide HC _ (unhide X2)).2; clear b2 d2 u2)
    | (go_at_call 8; refine (unhide C1 _).mono ?_; rintro r w1 ⟨v1, rfl, p1, b1⟩; have u1 := ElP.toV _ _ p1; clear p1; obtain ⟨a1, n1, rfl⟩ := u1.shape; have d1 := bel_one b1 (bxE E1 a1 n1); have X1 := hide (below_next (unhide X0) d1); have G11 := hide (Held.new u1); have t01 := (unhide HC _ (unhide X1)).1; have t11 := (unhide HC _ (unhide X1)).2; clear b1 d1 u1))
  go_ret
  exact ⟨rfl, below_next (below_next (unhide HT0) (unhide X9)) b10⟩
end Go.Proofs.Ytcboggoindhmkaa
