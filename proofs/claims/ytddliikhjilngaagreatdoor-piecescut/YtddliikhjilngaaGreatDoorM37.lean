/- The law PiecesCut (P13.5). -/
import Derived.Test.YtddliikhjilngaaGreatDoorM36
import Derived.Deep.RegionLaw
namespace Go.Proofs.YtddliikhjilngaaGreatDoor
set_option maxRecDepth 100000
open Go.RowKit

set_option maxHeartbeats 1000000 in
theorem cut_out (V : ByteArray) (a b c d : Int) (f0 f1 f2 : Bool) (w : World) (hL : L13 w) (h : 5000 < V.size) :
    Calls Tryz.prog 3 #[.string V, .agg #[.int .i64 a, .int .i64 b, .int .i64 c, .int .i64 d, .bool f0, .bool f1, .bool f2]] w fun e w' => e = .returned (.bool true) ∧ Below w.heap.size w w' := by
  have b0 := Below.one w (.cells #[.int .i64 a, .int .i64 b, .int .i64 c, .int .i64 d, .bool f0, .bool f1, .bool f2] 23)
  have HAW := hide (awake13 _ (hL.keep b0))
  have z1 : (5000 : Int) < (V.size : Int) := by omega
  clear hL
  go_enter Tryz.func3, Tryz.ntmps3
  go_wp2_with (go_at_call 6; refine (unhide HAW).mono ?_; rintro e w1 ⟨rfl, b1⟩)
  go_ret
  exact ⟨rfl, below_new b1⟩
/-- What is asked to begin, to end: nothing, or a cut of the text. -/
def CA (V A : ByteArray) (i j : Nat) (h : Bool) : Prop := (h = false ∧ bts A = []) ∨ (h = true ∧ bts A = cutp (bts V) i j)
theorem cut_box (w : World) (a b c d : Value) (f0 f1 f2 : Bool) (T : TypeId) : (w.alloc (.cells #[a, b, c, d, .bool f0, .bool f1, .bool f2] T)).cell? ⟨w.heap.size, 4, none⟩ = some (.bool f0) ∧ (w.alloc (.cells #[a, b, c, d, .bool f0, .bool f1, .bool f2] T)).cell? ⟨w.heap.size, 5, none⟩ = some (.bool f1) ∧ (w.alloc (.cells #[a, b, c, d, .bool f0, .bool f1, .bool f2] T)).cell? ⟨w.heap.size, 6, none⟩ = some (.bool f2) := by
  refine ⟨?_, ?_, ?_⟩ <;> rw [World.cell?_alloc_mark] <;> rfl
theorem bts_cut (V : ByteArray) (i j : Nat) : bts (V.extract i j) = cutp (bts V) i j := by rw [← bts_toList, Lib.extract_toList]; rfl
/-- What is asked of the cuts is found (P13.5). -/
theorem cut_plain {V A B : ByteArray} {k0 k1 k2 k3 : Nat} {hi hf x3 : Bool} {us : List ByteArray} (h01 : k0 ≤ k1) (h12 : k1 ≤ k2) (h23 : k2 ≤ k3) (h3 : k3 ≤ V.size) (hA : CA V A 0 k0 hi) (hB : CA V B k3 V.size hf)
    (hus : us = (if k0 < k1 then [V.extract k0 k1] else []) ++ (if x3 then [V.extract k2 k3] else [])) (hc : chk13 A B us hi hf = true) : mat (bts V) (bts A) (bts B) (us.map bts) hi hf = true := by
  have hl : (bts V).length = V.size := bts_len V
  -- the two ends
  obtain ⟨a, ha0, haA, hap⟩ : ∃ a, a ≤ k0 ∧ (bts A).length = a ∧ Lib.hasPrefix (bts V) (bts A) = true := by
    rcases hA with ⟨_, e⟩ | ⟨_, e⟩
    · exact ⟨0, Nat.zero_le _, by rw [e]; rfl, by rw [e]; simp [Lib.hasPrefix]⟩
    · exact ⟨k0, Nat.le_refl _, by rw [e, cutp_len (by omega)]; omega, by rw [e]; exact cutp_pre⟩
  obtain ⟨b, hb3, hbl, hbB, hbs⟩ : ∃ b, k3 ≤ b ∧ b ≤ V.size ∧ (bts B).length = V.size - b ∧ Lib.hasSuffix ((bts V).drop a) (bts B) = true := by
    rcases hB with ⟨_, e⟩ | ⟨_, e⟩
    · exact ⟨V.size, by omega, Nat.le_refl _, by rw [e]; simp, by rw [e]; simp [Lib.hasSuffix]⟩
    · refine ⟨k3, Nat.le_refl _, h3, by rw [e, cutp_len (by omega)], ?_⟩
      rw [e, ← hl]
      exact cutp_suf (by omega)
  have hm : mid (bts V) (bts A) (bts B) = cutp (bts V) a b := mid_cutp haA (by rw [hbB, hl]) (by omega) (by omega)
  have hE : Emb (cutp (bts V) a b) (us.map bts) := by
    rw [hus]
    by_cases c1 : k0 < k1
    · rw [if_pos c1]
      cases x3
      · simp only [Bool.false_eq_true, if_false, List.append_nil, List.map_cons, List.map_nil, bts_cut]
        exact emb_one (by omega) (by omega) (by omega)
      · simp only [if_true, List.cons_append, List.nil_append, List.map_cons, List.map_nil, bts_cut]
        exact emb_two (by omega) (by omega) (by omega) (by omega) (by omega)
    · rw [if_neg c1]
      cases x3
      · simp only [Bool.false_eq_true, if_false, List.append_nil, List.map_nil]
        exact emb_none _
      · simp only [if_true, List.nil_append, List.map_cons, List.map_nil, bts_cut]
        exact emb_one (by omega) (by omega) (by omega)
  unfold mat
  rw [List.length_map, chk_fmd hc, hap, haA, hbs, hm, (btw_iff _ _).2 hE]
  rfl
theorem text_info2 : ∃ i, Tryz.prog.info? 9 = some i ∧ i.zero = some (.string ⟨#[]⟩) ∧ i.size = 1 ∧ i.bytes = 16 := by
  have h := text_info
  cases h2 : Tryz.prog.info? 9 with
  | none => rw [h2] at h; cases h
  | some i =>
    rw [h2] at h
    simp only [Option.map_some, Option.some.injEq, Prod.mk.injEq] at h
    exact ⟨i, rfl, h.1, h.2.1, h.2.2⟩
set_option maxHeartbeats 2000000 in
theorem cut_in (V : ByteArray) (a b c d : Int) (f0 f1 f2 : Bool) (w : World) (hL : L13 w) (hV : V.size ≤ 5000) :
    Calls Tryz.prog 3 #[.string V, .agg #[.int .i64 a, .int .i64 b, .int .i64 c, .int .i64 d, .bool f0, .bool f1, .bool f2]] w fun e w' => e = .returned (.bool true) ∧ Below w.heap.size w w' := by
  have b0 := Below.one w (.cells #[.int .i64 a, .int .i64 b, .int .i64 c, .int .i64 d, .bool f0, .bool f1, .bool f2] 23)
  have HOR := hide (fun W => order_any V.size a b c d f0 f1 f2 W hV)
  obtain ⟨u0, u1, u2⟩ := cut_box w (.int .i64 a) (.int .i64 b) (.int .i64 c) (.int .i64 d) f0 f1 f2 23
  have z1 : ¬ (5000 : Int) < (V.size : Int) := by omega
  have HL := hide hL
  clear hL
  go_enter Tryz.func3, Tryz.ntmps3
  go_upto_region 5 with (go_at_call 7; refine (unhide HOR _).mono ?_; rintro e w1 ⟨k0, k1, k2, k3, rfl, hk, b1⟩; have t1 := below_new b1; have HCU := hide (Cu.new w w1 k0 k1 k2 k3 f0 f1 f2 t1 ((b1.cell (cell_lt u0)).trans u0) ((b1.cell (cell_lt u1)).trans u1) ((b1.cell (cell_lt u2)).trans u2) 25 29))
  have hCU := unhide HCU
  clear HCU u0 u1 u2 b0 HOR
  generalize (w1.alloc (.cells #[.int .i64 k0, .int .i64 k1, .int .i64 k2, .int .i64 k3] 25)).alloc (.cells #[.string ⟨#[]⟩, .slice none 0 0, .string ⟨#[]⟩, .bool false, .bool false] 29) = w2 at *
  generalize hgp : w1.heap.size + 1 = gp at *
  generalize hgk : w1.heap.size = gk at *
  obtain ⟨hk01, hk12, hk23, hk3⟩ := hk
  clear b1 t1
  have HCU := hide hCU
  obtain ⟨-, e0, e1, e2, q0, q1, q2, q3, ⟨p0, p1, p2, p3, p4, g0, g1, g2, g3, g4⟩, -, -, -⟩ := hCU
  go_cut [22] from 16 to 22 (fun v22 wx => v22 = .bool (f0 && decide (0 < k0)) ∧ wx = w2)
  case first =>
    cases f0
    · go_wp2
      go_meet
      exact ⟨rfl, rfl⟩
    · go_wp2
      go_meet
      exact ⟨rfl, rfl⟩
  case rest =>
    obtain ⟨rfl, hwc⟩ := hcut
    subst hwc
    generalize hx1 : (f0 && decide (0 < k0)) = x1 at *
    go_upto_if 22 with fail
    go_cut [] from 23 to 28 (fun wx => ∃ A hi, Cu w wx gk gp k0 k1 k2 k3 f0 f1 f2 A (.slice none 0 0) ⟨#[]⟩ hi false [] ∧ CA V A 0 k0 hi)
    case first =>
      cases x1
      · go_wp2
        go_meet
        exact ⟨_, _, unhide HCU, .inl ⟨rfl, rfl⟩⟩
      · have y1 : (0 : Int) ≤ (k0 : Int) := by omega
        have y2 : (k0 : Int) ≤ (V.size : Int) := by omega
        go_wp2
        go_meet
        exact ⟨_, _, (unhide HCU).setA (V.extract 0 k0) true, .inr ⟨rfl, by rw [← bts_toList, Lib.extract_toList]; rfl⟩⟩
    case rest =>
      obtain ⟨A, hi, hCU, hA⟩ := hcut
      have HA := hide hA
      clear e0 e1 e2 q0 q1 q2 q3 p0 p1 p2 p3 p4 g0 g1 g2 g3 g4 HCU hA hx1
      have HCU := hide hCU
      obtain ⟨-, e0, e1, e2, q0, q1, q2, q3, ⟨p0, p1, p2, p3, p4, g0, g1, g2, g3, g4⟩, -, -, -⟩ := hCU
      go_upto_region 7 with fail
      go_cut [37] from 29 to 37 (fun v37 wx => v37 = .bool (f1 && decide (k3 < V.size)) ∧ wx = wc)
      case first =>
        cases f1
        · go_wp2
          go_meet
          exact ⟨rfl, rfl⟩
        · go_wp2
          go_meet
          exact ⟨rfl, rfl⟩
      case rest =>
        obtain ⟨rfl, hwc⟩ := hcut
        subst hwc
        generalize hx2 : (f1 && decide (k3 < V.size)) = x2 at *
        go_upto_if 37 with fail
        go_cut [] from 38 to 43 (fun wx => ∃ B hf, Cu w wx gk gp k0 k1 k2 k3 f0 f1 f2 A (.slice none 0 0) B hi hf [] ∧ CA V B k3 V.size hf)
        case first =>
          cases x2
          · go_wp2
            go_meet
            exact ⟨_, _, unhide HCU, .inl ⟨rfl, rfl⟩⟩
          · have y1 : (0 : Int) ≤ (k3 : Int) := by omega
            have y2 : (k3 : Int) ≤ (V.size : Int) := by omega
            go_wp2
            go_meet
            exact ⟨_, _, (unhide HCU).setB (V.extract k3 V.size) true, .inr ⟨rfl, by rw [← bts_toList, Lib.extract_toList]; rfl⟩⟩
        case rest =>
          obtain ⟨B, hf, hCU, hB⟩ := hcut
          have HB := hide hB
          clear e0 e1 e2 q0 q1 q2 q3 p0 p1 p2 p3 p4 g0 g1 g2 g3 g4 HCU hB hx2
          have HCU := hide hCU
          obtain ⟨-, e0, e1, e2, q0, q1, q2, q3, ⟨p0, p1, p2, p3, p4, g0, g1, g2, g3, g4⟩, -, -, -⟩ := hCU
          obtain ⟨i0, hi0, hz0, hz1, hz2⟩ := text_info2
          obtain ⟨ts, hts⟩ : ∃ ts : List ByteArray, ts = [] := ⟨_, rfl⟩
          obtain ⟨v, hv⟩ : ∃ v : Value, v = .slice none 0 0 := ⟨_, rfl⟩
          have hlen : ts.length ≤ 1 := by rw [hts]; simp
          have HCU2 : Hid (Cu w wc gk gp k0 k1 k2 k3 f0 f1 f2 A v B hi hf ts) := by rw [hts, hv]; exact HCU
          rw [← hv] at p1
          clear HCU
          have HCU := HCU2
          clear HCU2
          have HTS := hide hts
          clear hts hv
          go_upto_if 48 with fail
          generalize hx4 : decide (k0 < k1) = x4 at *
          go_cut [] from 49 to 59 (fun wx => ∃ v ts, Cu w wx gk gp k0 k1 k2 k3 f0 f1 f2 A v B hi hf ts ∧ ts = (if k0 < k1 then [V.extract k0 k1] else []))
          case first =>
            cases x4
            · have h01 : ¬ k0 < k1 := of_decide_eq_false hx4
              clear hx4
              go_wp2
              go_meet
              exact ⟨_, _, unhide HCU, by rw [unhide HTS, if_neg h01]⟩
            · have h01 : k0 < k1 := of_decide_eq_true hx4
              have HH := hide h01
              clear hx4
              clear h01
              have y1 : (0 : Int) ≤ (k0 : Int) := by omega
              have y2 : (k0 : Int) ≤ (k1 : Int) := by omega
              have y3 : (k1 : Int) ≤ (V.size : Int) := by omega
              have hcu := unhide HCU
              have LG : Hid (gp + 1 ≤ wc.heap.size) := cell_lt hcu.p.c0
              have LZ : Hid (gp + 1 ≤ ((wc.alloc (.cells #[.string (V.extract k0 k1)] 9)).drew).heap.size) := Nat.le_trans (unhide LG) ((Gr.one wc _).drew).size
              have G1 : Hid (Below wc.heap.size wc (wc.alloc (.cells #[.string (V.extract k0 k1)] 9)).drew) := ((Gr.one wc _).drew).below
              have G2 : Hid (Below wc.heap.size wc (wc.drew.alloc (.cells #[.string (V.extract k0 k1)] 9))) := (((Gr.refl wc).drew).alloc _).below
              have O1 : Hid ((wc.alloc (.cells #[.string (V.extract k0 k1)] 9)).drew.ownsRow (gp + 1) 9 1 v ts.length (ts.map Value.string)) := own_below hcu.o (unhide G1)
              have O2 : Hid ((wc.drew.alloc (.cells #[.string (V.extract k0 k1)] 9)).ownsRow (gp + 1) 9 1 v ts.length (ts.map Value.string)) := own_below hcu.o (unhide G2)
              have S1 : Hid (∀ j u, ([Value.string (V.extract k0 k1)])[j]? = some u → ((wc.alloc (.cells #[.string (V.extract k0 k1)] 9)).drew).cell? ((⟨wc.heap.size, 0, none⟩ : Addr).add j) = some u) := World.news_of_block (B := wc.heap.size) (cs := #[.string (V.extract k0 k1)]) (t := 9) (fr := (0, 0)) (heap_new wc _)
              have S2 : Hid (∀ j u, ([Value.string (V.extract k0 k1)])[j]? = some u → (wc.drew.alloc (.cells #[.string (V.extract k0 k1)] 9)).cell? ((⟨wc.heap.size, 0, none⟩ : Addr).add j) = some u) := World.news_of_block (B := wc.heap.size) (cs := #[.string (V.extract k0 k1)]) (t := 9) (fr := (0, 0)) (heap_new wc.drew _)
              have mm1 : ts.length + 1 ≤ maxLen := by unfold maxLen; omega
              have mm2 : (ts.length + 1) * 16 ≤ 140737488355328 := by omega
              have lq : gk < wc.heap.size := cell_lt q0
              have lp : gp < wc.heap.size := cell_lt p0
              clear hcu
              go_upto_region 10 with fail
              go_region_law (first
                | (refine step_append_at _ (by rfl) _ _ _ (by rfl) (gp + 1) 9 i0 _ 1 16 Tryz.underlying27 hi0 hz0 hz1 hz2 rfl (by omega) _ ts.length _ (by rfl) (unhide O1) ⟨wc.heap.size, 0, none⟩ 1 1 [.string (V.extract k0 k1)] (by rfl) (by rfl) (unhide S1) (by simp [Value.oneCell']) mm1 mm2 (unhide LZ) ?_; intro v7 w7 hown7 hgrow7; have b7 : Below (gp + 1) wc w7 := ((unhide G1).mono (unhide LG)).trans (below_own hgrow7 (unhide LZ) (own_block (unhide O1))); have r1 : w7.cell? ⟨gp, 1, none⟩ = some v := ((b7.cell (p := ⟨gp, 1, none⟩) (Nat.lt_succ_self gp)).trans p1); have r2 : w7.frozen? ⟨gp, 1, none⟩ = false := ((b7.frozen (p := ⟨gp, 1, none⟩) (Nat.lt_succ_self gp)).trans g1); have HO7 := hide hown7; obtain ⟨a7, c7, hv7⟩ := own_shape hown7; subst hv7)
                | (refine step_append_at _ (by rfl) _ _ _ (by rfl) (gp + 1) 9 i0 _ 1 16 Tryz.underlying27 hi0 hz0 hz1 hz2 rfl (by omega) _ ts.length _ (by rfl) (unhide O2) ⟨wc.heap.size, 0, none⟩ 1 1 [.string (V.extract k0 k1)] (by rfl) (by rfl) (unhide S2) (by simp [Value.oneCell']) mm1 mm2 (unhide LZ) ?_; intro v7 w7 hown7 hgrow7; have b7 : Below (gp + 1) wc w7 := ((unhide G2).mono (unhide LG)).trans (below_own hgrow7 (unhide LZ) (own_block (unhide O2))); have r1 : w7.cell? ⟨gp, 1, none⟩ = some v := ((b7.cell (p := ⟨gp, 1, none⟩) (Nat.lt_succ_self gp)).trans p1); have r2 : w7.frozen? ⟨gp, 1, none⟩ = false := ((b7.frozen (p := ⟨gp, 1, none⟩) (Nat.lt_succ_self gp)).trans g1); have HO7 := hide hown7; obtain ⟨a7, c7, hv7⟩ := own_shape hown7; subst hv7))
              all_goals
                have hown9 : w7.ownsRow (gp + 1) 9 1 (.slice a7 (ts.length + 1) c7) (ts ++ [V.extract k0 k1]).length ((ts ++ [V.extract k0 k1]).map Value.string) := by
                  have h := unhide HO7
                  rw [List.length_append, List.map_append]
                  exact h
                have hN := (unhide HCU).grown b7 hown9
                clear hown9 HO7
                go_wp2_with fail
                go_meet
                exact ⟨_, _, hN, by rw [unhide HTS, if_pos (unhide HH)]; rfl⟩
          case rest =>
            clear hx4
            clear hlen HTS p1 HCU
            obtain ⟨v, ts, hCU, hts⟩ := hcut
            clear e0 e1 e2 q0 q1 q2 q3 p0 p2 p3 p4 g0 g1 g2 g3 g4
            have HTS := hide hts
            have hlen : ts.length ≤ 1 := by rw [hts]; split <;> simp
            have HCU := hide hCU
            obtain ⟨-, e0, e1, e2, q0, q1, q2, q3, ⟨p0, p1, p2, p3, p4, g0, g1, g2, g3, g4⟩, -, -, -⟩ := hCU
            clear hts
            go_upto_region 11 with fail
            go_cut [68] from 60 to 68 (fun v68 wx => v68 = .bool (f2 && decide (k2 < k3)) ∧ wx = wc)
            case first =>
              cases f2
              · go_wp2
                go_meet
                exact ⟨rfl, rfl⟩
              · go_wp2
                go_meet
                exact ⟨rfl, rfl⟩
            case rest =>
              obtain ⟨rfl, hwc⟩ := hcut
              subst hwc
              generalize hx3 : (f2 && decide (k2 < k3)) = x3 at *
              go_upto_if 68 with fail
              go_cut [] from 69 to 79 (fun wx => ∃ v us, Cu w wx gk gp k0 k1 k2 k3 f0 f1 f2 A v B hi hf us ∧ us = ts ++ (if x3 then [V.extract k2 k3] else []))
              case first =>
                cases x3
                · go_wp2
                  go_meet
                  exact ⟨_, _, unhide HCU, by simp⟩
                · have y1 : (0 : Int) ≤ (k2 : Int) := by omega
                  have y2 : (k2 : Int) ≤ (k3 : Int) := by omega
                  have y3 : (k3 : Int) ≤ (V.size : Int) := by omega
                  have hcu := unhide HCU
                  have LG : Hid (gp + 1 ≤ wc.heap.size) := cell_lt hcu.p.c0
                  have LZ : Hid (gp + 1 ≤ ((wc.alloc (.cells #[.string (V.extract k2 k3)] 9)).drew).heap.size) := Nat.le_trans (unhide LG) ((Gr.one wc _).drew).size
                  have G1 : Hid (Below wc.heap.size wc (wc.alloc (.cells #[.string (V.extract k2 k3)] 9)).drew) := ((Gr.one wc _).drew).below
                  have G2 : Hid (Below wc.heap.size wc (wc.drew.alloc (.cells #[.string (V.extract k2 k3)] 9))) := (((Gr.refl wc).drew).alloc _).below
                  have O1 : Hid ((wc.alloc (.cells #[.string (V.extract k2 k3)] 9)).drew.ownsRow (gp + 1) 9 1 v ts.length (ts.map Value.string)) := own_below hcu.o (unhide G1)
                  have O2 : Hid ((wc.drew.alloc (.cells #[.string (V.extract k2 k3)] 9)).ownsRow (gp + 1) 9 1 v ts.length (ts.map Value.string)) := own_below hcu.o (unhide G2)
                  have S1 : Hid (∀ j u, ([Value.string (V.extract k2 k3)])[j]? = some u → ((wc.alloc (.cells #[.string (V.extract k2 k3)] 9)).drew).cell? ((⟨wc.heap.size, 0, none⟩ : Addr).add j) = some u) := World.news_of_block (B := wc.heap.size) (cs := #[.string (V.extract k2 k3)]) (t := 9) (fr := (0, 0)) (heap_new wc _)
                  have S2 : Hid (∀ j u, ([Value.string (V.extract k2 k3)])[j]? = some u → (wc.drew.alloc (.cells #[.string (V.extract k2 k3)] 9)).cell? ((⟨wc.heap.size, 0, none⟩ : Addr).add j) = some u) := World.news_of_block (B := wc.heap.size) (cs := #[.string (V.extract k2 k3)]) (t := 9) (fr := (0, 0)) (heap_new wc.drew _)
                  have mm1 : ts.length + 1 ≤ maxLen := by unfold maxLen; omega
                  have mm2 : (ts.length + 1) * 16 ≤ 140737488355328 := by omega
                  have lq : gk < wc.heap.size := cell_lt q0
                  have lp : gp < wc.heap.size := cell_lt p0
                  clear hcu
                  go_upto_region 12 with fail
                  go_region_law (first
                    | (refine step_append_at _ (by rfl) _ _ _ (by rfl) (gp + 1) 9 i0 _ 1 16 Tryz.underlying27 hi0 hz0 hz1 hz2 rfl (by omega) _ ts.length _ (by rfl) (unhide O1) ⟨wc.heap.size, 0, none⟩ 1 1 [.string (V.extract k2 k3)] (by rfl) (by rfl) (unhide S1) (by simp [Value.oneCell']) mm1 mm2 (unhide LZ) ?_; intro v7 w7 hown7 hgrow7; have b7 : Below (gp + 1) wc w7 := ((unhide G1).mono (unhide LG)).trans (below_own hgrow7 (unhide LZ) (own_block (unhide O1))); have r1 : w7.cell? ⟨gp, 1, none⟩ = some v := ((b7.cell (p := ⟨gp, 1, none⟩) (Nat.lt_succ_self gp)).trans p1); have r2 : w7.frozen? ⟨gp, 1, none⟩ = false := ((b7.frozen (p := ⟨gp, 1, none⟩) (Nat.lt_succ_self gp)).trans g1); have HO7 := hide hown7; obtain ⟨a7, c7, hv7⟩ := own_shape hown7; subst hv7)
                    | (refine step_append_at _ (by rfl) _ _ _ (by rfl) (gp + 1) 9 i0 _ 1 16 Tryz.underlying27 hi0 hz0 hz1 hz2 rfl (by omega) _ ts.length _ (by rfl) (unhide O2) ⟨wc.heap.size, 0, none⟩ 1 1 [.string (V.extract k2 k3)] (by rfl) (by rfl) (unhide S2) (by simp [Value.oneCell']) mm1 mm2 (unhide LZ) ?_; intro v7 w7 hown7 hgrow7; have b7 : Below (gp + 1) wc w7 := ((unhide G2).mono (unhide LG)).trans (below_own hgrow7 (unhide LZ) (own_block (unhide O2))); have r1 : w7.cell? ⟨gp, 1, none⟩ = some v := ((b7.cell (p := ⟨gp, 1, none⟩) (Nat.lt_succ_self gp)).trans p1); have r2 : w7.frozen? ⟨gp, 1, none⟩ = false := ((b7.frozen (p := ⟨gp, 1, none⟩) (Nat.lt_succ_self gp)).trans g1); have HO7 := hide hown7; obtain ⟨a7, c7, hv7⟩ := own_shape hown7; subst hv7))
                  all_goals
                    have hown9 : w7.ownsRow (gp + 1) 9 1 (.slice a7 (ts.length + 1) c7) (ts ++ [V.extract k2 k3]).length ((ts ++ [V.extract k2 k3]).map Value.string) := by
                      have h := unhide HO7
                      rw [List.length_append, List.map_append]
                      exact h
                    have hN := (unhide HCU).grown b7 hown9
                    clear hown9 HO7
                    go_wp2_with fail
                    go_meet
                    exact ⟨_, _, hN, by simp⟩
              case rest =>
                obtain ⟨v2, us, hCU, hus⟩ := hcut
                clear e0 e1 e2 q0 q1 q2 q3 p0 p1 p2 p3 p4 g0 g1 g2 g3 g4 HCU hx3
                have HTX := own_txs hCU.o
                have hT := HTX
                have HP := hide hCU.p
                have t5 := hCU.b
                have HFIN : Hid (chk13 A B us hi hf = true → mat (bts V) (bts A) (bts B) (us.map bts) hi hf = true) := fun h => cut_plain hk01 hk12 hk23 hk3 (unhide HA) (unhide HB) (by rw [hus, unhide HTS]) h
                clear hus HTS HA HB hCU
                obtain ⟨p0, p1, p2, p3, p4, g0, g1, g2, g3, g4⟩ := unhide HP
                have hL5 := (unhide HL).keep t5
                have HC := hide (fun W hW => check_any A B v2 us hi hf W hW)
                have HAW : Hid (∀ W, Below w.heap.size w W → Calls Tryz.prog 6 #[] W fun e w' => e = .returned (.bool true) ∧ Below W.heap.size W w') := fun W hW => awake13 W ((unhide HL).keep hW)
                clear hT
                cases hc9 : chk13 A B us hi hf
                · have hci : chkI A B us hi hf = 2 := by unfold chkI; rw [hc9]; rfl
                  rw [hci] at HC
                  clear HFIN hci hc9
                  go_wp2_with (first
                    | (go_at_call 6; refine (unhide HAW _ t10).mono ?_; rintro e w11 ⟨rfl, b11⟩; have t11 := below_next13 t10 b11)
                    | (go_at_call 8; refine (unhide HC _ HTX).mono ?_; rintro e w10 ⟨rfl, b10⟩; have t10 := below_next13 t5 b10))
                  go_ret
                  exact ⟨rfl, t11⟩
                · have hci : chkI A B us hi hf = 0 := by unfold chkI; rw [hc9]; rfl
                  have HM : Hid (∀ W, Mx W → Txs W v2 us → Calls Tryz.prog 9 #[.string V, .agg #[.string A, v2, .string B, .bool hi, .bool hf]] W fun e w' => e = .returned (.bool true) ∧ Below W.heap.size W w') := fun W hm hW => by
                    have := match_any V A B v2 us hi hf W (by omega) (fun _ => ⟨by omega, hm⟩) hW
                    rwa [unhide HFIN hc9] at this
                  rw [hci] at HC
                  clear HFIN hci hc9
                  go_wp2_with (first
                    | (go_at_call 6; refine (unhide HAW _ t11).mono ?_; rintro e w12 ⟨rfl, b12⟩; have t12 := below_next13 t11 b12)
                    | (go_at_call 9; refine (unhide HM _ (hL5.m.keep b10) (HTX.below b10)).mono ?_; rintro e w11 ⟨rfl, b11⟩; have t11 := below_next13 t10 b11)
                    | (go_at_call 8; refine (unhide HC _ HTX).mono ?_; rintro e w10 ⟨rfl, b10⟩; have t10 := below_next13 t5 b10; obtain ⟨d0, d1, d2, d3, d4⟩ := kept13 b10 p0 p1 p2 p3 p4))
                  go_ret
                  exact ⟨rfl, t12⟩
theorem cut13_law (V : ByteArray) (a b c d : Int) (f0 f1 f2 : Bool) (w : World) (hL : L13 w) :
    Calls Tryz.prog 3 #[.string V, .agg #[.int .i64 a, .int .i64 b, .int .i64 c, .int .i64 d, .bool f0, .bool f1, .bool f2]] w fun e w' => e = .returned (.bool true) ∧ Below w.heap.size w w' := by
  by_cases h : 5000 < V.size
  · exact cut_out V a b c d f0 f1 f2 w hL h
  · exact cut_in V a b c d f0 f1 f2 w hL (by omega)
end Go.Proofs.YtddliikhjilngaaGreatDoor
