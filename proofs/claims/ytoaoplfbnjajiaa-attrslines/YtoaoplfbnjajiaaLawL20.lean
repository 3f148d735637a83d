/- The law AttrsLines of layer 20. -/
import Derived.Test.YtoaoplfbnjajiaaAw20
import Derived.Deep.RegionHeld3
namespace Go.Proofs.Ytoaoplfbnjajiaa
open Go.RowKit

/-- The rest of a row of texts. -/
theorem TsV.drop {w : World} {b off c : Nat} {L : List ByteArray} {k : Nat} (hk : k < L.length) (h1 : L.length ≤ c) (h2 : L.length ≤ 9223372036854775807) (h : ∀ j, j < L.length → w.cell? ⟨b, off + j, none⟩ = some (.string (L.getD j te))) : TsV w (.slice (some ⟨b, off + k, none⟩) (L.length - k) (c - k)) (L.drop k) := by
  refine ⟨_, c - k, by rw [List.length_drop], ⟨by rw [List.length_drop]; omega, by rw [List.length_drop]; omega⟩, fun _ => ⟨b, off + k, rfl, fun j hj => ?_⟩⟩
  rw [List.length_drop] at hj
  have := h (k + j) (by omega)
  rw [← Nat.add_assoc] at this
  rw [this]
  simp [List.getD]
set_option maxHeartbeats 3200000 in
theorem lines20_law (v : Value) (l : List Ty) (n : ByteArray) (w : World) (hL : Ly w) (hV : TysV w v l) : Calls Try.prog 5 #[v, .string n] w fun e w' => e = .returned (.bool true) ∧ Below w.heap.size w w' := by
  have mx : Try.prog.follows .mixedOrders = true := by kernel_rfl
  have CF := hide (few20_any v l w hV)
  have CA := hide awake20
  have HL := hide hL
  have HV := hide hV
  obtain ⟨va, vc, rfl⟩ := hV.shape
  clear hL hV
  cases hf : fewT l <;> rw [hf] at CF
  · clear hf HV
    go_enter Try.func5, Try.ntmps5
    go_wp2_with (first
      | (go_at_call 8; refine (unhide CA _ (unhide HL)).mono ?_; rintro e w5 ⟨rfl, b5⟩)
      | (go_at_call 7; refine (unhide CF).mono ?_; rintro e w1 ⟨rfl, rfl⟩))
    go_ret
    exact ⟨rfl, b5⟩
  have C1 := hide (aline_any _ l n w (unhide HL) hf (unhide HV))
  have C2 := hide (fun W hb => afind_any _ l n W ((unhide HL).keep hb) hf ((unhide HV).below hb))
  have C3 := hide (fun x W hb => afind_any _ l x W ((unhide HL).keep hb) hf ((unhide HV).below hb))
  have C4 := hide (fun x W hb => aline_any _ l x W ((unhide HL).keep hb) hf ((unhide HV).below hb))
  have hlen := line_len l n
  have HFL := hide (find_line (l := l) n)
  unfold aggV at C2 C3
  clear hf HV
  cases hx : findT l n with
  | none =>
    rw [hx] at HFL
    have h0 : (lineT l n).length = 0 := by
      have := of_decide_eq_false (unhide HFL).symm
      omega
    rw [(fnd_not hx).1, (fnd_not hx).2] at C2
    clear hx HFL C3 C4 hlen
    generalize lineT l n = L at *
    go_enter Try.func5, Try.ntmps5
    go_wp2_with (first
      | (go_at_call 9; refine (unhide C2 _ t1).mono ?_; rintro e w2 ⟨rfl, b2⟩; have t2 := t1.trans (b2.mono t1.size); have t2x := t2.alloc t2.size (.cells #[.string ty0.nam, .string ty0.abv, .int .i64 ty0.syn, .int .i64 ty0.rul, .bool ty0.sgl, .bool ty0.cls] 26))
      | (go_at_call 19; refine (unhide C1).mono ?_; rintro e w1 ⟨u1, rfl, hu1, t1⟩; obtain ⟨ua, uc, rfl, _⟩ := hu1; rw [h0])
      | (go_at_call 7; refine (unhide CF).mono ?_; rintro e w0 ⟨rfl, rfl⟩))
    refine wp_loop_rounds 1 ?_
    rw [rounds_succ]
    go_wp2_with (go_at_call 8; refine (unhide CA _ ((unhide HL).keep t2x)).mono ?_; rintro e w3 ⟨rfl, b3⟩; have t3 := t2x.trans (b3.mono t2x.size))
    go_ret
    exact ⟨rfl, t3⟩
  | some a =>
    have HLN := hide (fun i hi => lines20 hx i hi)
    have HAP := hide (fun i k hi hk => lines20_apart hx i k hi hk)
    have h0 : 0 < (lineT l n).length := by
      rw [hx] at HFL
      exact of_decide_eq_true (unhide HFL).symm
    have HHD := hide (line_head hx)
    rw [(fnd_yes hx).1, (fnd_yes hx).2] at C2
    clear hx HFL
    generalize lineT l n = L at *
    have zi : (0 : Int) < (L.length : Int) := by omega
    have zd1 : decide ((0 : Int) < (L.length : Int)) = true := decide_eq_true zi
    have zd2 : decide (0 < L.length) = true := decide_eq_true h0
    have hq0 := txt_beq (L.getD 0 te) n
    rw [unhide HHD, decide_eq_true rfl] at hq0
    have hn0 : (n.toList != n.toList) = false := by unfold bne; rw [hq0]; rfl
    have CS : Hid (∀ (K : List ByteArray) (u1 u2 : Value) (W : World), TsV W u1 K → TsV W u2 K → Calls Try.prog 18 #[u1, u2] W fun e w' => e = .returned (.bool true) ∧ Below W.heap.size W w') := fun K u1 u2 W h1 h2 => by
      have := rsm_any u1 u2 K K W h1 h2
      rwa [decide_eq_true (rfl : K = K)] at this
    go_enter Try.func5, Try.ntmps5
    go_wp2_with (first
      | (go_at_call 9; refine (unhide C2 _ t1).mono ?_; rintro e w2 ⟨rfl, b2⟩; have t2 := t1.trans (b2.mono t1.size); have t2x := t2.alloc t2.size (.cells #[.string a.nam, .string a.abv, .int .i64 a.syn, .int .i64 a.rul, .bool a.sgl, .bool a.cls] 26); have X2 : Hid (Bt w2.heap.size a (w2.alloc (.cells #[.string a.nam, .string a.abv, .int .i64 a.syn, .int .i64 a.rul, .bool a.sgl, .bool a.cls] 26))) := (heap_new w2 _); have bx2 := b2.trans ((Below.one w2 (.cells #[.string a.nam, .string a.abv, .int .i64 a.syn, .int .i64 a.rul, .bool a.sgl, .bool a.cls] 26)).mono b2.size); have HM2 : Hid (∀ j, j < L.length → (w2.alloc (.cells #[.string a.nam, .string a.abv, .int .i64 a.syn, .int .i64 a.rul, .bool a.sgl, .bool a.cls] 26)).cell? ⟨g, off + j, none⟩ = some (.string (L.getD j te))) := (fun j hj => (bx2.cell (cell_lt (unhide HCC j hj))).trans (unhide HCC j hj)); have q0 := unhide HM2 0 h0; rw [Nat.add_zero, unhide HHD] at q0; clear bx2)
      | (go_at_call 19; refine (unhide C1).mono ?_; rintro e w1 ⟨u1, rfl, hu1, t1⟩; obtain ⟨ua, uc, rfl, hcap, hcu⟩ := hu1; obtain ⟨g, off, rfl, hcc⟩ := hcu h0; have HCC := hide hcc; have HCAP := hide hcap; clear hcc hcu hcap)
      | (go_at_call 7; refine (unhide CF).mono ?_; rintro e w0 ⟨rfl, rfl⟩))
    go_loopw [8] (fun i wr => ∃ k : Nat, k ≤ L.length ∧ i = .int .i64 (k : Int) ∧ Hid (∀ j, j < L.length → wr.cell? ⟨g, off + j, none⟩ = some (.string (L.getD j te))) ∧ Hid (Bt w2.heap.size a wr) ∧ Below w.heap.size w wr) (fun i _ => L.length - (intOf i).toNat)
    case atStart => exact ⟨0, Nat.zero_le _, rfl, unhide HM2, unhide X2, t2x⟩
    case round =>
      clear C1 C2 q0 HM2 X2 HCC
      obtain ⟨k, hk, rfl, HM, HX, hb⟩ := hrel
      by_cases hlt : k < L.length
      · have hzl : (k : Int) < (L.length : Int) := by omega
        have hz0 : (0 : Int) ≤ (k : Int) := by omega
        have q1 := unhide HM k hlt
        obtain ⟨b, hb1, hs, hln⟩ := unhide HLN k hlt
        have CX := hide (unhide C3 (L.getD k te) wr hb)
        have CY := hide (unhide C4 (L.getD k te))
        rw [(fnd_yes hb1).1, (fnd_yes hb1).2] at CX
        rw [hln] at CY
        have HPA : Hid (∀ j, j < k → L.getD j te ≠ L.getD k te) := fun j hj => unhide HAP k j hlt hj
        clear hb1 hln C3 C4 HLN HAP
        obtain ⟨bn, ba, bs, br, bg, bc⟩ := b
        simp only at hs
        subst hs
        dsimp only at CX
        generalize hxk : L.getD k te = x at *
        have HXK := hide hxk
        clear hxk
        go_wp2_with (go_at_call 9; refine (unhide CX).mono ?_; rintro e w3 ⟨rfl, b3⟩; have t3 := hb.trans (b3.mono hb.size); have t3x := t3.alloc t3.size (.cells #[.string bn, .string ba, .int .i64 a.syn, .int .i64 br, .bool bg, .bool bc] 26); have bx3 := b3.trans ((Below.one w3 (.cells #[.string bn, .string ba, .int .i64 a.syn, .int .i64 br, .bool bg, .bool bc] 26)).mono b3.size); have X3 := hide ((unhide HX).keep bx3); have Y3 : Hid (Bt w3.heap.size ⟨bn, ba, a.syn, br, bg, bc⟩ (w3.alloc (.cells #[.string bn, .string ba, .int .i64 a.syn, .int .i64 br, .bool bg, .bool bc] 26))) := (heap_new w3 _); have c6 := (unhide X3).cells.2.2.1; have c9 := (unhide Y3).cells.2.2.1; rw [Nat.zero_add] at c6 c9; dsimp only at c9; have HM3 : Hid (∀ j, j < L.length → (w3.alloc (.cells #[.string bn, .string ba, .int .i64 a.syn, .int .i64 br, .bool bg, .bool bc] 26)).cell? ⟨g, off + j, none⟩ = some (.string (L.getD j te))) := (fun j hj => (bx3.cell (cell_lt (unhide HM j hj))).trans (unhide HM j hj)); have q3 := (bx3.cell (cell_lt q1)).trans q1)
        have t3d := t3x.drew
        have HM3d : Hid (∀ j, j < L.length → (w3.alloc (.cells #[.string bn, .string ba, .int .i64 a.syn, .int .i64 br, .bool bg, .bool bc] 26)).drew.cell? ⟨g, off + j, none⟩ = some (.string (L.getD j te))) := unhide HM3
        have hune : ¬ uc = k := by have := (unhide HCAP).1; omega
        go_region_held3 (fun W => W.cell? ⟨w3.heap.size, 2, none⟩ = some (.int .i64 a.syn) ∧ W.cell? ⟨w2.heap.size, 2, none⟩ = some (.int .i64 a.syn) ∧ W.cell? ⟨g, off + k, none⟩ = some (.string x)) (first | exact ⟨c9, c6, q3⟩ | exact ⟨d9, d6, p4⟩ | exact ⟨e9, e6, p5⟩ | assumption | go_keep)
          (first
            | (go_at_call 18; refine (unhide CS (L.drop k) _ _ _ (unhide U4) (unhide D4)).mono ?_; rintro r w5 ⟨rfl, b5⟩; have e9 := (b5.cell (cell_lt d9)).trans d9; have e6 := (b5.cell (cell_lt d6)).trans d6; have p5 := (b5.cell (cell_lt p4)).trans p4; have t5 := t4.trans (b5.mono t4.size); have HM5 : Hid (∀ j, j < L.length → w5.cell? ⟨g, off + j, none⟩ = some (.string (L.getD j te))) := (fun j hj => (b5.cell (cell_lt (unhide HM4 j hj))).trans (unhide HM4 j hj)); have X5 := hide ((unhide X4).keep b5); try dsimp only)
            | (go_at_call 19; refine (unhide CY _ t3d).mono ?_; rintro r w4 ⟨u4, rfl, hu4, b4⟩; obtain ⟨a4, c4, hv4, hr4⟩ := hu4; subst hv4; have U4 : Hid (TsV w4 (.slice a4 (L.length - k) c4) (L.drop k)) := (⟨a4, c4, (by rw [List.length_drop]), hr4⟩ : TsV w4 (.slice a4 (L.length - k) c4) (L.drop k)); clear hr4; have d9 := (b4.cell (cell_lt c9)).trans c9; have d6 := (b4.cell (cell_lt c6)).trans c6; have p4 := (b4.cell (cell_lt q3)).trans q3; have t4 := t3d.trans (b4.mono t3d.size); have HM4 : Hid (∀ j, j < L.length → w4.cell? ⟨g, off + j, none⟩ = some (.string (L.getD j te))) := (fun j hj => (b4.cell (cell_lt (unhide HM3d j hj))).trans (unhide HM3d j hj)); have D4 := hide (TsV.drop hlt (unhide HCAP).1 (unhide HCAP).2 (unhide HM4)); have X4 := hide (Bt.keep (w := (w3.alloc (.cells #[.string bn, .string ba, .int .i64 a.syn, .int .i64 br, .bool bg, .bool bc] 26)).drew) (unhide X3) b4); try dsimp only))
        clear c6 c9 q3 d9 d6 p4 e9 e6 p5 q1 X3 Y3 HM3 HM3d U4 D4 HM4 X4 CX CY HX HM CS b3 b4 b5 bx3 t3 t3x t3d t4
        go_wp2
        go_loopw [11] (fun i wr => ∃ j : Nat, j ≤ k ∧ i = .int .i64 (j : Int) ∧ Below w5.heap.size w5 wr) (fun i _ => k - (intOf i).toNat)
        case atStart => exact ⟨0, Nat.zero_le _, rfl, Below.refl _ _⟩
        case round =>
          obtain ⟨j, hj, rfl, bj⟩ := hrel
          by_cases hjk : j < k
          · have hjl : (j : Int) < (k : Int) := by omega
            have hj0 : (0 : Int) ≤ (j : Int) := by omega
            have hj1 : (j : Int) < (L.length : Int) := by omega
            have r1 := (bj.cell (cell_lt (unhide HM5 j (by omega)))).trans (unhide HM5 j (by omega))
            have r2 := (bj.cell (cell_lt (unhide HM5 k hlt))).trans (unhide HM5 k hlt)
            have hq := txt_beq (L.getD j te) x
            rw [decide_eq_false (unhide HPA j hjk)] at hq
            rw [unhide HXK] at r2
            have r3 := cell_bb r1
            have r4 := cell_bb r2
            clear HM5 HPA HXK X5
            generalize L.getD j te = y at *
            go_wp2
            refine wp_region_below (by first | exact mx | assumption) (by kernel_rfl) ?_
            intro nebb
            repeat (go_big_quiet_step (fail))
            refine wpQuiet_nil ?_
            intro _ hw'
            obtain ⟨pq, hw''⟩ := hw'
            subst hw''
            have bq := pq.b
            generalize pq.W = wq at *
            go_wp2
            go_roundw
            case rel => exact ⟨j + 1, by omega, by go_num, bj.trans (bq.mono bj.size)⟩
            case measure => simp [intOf]; omega
          · have hjl : ¬ (j : Int) < (k : Int) := by omega
            have tj := t5.trans (bj.mono t5.size)
            have XJ := hide ((unhide X5).keep bj)
            have HMJ : Hid (∀ i, i < L.length → wr.cell? ⟨g, off + i, none⟩ = some (.string (L.getD i te))) := fun i hi => (bj.cell (cell_lt (unhide HM5 i hi))).trans (unhide HM5 i hi)
            go_wp2
            go_roundw
            case rel => exact ⟨k + 1, by omega, by go_num, unhide HMJ, unhide XJ, tj⟩
            case measure => simp [intOf]; omega
      · have hzl : ¬ (k : Int) < (L.length : Int) := by omega
        clear HM HX C3 C4 HLN HAP CS
        go_wp2_with (go_at_call 8; refine (unhide CA _ ((unhide HL).keep hb)).mono ?_; rintro e w5 ⟨rfl, b5⟩; have t5 := hb.trans (b5.mono hb.size))
        go_ret
        exact ⟨rfl, t5⟩
end Go.Proofs.Ytoaoplfbnjajiaa
