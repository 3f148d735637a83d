/- The document's Build, done. -/
import Derived.Test.YtnlkefdicpeemaaStepAt
namespace Go.Proofs.Ytnlkefdicpeemaa
open Go.RowKit

set_option maxRecDepth 8000 in
set_option maxHeartbeats 6400000 in
theorem rbuild_some (l : List Sp) (a : Option Addr) (c : Nat) (w : World) (hl : l.length ≤ 200) (hm : allMay l = true)
    (hc : 0 < l.length → ∃ b off, a = some ⟨b, off, none⟩ ∧ ∀ j, j < l.length → w.cell? ⟨b, off + j * 3, none⟩ = some (.int .i32 (l.getD j sp0).f) ∧ w.cell? ⟨b, off + j * 3 + 1, none⟩ = some (.int .i32 (l.getD j sp0).t) ∧ w.cell? ⟨b, off + j * 3 + 2, none⟩ = some (.int .i64 (l.getD j sp0).h)) :
    Calls Try.prog 16 #[.slice a l.length c] w fun e w' => ∃ (u : Value) (t : List Sp), e = .returned (.tuple #[u, .int .i64 0]) ∧ Hid (isTb t ∧ ∀ r, fnd t r = lastV l r) ∧ Hid (Tab w' u t) ∧ Below w.heap.size w w' := by
  have mx := mixed
  obtain ⟨i0, hi, hz0', hz1, hz2⟩ := info_parts span_info
  have HM := hide (fun k hk => (mayS_iff _).1 (allMay_at hm k hk))
  have hmm : ∀ s, s ∈ l → 0 ≤ s.f ∧ s.t ≤ 1114111 := fun s hs => by
    obtain ⟨j, hj, rfl⟩ := mem_getD l s hs
    have := unhide HM j hj
    omega
  have HMM := hide hmm
  have HMY := hide (fun k hk => allMay_at hm k hk)
  have HC := hide hc
  clear hc hm hmm
  have hln : ¬ (200 : Int) < (l.length : Int) := by omega
  go_enter Try.func16, Try.ntmps16
  go_wp2
  go_loopw [4] (fun x wr => ∃ k : Nat, k ≤ l.length ∧ x = .int .i64 k ∧ Gr w wr) (fun x _ => l.length - (intOf x).toNat)
  case atStart => exact ⟨0, Nat.zero_le _, rfl, Gr.refl _⟩
  case round =>
    obtain ⟨k, hk, rfl, hg⟩ := hrel
    by_cases hlt : k < l.length
    · obtain ⟨b, o, rfl, hcc⟩ := unhide HC (by omega)
      have hzl : (k : Int) < (l.length : Int) := by omega
      have hz0 : (0 : Int) ≤ (k : Int) := by omega
      obtain ⟨g1, g2, g3⟩ := hcc k hlt
      replace g1 := hg.cell g1
      replace g2 := hg.cell g2
      replace g3 := hg.cell g3
      have hmk := unhide HMY k hlt
      clear hcc
      generalize l.getD k sp0 = s at *
      obtain ⟨f, t, h⟩ := s
      dsimp only at g1 g2 g3
      have hmb := fun w => may_any f t h w
      rw [hmk] at hmb
      have HMB := hide hmb
      clear hmb hmk
      go_wp2_with (go_at_call 20; refine (unhide HMB _).mono ?_; rintro e w' ⟨rfl, hg2⟩)
      go_roundw
      case rel => exact ⟨k + 1, by omega, by go_num, hg.trans hg2⟩
      case measure => simp [intOf]; omega
    · have hzl : ¬ (k : Int) < (l.length : Int) := by omega
      obtain ⟨w1, hw1⟩ : ∃ w1, w1 = wr := ⟨_, rfl⟩
      subst hw1
      obtain ⟨B, hB⟩ : ∃ B, B = w1.heap.size := ⟨_, rfl⟩
      have HB := hide hB
      clear hB
      have HN := hide (fun (x : Int) (W : World) (h0 : 0 ≤ x) (h1 : x < 1114112) (hW : Below B w1 W) => next_some l x a c W hl h0 h1 (unhide HM) (fun h9 => by
        obtain ⟨b, o, e, hcc⟩ := unhide HC h9
        refine ⟨b, o, e, fun j hj => ?_⟩
        obtain ⟨g1, g2, g3⟩ := hcc j hj
        exact ⟨(hW.cell (p := ⟨b, o + j * 3, none⟩) (by rw [unhide HB]; exact cell_lt (hg.cell g1))).trans (hg.cell g1), (hW.cell (p := ⟨b, o + j * 3 + 1, none⟩) (by rw [unhide HB]; exact cell_lt (hg.cell g2))).trans (hg.cell g2), (hW.cell (p := ⟨b, o + j * 3 + 2, none⟩) (by rw [unhide HB]; exact cell_lt (hg.cell g3))).trans (hg.cell g3)⟩))
      have HL := hide (fun (x : Int) (W : World) (hW : Below B w1 W) => rlast_some l x a c W hl (fun h9 => by
        obtain ⟨b, o, e, hcc⟩ := unhide HC h9
        refine ⟨b, o, e, fun j hj => ?_⟩
        obtain ⟨g1, g2, g3⟩ := hcc j hj
        exact ⟨(hW.cell (p := ⟨b, o + j * 3, none⟩) (by rw [unhide HB]; exact cell_lt (hg.cell g1))).trans (hg.cell g1), (hW.cell (p := ⟨b, o + j * 3 + 1, none⟩) (by rw [unhide HB]; exact cell_lt (hg.cell g2))).trans (hg.cell g2), (hW.cell (p := ⟨b, o + j * 3 + 2, none⟩) (by rw [unhide HB]; exact cell_lt (hg.cell g3))).trans (hg.cell g3)⟩))
      clear hk hlt HC HMY
      go_wp2
      go_loopw [5, 6] (fun s5 s6 wr => ∃ (x : Int) (T : List Sp), s6 = .int .i32 x ∧ 0 ≤ x ∧ x ≤ 1114112 ∧ (T.length : Int) ≤ x ∧ wr.ownsRow B 37 3 s5 T.length (spcs T) ∧ Below B w1 wr ∧ Hid (Rb l x T)) (fun _ y _ => (1114112 - intOf y).toNat)
      case atStart => exact ⟨0, [], rfl, by omega, by omega, by simp, ⟨rfl, .inl ⟨rfl, rfl⟩⟩, Below.refl _ _, hide (Rb.start fun s hs => (unhide HMM s hs).1)⟩
      case round =>
        obtain ⟨x, T, rfl, hx0, hx1, hTx, hown, hb, RB⟩ := hrel
        by_cases hlt : x < 1114112
        · have hsB : B ≤ wr.heap.size := by rw [unhide HB]; exact hb.size
          have H1 := hide (unhide HN x wr hx0 hlt hb)
          have H2 := hide (fun W (g : Gr wr W) => unhide HL x W (hb.trans (g.below.mono hsB)))
          obtain ⟨v, hv⟩ : ∃ v, lastV l x = v := ⟨_, rfl⟩
          rw [hv] at H2
          have HV := hide hv
          clear hv
          have hm1 : T.length + 1 ≤ maxLen := by unfold maxLen; omega
          have hm2 : (T.length + 1) * 16 ≤ 140737488355328 := by omega
          have k3 : IntKind.i32.wrap (x - 1) = x - 1 := by simp [IntKind.wrap, IntKind.bits, IntKind.signed]; omega
          obtain ⟨sa, sc, hsv⟩ : ∃ sa sc, u5 = Value.slice sa T.length sc := by
            rcases hown.2 with ⟨hv, h0⟩ | ⟨g', cap', cur, hv, _⟩
            · exact ⟨none, 0, by rw [hv, h0]⟩
            · exact ⟨_, cap', hv⟩
          subst hsv
          by_cases hv0 : v = 0
          · subst hv0
            go_wp2_with (first
              | (go_at_call 27; refine (unhide H1).mono ?_; rintro e w2 ⟨b, rfl, NX, g2⟩)
              | (go_at_call 28; refine (unhide H2 _ g2).mono ?_; rintro e w3 ⟨rfl, g3⟩; have g23 := g2.trans g3))
            have hlo := (unhide NX).lo
            have hhi := (unhide NX).hi
            go_roundw
            case rel => exact ⟨b, T, rfl, by omega, hhi, by omega, own_gr3 hown g23, hb.trans (g23.below.mono hsB), hide ((unhide RB).skip (unhide NX) (unhide HV))⟩
            case measure => simp [intOf]; omega
          · have hvz : (v == 0) = false := by simpa using hv0
            by_cases hn0 : T.length = 0
            · have HT0 := hide (List.length_eq_zero_iff.1 hn0)
              have hzz : ¬ (0 : Int) < (T.length : Int) := by omega
              clear hn0
              go_wp2_with (first
                | (go_at_call 27; refine (unhide H1).mono ?_; rintro e w2 ⟨b, rfl, NX, g2⟩; have hlo := (unhide NX).lo; have hhi := (unhide NX).hi; have k4 : IntKind.i32.wrap (b - 1) = b - 1 := (by simp [IntKind.wrap, IntKind.bits, IntKind.signed]; omega))
                | (go_at_call 28; refine (unhide H2 _ g2).mono ?_; rintro e w3 ⟨rfl, g3⟩; have g23 := g2.trans g3; have hown3 := own_gr3 hown g23; have hb3 := hb.trans (g23.below.mono hsB); have hs3 := g23.size)
                | (at_builtin; refine wpList_append_lies _ rfl _ _ 22 rfl B 37 i0 _ 3 16 Try.underlying22 hi hz0' hz1 hz2 rfl (by omega) _ _ _ rfl (hown3.alloc _) ⟨w3.heap.size, 0, none⟩ 1 1 [.int .i32 x, .int .i32 (b - 1), .int .i64 v] rfl rfl (World.news_of_block (cs := #[.int .i32 x, .int .i32 (b - 1), .int .i64 v]) (t := 37) (fr := (0, 0)) (heap_new w3 _)) (by simp [Value.oneCell']) (by omega) hm1 hm2 (by simp; omega) (w3.heap.size + 1) (by simp) ?_; intro g9 cap9 w9 hown9 hgrow9 hat9 hlt9))
              have HP9 : Hid (layL T ⟨x, b - 1, v⟩ = T ++ [⟨x, b - 1, v⟩]) := by show _ = _; rw [unhide HT0]; rfl
              have hln9 : (T ++ [(⟨x, b - 1, v⟩ : Sp)]).length = T.length + 1 := by simp
              go_roundw
              case rel =>
                refine ⟨b, T ++ [⟨x, b - 1, v⟩], rfl, by omega, hhi, by rw [hln9]; push_cast; omega, ?_, (hb3.alloc (by omega) _).trans (below_own hgrow9 (by simp; omega) (own_block hown3)), ?_⟩
                · rw [hln9, spcs_append, spcs_one]; exact hown9
                · have h9 := (unhide RB).lay (unhide NX) (by rw [unhide HV]; exact hv0)
                  rw [unhide HV, unhide HP9] at h9
                  exact h9
              case measure => simp [intOf]; omega
            · obtain ⟨g, cap, hgv⟩ : ∃ g cap, Value.slice sa T.length sc = Value.slice (some ⟨g, 0, none⟩) T.length cap := by
                rcases hown.2 with ⟨_, h0⟩ | ⟨g', cap', cur, hv, _⟩
                · omega
                · exact ⟨g', cap', hv⟩
              obtain ⟨rfl, rfl⟩ : sa = some ⟨g, 0, none⟩ ∧ sc = cap := by cases hgv; exact ⟨rfl, rfl⟩
              clear hgv
              have hnz : (0 : Int) < (T.length : Int) := by omega
              have q1 : IntKind.i64.wrap ((T.length : Int) - 1) = (T.length : Int) - 1 := by rw [IntKind.wrap_i64]; omega
              have q2 : ((T.length : Int) - 1).toNat = T.length - 1 := by omega
              have q3 : (0 : Int) ≤ (T.length : Int) - 1 := by omega
              have q4 : (T.length : Int) - 1 < (T.length : Int) := by omega
              obtain ⟨p1, p2, p3⟩ := Ow.cells (l := T) (B := B) hown (k := T.length - 1) (by omega)
              have HPU := hide (fun s => layL_push T s (by omega))
              have HIN := hide (fun s => layL_into T s (by omega))
              generalize hpp : T.getD (T.length - 1) sp0 = p at *
              obtain ⟨pf, pt, ph⟩ := p
              have HPP := hide hpp
              clear hpp
              dsimp only at p1 p2 p3
              obtain ⟨n1, hn1⟩ : ∃ n1, n1 = T.length - 1 := ⟨_, rfl⟩
              rw [← hn1] at p1 p2 p3 q2
              have HN1 := hide hn1
              clear hn1
              by_cases hph : ph = v
              · by_cases hpt : pt = x - 1
                · subst hph
                  go_wp2_with (first
                    | (go_at_call 27; refine (unhide H1).mono ?_; rintro e w2 ⟨b, rfl, NX, g2⟩; have hlo := (unhide NX).lo; have hhi := (unhide NX).hi; have k4 : IntKind.i32.wrap (b - 1) = b - 1 := (by simp [IntKind.wrap, IntKind.bits, IntKind.signed]; omega))
                    | (go_at_call 28; refine (unhide H2 _ g2).mono ?_; rintro e w3 ⟨rfl, g3⟩; have g23 := g2.trans g3; have hown3 := own_gr3 hown g23; have hb3 := hb.trans (g23.below.mono hsB); have hs3 := g23.size; replace p1 := g23.cell p1; replace p2 := g23.cell p2; replace p3 := g23.cell p3))
                  have hn1 := unhide HN1
                  have hlen9 : (spcs T.dropLast).length = n1 * 3 := by rw [spcs_length, List.length_dropLast]; omega
                  have hT9 : T = T.dropLast ++ [⟨pf, pt, ph⟩] := by
                    have h8 := unhide HPP
                    have hne : T ≠ [] := by intro e; rw [e] at hn0; simp at hn0
                    have h7 := (List.dropLast_concat_getLast hne).symm
                    have h6 : T.getLast hne = ⟨pf, pt, ph⟩ := by rw [← h8, List.getLast_eq_getElem]; simp [List.getD, show T.length - 1 < T.length by omega]
                    rw [h6] at h7; exact h7
                  have HT9 := hide hT9
                  clear hT9 hn1
                  have HNEW : Hid (∀ (W : World), Gr w3 W → ∀ j u, (spcs T.dropLast)[j]? = some u → W.cell? ((⟨g, 0, none⟩ : Addr).add j) = some u) := fun W gg j u hu => by
                    refine World.ownsRow.cells (own_gr3 hown3 gg) (g := g) rfl j u ?_
                    have h5 := (List.getElem?_eq_some_iff.1 hu).1
                    rw [unhide HT9, spcs_append, List.getElem?_append_left h5]
                    exact hu
                  have hgl : g < w3.heap.size := cell_lt p1
                  have hbw : B ≤ w3.heap.size := by omega
                  have CL := hide (fun W (gg : Gr w3 W) => gg.cell p1)
                  have G1 : Hid (Gr w3 (w3.drew.alloc (.cells #[] 37))) := ((Gr.refl _).drewN 1).alloc _
                  have G2 : Hid (Gr w3 ((w3.alloc (.cells #[] 37)).alloc (.cells #[.int .i32 pf, .int .i32 (b - 1), .int .i64 ph] 37)).drew) := (((Gr.refl _).alloc _).alloc _).drew
                  have G3 : Hid (Gr w3 ((w3.alloc (.cells #[.int .i32 pf, .int .i32 (b - 1), .int .i64 ph] 37)).alloc (.cells #[] 37)).drew) := (((Gr.refl _).alloc _).alloc _).drew
                  have O1 : Hid ((w3.drew.alloc (.cells #[] 37)).ownsRow w3.heap.size 37 3 (.slice (some ⟨w3.heap.size, 0, none⟩) 0 0) 0 []) := own_empty w3.drew _ (Nat.le_refl _)
                  have O2 : Hid (((w3.alloc (.cells #[] 37)).alloc (.cells #[.int .i32 pf, .int .i32 (b - 1), .int .i64 ph] 37)).drew.ownsRow w3.heap.size 37 3 (.slice (some ⟨w3.heap.size, 0, none⟩) 0 0) 0 []) := own_gr3 (own_empty w3 _ (Nat.le_refl _)) ((Gr.one _ _).drew)
                  have O3 : Hid (((w3.alloc (.cells #[.int .i32 pf, .int .i32 (b - 1), .int .i64 ph] 37)).alloc (.cells #[] 37)).drew.ownsRow w3.heap.size 37 3 (.slice (some ⟨w3.heap.size + 1, 0, none⟩) 0 0) 0 []) := by
                    have h9 := own_gr3 (own_empty (w3.alloc (.cells #[.int .i32 pf, .int .i32 (b - 1), .int .i64 ph] 37)) w3.heap.size (by simp)) ((Gr.refl _).drew)
                    rw [World.size_alloc] at h9
                    exact h9
                  have N2 : Hid (((w3.alloc (.cells #[] 37)).alloc (.cells #[.int .i32 pf, .int .i32 (b - 1), .int .i64 ph] 37)).drew.heap[w3.heap.size + 1]? = some (.cells #[.int .i32 pf, .int .i32 (b - 1), .int .i64 ph] 37)) := by
                    have h9 := heap_new (w3.alloc (.cells #[] 37)) (.cells #[.int .i32 pf, .int .i32 (b - 1), .int .i64 ph] 37)
                    rw [World.size_alloc] at h9; exact h9
                  have N3 : Hid (((w3.alloc (.cells #[.int .i32 pf, .int .i32 (b - 1), .int .i64 ph] 37)).alloc (.cells #[] 37)).drew.heap[w3.heap.size]? = some (.cells #[.int .i32 pf, .int .i32 (b - 1), .int .i64 ph] 37)) :=
                    ((Gr.one (w3.alloc (.cells #[.int .i32 pf, .int .i32 (b - 1), .int .i64 ph] 37)) (.cells #[] 37)).below.block _ (by simp)).trans (heap_new w3 _)
                  have hcap9 : T.length ≤ sc := by
                    rcases hown3.2 with ⟨hv9, _⟩ | ⟨g9, c9, cur9, hv9, _, _, hle9, _⟩
                    · cases hv9
                    · cases hv9; exact hle9
                  have hn1' := unhide HN1
                  have q1' : IntKind.i64.wrap ((T.length : Int) - 1) = (n1 : Int) := by rw [IntKind.wrap_i64]; omega
                  have z1 : (0 : Int) ≤ (n1 : Int) := by omega
                  have z2 : (n1 : Int) ≤ (sc : Int) := by omega
                  have z3 : (n1 : Int) < (T.length : Int) := by omega
                  have z4 : (n1 : Int) ≤ (T.length : Int) := by omega
                  have z5 : n1 ≤ sc := by omega
                  clear q1 q2 q3 q4 hn1'
                  have mm1 : 0 + n1 ≤ maxLen := by unfold maxLen; omega
                  have mm2 : (0 + n1) * 16 ≤ 140737488355328 := by omega
                  have mm3 : 0 + n1 + 1 ≤ maxLen := by unfold maxLen; omega
                  have mm4 : (0 + n1 + 1) * 16 ≤ 140737488355328 := by omega
                  go_region_held3 (fun W => W.cell? ⟨g, n1 * 3, none⟩ = some (.int .i32 pf)) (first | assumption | go_keep)
                      (first
                        | (refine step_append_at _ (by rfl) _ _ _ (by rfl) w3.heap.size 37 i0 _ 3 16 Try.underlying22 hi hz0' hz1 hz2 rfl (by omega) _ 0 [] (by rfl) (unhide O1) ⟨g, 0, none⟩ n1 sc (spcs T.dropLast) (by rfl) hlen9 (unhide HNEW _ (unhide G1)) (spcs_oneCell9 _) mm1 mm2 (unhide G1).size ?_; intro v5 w5 hown5 hgrow5; have hs5 : w3.heap.size ≤ w5.heap.size := Nat.le_trans (unhide G1).size hgrow5.size; have hg5 : v5.ownBlock ≠ some g := (fun h9 => absurd (own_block hown5 g h9) (by omega)); have hk5 : w5.cell? ⟨g, n1 * 3, none⟩ = some (.int .i32 pf) := ((hgrow5.cell_far ⟨g, n1 * 3, none⟩ (Nat.lt_of_lt_of_le hgl (unhide G1).size) (by simp [Value.ownBlock]; omega)).trans (unhide CL _ (unhide G1))); have hb5 : Below B w1 w5 := ((hb3.trans ((unhide G1).below.mono hbw)).trans (below_own hgrow5 (Nat.le_trans hbw (unhide G1).size) (fun g9 h9 => Nat.le_trans hbw (own_block (unhide O1) g9 h9)))))
                        | (refine step_append_at _ (by rfl) _ _ _ (by rfl) w3.heap.size 37 i0 _ 3 16 Try.underlying22 hi hz0' hz1 hz2 rfl (by omega) _ 0 [] (by rfl) (unhide O2) ⟨g, 0, none⟩ n1 sc (spcs T.dropLast) (by rfl) hlen9 (unhide HNEW _ (unhide G2)) (spcs_oneCell9 _) mm1 mm2 (unhide G2).size ?_; intro v5 w5 hown5 hgrow5; have hs5 : w3.heap.size ≤ w5.heap.size := Nat.le_trans (unhide G2).size hgrow5.size; have hg5 : v5.ownBlock ≠ some g := (fun h9 => absurd (own_block hown5 g h9) (by omega)); have hk5 : w5.cell? ⟨g, n1 * 3, none⟩ = some (.int .i32 pf) := ((hgrow5.cell_far ⟨g, n1 * 3, none⟩ (Nat.lt_of_lt_of_le hgl (unhide G2).size) (by simp [Value.ownBlock]; omega)).trans (unhide CL _ (unhide G2))); have hb5 : Below B w1 w5 := ((hb3.trans ((unhide G2).below.mono hbw)).trans (below_own hgrow5 (Nat.le_trans hbw (unhide G2).size) (fun g9 h9 => Nat.le_trans hbw (own_block (unhide O2) g9 h9)))); have hN5 : w5.heap[w3.heap.size + 1]? = some (.cells #[.int .i32 pf, .int .i32 (b - 1), .int .i64 ph] 37) := ((hgrow5.block (w3.heap.size + 1) (by simp) (by simp [Value.ownBlock])).trans (unhide N2)))
                        | (refine step_append_at _ (by rfl) _ _ _ (by rfl) w3.heap.size 37 i0 _ 3 16 Try.underlying22 hi hz0' hz1 hz2 rfl (by omega) _ 0 [] (by rfl) (unhide O3) ⟨g, 0, none⟩ n1 sc (spcs T.dropLast) (by rfl) hlen9 (unhide HNEW _ (unhide G3)) (spcs_oneCell9 _) mm1 mm2 (unhide G3).size ?_; intro v5 w5 hown5 hgrow5; have hs5 : w3.heap.size ≤ w5.heap.size := Nat.le_trans (unhide G3).size hgrow5.size; have hg5 : v5.ownBlock ≠ some g := (fun h9 => absurd (own_block hown5 g h9) (by omega)); have hk5 : w5.cell? ⟨g, n1 * 3, none⟩ = some (.int .i32 pf) := ((hgrow5.cell_far ⟨g, n1 * 3, none⟩ (Nat.lt_of_lt_of_le hgl (unhide G3).size) (by simp [Value.ownBlock]; omega)).trans (unhide CL _ (unhide G3))); have hb5 : Below B w1 w5 := ((hb3.trans ((unhide G3).below.mono hbw)).trans (below_own hgrow5 (Nat.le_trans hbw (unhide G3).size) (fun g9 h9 => Nat.le_trans hbw (own_block (unhide O3) g9 h9)))); have hN5 : w5.heap[w3.heap.size]? = some (.cells #[.int .i32 pf, .int .i32 (b - 1), .int .i64 ph] 37) := ((hgrow5.block (w3.heap.size) (by simp; omega) (by simp [Value.ownBlock])).trans (unhide N3)))
                        | (refine step_append_lies _ (by rfl) _ _ _ (by rfl) w3.heap.size 37 i0 _ 3 16 Try.underlying22 hi hz0' hz1 hz2 rfl (by omega) _ (0 + n1) _ (by rfl) (hown5.alloc _) ⟨w5.heap.size, 0, none⟩ 1 1 [.int .i32 pf, .int .i32 (b - 1), .int .i64 ph] (by rfl) (by rfl) (World.news_of_block (B := w5.heap.size) (cs := #[.int .i32 pf, .int .i32 (b - 1), .int .i64 ph]) (t := 37) (fr := (0, 0)) (heap_new w5 _)) (by simp [Value.oneCell']) (by omega) mm3 mm4 (by rw [World.size_alloc]; omega) (w5.heap.size + 1) (by simp) ?_; intro g9 cap9 w9 hown9 hgrow9 hat9 hlt9; have hk9 : w9.cell? ⟨g, n1 * 3, none⟩ = some (.int .i32 pf) := ((hgrow9.cell_far ⟨g, n1 * 3, none⟩ (Nat.lt_of_lt_of_le hgl (Nat.le_trans hs5 (Gr.one _ _).size)) (fun h9 => hg5 h9.symm)).trans ((Gr.one _ _).cell hk5)); have hb9 : Below B w1 w9 := (hb5.alloc (by omega) _).trans (below_own hgrow9 (by rw [World.size_alloc]; omega) (fun g9 h9 => Nat.le_trans hbw (own_block hown5 g9 h9))))
                        | (refine step_append_lies _ (by rfl) _ _ _ (by rfl) w3.heap.size 37 i0 _ 3 16 Try.underlying22 hi hz0' hz1 hz2 rfl (by omega) _ (0 + n1) _ (by rfl) hown5 ⟨w3.heap.size + 1, 0, none⟩ 1 1 [.int .i32 pf, .int .i32 (b - 1), .int .i64 ph] (by rfl) (by rfl) (World.news_of_block (B := w3.heap.size + 1) (cs := #[.int .i32 pf, .int .i32 (b - 1), .int .i64 ph]) (t := 37) (fr := (0, 0)) hN5) (by simp [Value.oneCell']) (by omega) mm3 mm4 hs5 w5.heap.size (by simp) ?_; intro g9 cap9 w9 hown9 hgrow9 hat9 hlt9; have hk9 : w9.cell? ⟨g, n1 * 3, none⟩ = some (.int .i32 pf) := ((hgrow9.cell_far ⟨g, n1 * 3, none⟩ (Nat.lt_of_lt_of_le hgl hs5) (fun h9 => hg5 h9.symm)).trans hk5); have hb9 : Below B w1 w9 := hb5.trans (below_own hgrow9 (by omega) (fun g9 h9 => Nat.le_trans hbw (own_block hown5 g9 h9))))
                        | (refine step_append_lies _ (by rfl) _ _ _ (by rfl) w3.heap.size 37 i0 _ 3 16 Try.underlying22 hi hz0' hz1 hz2 rfl (by omega) _ (0 + n1) _ (by rfl) hown5 ⟨w3.heap.size, 0, none⟩ 1 1 [.int .i32 pf, .int .i32 (b - 1), .int .i64 ph] (by rfl) (by rfl) (World.news_of_block (B := w3.heap.size) (cs := #[.int .i32 pf, .int .i32 (b - 1), .int .i64 ph]) (t := 37) (fr := (0, 0)) hN5) (by simp [Value.oneCell']) (by omega) mm3 mm4 hs5 w5.heap.size (by simp) ?_; intro g9 cap9 w9 hown9 hgrow9 hat9 hlt9; have hk9 : w9.cell? ⟨g, n1 * 3, none⟩ = some (.int .i32 pf) := ((hgrow9.cell_far ⟨g, n1 * 3, none⟩ (Nat.lt_of_lt_of_le hgl hs5) (fun h9 => hg5 h9.symm)).trans hk5); have hb9 : Below B w1 w9 := hb5.trans (below_own hgrow9 (by omega) (fun g9 h9 => Nat.le_trans hbw (own_block hown5 g9 h9)))))
                  all_goals (
                    have HP9 : Hid (layL T ⟨x, b - 1, ph⟩ = T.dropLast ++ [⟨pf, b - 1, ph⟩]) := unhide HIN _ ((joinS_iff _ _).2 (by dsimp only; omega))
                    have hlt9' : (T.dropLast ++ [(⟨pf, b - 1, ph⟩ : Sp)]).length = n1 + 1 := by rw [List.length_append, List.length_dropLast, ← unhide HN1]; rfl
                    try simp only [Exit.inBlock, Exit.then]
                    go_wp2
                    go_roundw
                    case rel =>
                      refine ⟨b, T.dropLast ++ [⟨pf, b - 1, ph⟩], rfl, by omega, hhi, by rw [hlt9']; have := unhide HN1; push_cast; omega, ?_, hb9, ?_⟩
                      · rw [hlt9', spcs_append, spcs_one]
                        have h9 := own_base hown9 hbw
                        rw [Nat.zero_add, List.nil_append] at h9
                        exact h9
                      · have h9 := (unhide RB).lay (unhide NX) (by rw [unhide HV]; exact hv0)
                        rw [unhide HV, unhide HP9] at h9
                        exact h9
                    case measure => simp [intOf]; omega)
                · have hptz : (pt == x - 1) = false := by simpa using hpt
                  go_wp2_with (first
                    | (go_at_call 27; refine (unhide H1).mono ?_; rintro e w2 ⟨b, rfl, NX, g2⟩; have hlo := (unhide NX).lo; have hhi := (unhide NX).hi; have k4 : IntKind.i32.wrap (b - 1) = b - 1 := (by simp [IntKind.wrap, IntKind.bits, IntKind.signed]; omega))
                    | (go_at_call 28; refine (unhide H2 _ g2).mono ?_; rintro e w3 ⟨rfl, g3⟩; have g23 := g2.trans g3; have hown3 := own_gr3 hown g23; have hb3 := hb.trans (g23.below.mono hsB); have hs3 := g23.size; replace p1 := g23.cell p1; replace p2 := g23.cell p2; replace p3 := g23.cell p3)
                    | (at_builtin; refine wpList_append_lies _ rfl _ _ 22 rfl B 37 i0 _ 3 16 Try.underlying22 hi hz0' hz1 hz2 rfl (by omega) _ _ _ rfl (hown3.alloc _) ⟨w3.heap.size, 0, none⟩ 1 1 [.int .i32 x, .int .i32 (b - 1), .int .i64 v] rfl rfl (World.news_of_block (cs := #[.int .i32 x, .int .i32 (b - 1), .int .i64 v]) (t := 37) (fr := (0, 0)) (heap_new w3 _)) (by simp [Value.oneCell']) (by omega) hm1 hm2 (by simp; omega) (w3.heap.size + 1) (by simp) ?_; intro g9 cap9 w9 hown9 hgrow9 hat9 hlt9))
                  have HP9 : Hid (layL T ⟨x, b - 1, v⟩ = T ++ [⟨x, b - 1, v⟩]) := unhide HPU _ ((joinS_not _ _).2 (by dsimp only; omega))
                  have hln9 : (T ++ [(⟨x, b - 1, v⟩ : Sp)]).length = T.length + 1 := by simp
                  go_roundw
                  case rel =>
                    refine ⟨b, T ++ [⟨x, b - 1, v⟩], rfl, by omega, hhi, by rw [hln9]; push_cast; omega, ?_, (hb3.alloc (by omega) _).trans (below_own hgrow9 (by simp; omega) (own_block hown3)), ?_⟩
                    · rw [hln9, spcs_append, spcs_one]; exact hown9
                    · have h9 := (unhide RB).lay (unhide NX) (by rw [unhide HV]; exact hv0)
                      rw [unhide HV, unhide HP9] at h9
                      exact h9
                  case measure => simp [intOf]; omega
              · have hphz : (ph == v) = false := by simpa using hph
                go_wp2_with (first
                  | (go_at_call 27; refine (unhide H1).mono ?_; rintro e w2 ⟨b, rfl, NX, g2⟩; have hlo := (unhide NX).lo; have hhi := (unhide NX).hi; have k4 : IntKind.i32.wrap (b - 1) = b - 1 := (by simp [IntKind.wrap, IntKind.bits, IntKind.signed]; omega))
                  | (go_at_call 28; refine (unhide H2 _ g2).mono ?_; rintro e w3 ⟨rfl, g3⟩; have g23 := g2.trans g3; have hown3 := own_gr3 hown g23; have hb3 := hb.trans (g23.below.mono hsB); have hs3 := g23.size; replace p1 := g23.cell p1; replace p2 := g23.cell p2; replace p3 := g23.cell p3)
                  | (at_builtin; refine wpList_append_lies _ rfl _ _ 22 rfl B 37 i0 _ 3 16 Try.underlying22 hi hz0' hz1 hz2 rfl (by omega) _ _ _ rfl (hown3.alloc _) ⟨w3.heap.size, 0, none⟩ 1 1 [.int .i32 x, .int .i32 (b - 1), .int .i64 v] rfl rfl (World.news_of_block (cs := #[.int .i32 x, .int .i32 (b - 1), .int .i64 v]) (t := 37) (fr := (0, 0)) (heap_new w3 _)) (by simp [Value.oneCell']) (by omega) hm1 hm2 (by simp; omega) (w3.heap.size + 1) (by simp) ?_; intro g9 cap9 w9 hown9 hgrow9 hat9 hlt9))
                have HP9 : Hid (layL T ⟨x, b - 1, v⟩ = T ++ [⟨x, b - 1, v⟩]) := unhide HPU _ ((joinS_not _ _).2 (by dsimp only; omega))
                have hln9 : (T ++ [(⟨x, b - 1, v⟩ : Sp)]).length = T.length + 1 := by simp
                go_roundw
                case rel =>
                  refine ⟨b, T ++ [⟨x, b - 1, v⟩], rfl, by omega, hhi, by rw [hln9]; push_cast; omega, ?_, (hb3.alloc (by omega) _).trans (below_own hgrow9 (by simp; omega) (own_block hown3)), ?_⟩
                  · rw [hln9, spcs_append, spcs_one]; exact hown9
                  · have h9 := (unhide RB).lay (unhide NX) (by rw [unhide HV]; exact hv0)
                    rw [unhide HV, unhide HP9] at h9
                    exact h9
                case measure => simp [intOf]; omega
        · have hltz : ¬ x < 1114112 := hlt
          obtain rfl : x = 1114112 := by omega
          have HT := hide (Ow.tab (B := B) (l := T) hown)
          have HE : Hid (isTb T ∧ ∀ r, fnd T r = lastV l r) := hide ⟨(unhide RB).tb, fun r => (unhide RB).last (fun s hs => (unhide HMM s hs).2) r⟩
          obtain ⟨sa, sc, hsv⟩ : ∃ sa sc, u5 = Value.slice sa T.length sc := by
            rcases hown.2 with ⟨hv, h0⟩ | ⟨g', cap', cur, hv, _⟩
            · exact ⟨none, 0, by rw [hv, h0]⟩
            · exact ⟨_, cap', hv⟩
          subst hsv
          rw [unhide HB] at hb
          clear hown
          go_wp2
          go_ret2
          exact ⟨.slice sa T.length sc, rfl, T, HE, HT, below_on2 hg.below hb⟩
end Go.Proofs.Ytnlkefdicpeemaa
