/- Build, from the edges on. -/
import Derived.Test.YtnlkefdicpeemaaBuild0
import Derived.Test.YtnlkefdicpeemaaChk
namespace Go.Proofs.Ytnlkefdicpeemaa
open Go.RowKit
attribute [local go_sem] Oper.semAt_some

set_option maxRecDepth 100000 in
set_option maxHeartbeats 4000000 in
theorem build_some (b o c : Nat) (l : List Sp) (w : World) (hl : l.length ≤ 200) (hm : ∀ k, k < l.length → mayS (l.getD k sp0) = true)
    (hsort : SortDoes (edsTo l (2 * l.length)).toArray) (a : Option Addr) (ha : 0 < l.length → a = some ⟨b, o, none⟩) (hc : ∀ j, j < l.length →
    w.cell? ⟨b, o + j * 3, none⟩ = some (.int .i32 (l.getD j sp0).f) ∧ w.cell? ⟨b, o + j * 3 + 1, none⟩ = some (.int .i32 (l.getD j sp0).t) ∧ w.cell? ⟨b, o + j * 3 + 2, none⟩ = some (.int .i64 (l.getD j sp0).h)) :
    Calls Try.prog 15 #[.slice a l.length c] w fun e w' => ∃ (v : Value) (es : List Int), e = .returned (.tuple #[v, .int .i64 0]) ∧ es.Pairwise (· < ·) ∧ es.length ≤ 2 * l.length ∧ (∀ x, x ∈ es ↔ ∃ s, s ∈ l ∧ (x = s.f ∨ x = s.t + 1)) ∧ Tab w' v (bldTo l es es.length) ∧ Below w.heap.size w w' := by
  have HC := hide hc
  have HM := hide hm
  have HS := hide hsort
  clear hc hm hsort
  have hln : ¬ (200 : Int) < (l.length : Int) := by omega
  refine callsIn_wide.1 (callsIn_of_wp_marks (n := 9) Try.func15 rfl trivial (wpIn_wide.2 ?_) rfl)
  simp only [Try.ntmps15, List.size_toArray, List.length_cons, List.length_nil, Nat.reduceAdd, Nat.reduceSub, Array.replicate_succ, Array.replicate_zero, List.push_toArray, List.append_toArray, List.nil_append, List.cons_append]
  go_wp2
  go_step3
  go_wp2
  go_loopw [17] (fun x wr => ∃ k : Nat, k ≤ l.length ∧ x = .int .i64 k ∧ Gr w wr) (fun x _ => l.length - (intOf x).toNat)
  case atStart => exact ⟨0, Nat.zero_le _, rfl, Gr.refl _⟩
  case round =>
    obtain ⟨kk, hk, rfl, hg⟩ := hrel
    by_cases hlt : kk < l.length
    · have hae := ha (by omega)
      subst hae
      have hzl : (kk : Int) < (l.length : Int) := by omega
      have hz0 : (0 : Int) ≤ (kk : Int) := by omega
      obtain ⟨g1, g2, g3⟩ := unhide HC kk hlt
      replace g1 := hg.cell g1
      replace g2 := hg.cell g2
      replace g3 := hg.cell g3
      have hmk := unhide HM kk hlt
      generalize l.getD kk sp0 = s at *
      obtain ⟨f, t, h⟩ := s
      dsimp only at g1 g2 g3
      have hmb := fun w => mayBe_any f t h w
      rw [hmk] at hmb
      have HMB := hide hmb
      clear hmb hmk
      go_wp2_with (go_at_call 18; refine (unhide HMB _).mono ?_; rintro e w' ⟨rfl, hg2⟩)
      go_roundw
      case rel => exact ⟨kk + 1, by omega, by go_num, (hg.alloc _).trans hg2⟩
      case measure => simp [intOf]; omega
    · have hzl : ¬ (kk : Int) < (l.length : Int) := by omega
      have HE : Hid (∀ W, Gr w W → Calls Try.prog 24 #[.slice a l.length c] W fun e w' => ∃ (g cap : Nat) (zs : List Int), e = .returned (.slice (some ⟨g, 0, none⟩) zs.length cap) ∧ (∀ j, j < zs.length → w'.cell? ⟨g, j, none⟩ = some (.int .i32 (zs.getD j 0))) ∧ zs.Pairwise (· < ·) ∧ zs.length ≤ 2 * l.length ∧ (∀ x, x ∈ zs ↔ ∃ s, s ∈ l ∧ (x = s.f ∨ x = s.t + 1)) ∧ Below W.heap.size W w') := fun W hW =>
        edges_some b o c l W hl (fun k hk => by have := (mayS_iff _).1 (unhide HM k hk); omega) (unhide HS) a ha (fun j hj => by
          obtain ⟨h1, h2, h3⟩ := unhide HC j hj
          exact ⟨hW.cell h1, hW.cell h2, hW.cell h3⟩)
      go_wp2_with (go_at_call 24; refine (unhide HE _ hg).mono ?_; rintro e w1 ⟨ge, cape, es, rfl, hec, hpw, hln2, hmem, hb1⟩)
      go_step3
      go_wp2
      have hW1 : Below w.heap.size w w1 := hg.below.trans (hb1.mono hg.size)
      have TS0 : Hid (TS w (w1.heap.size + 2) w1.heap.size (w1.heap.size + 1) ge cape es (bldTo l es 0) [] ((w1.alloc (.cells #[.slice (some ⟨ge, 0, none⟩) es.length cape] 44)).alloc (.cells #[.slice none 0 0] 22))) := by
        refine ⟨(Boxed.new w1 _ _).alloc _, ⟨.slice none 0 0, ?_, World.ownsRow_nil _ _ _ _⟩, fun j hj => ?_, (hW1.alloc hW1.size _).alloc (by have := hW1.size; simp; omega) _, by simp, fun D hD => (by cases hD), List.nodup_nil⟩
        · have := Boxed.new (w1.alloc (.cells #[.slice (some ⟨ge, 0, none⟩) es.length cape] 44)) 22 (.slice none 0 0)
          rwa [World.size_alloc] at this
        · exact (((Gr.refl w1).alloc _).alloc _).cell (hec j hj)
      have hge : 0 < es.length → ge < w1.heap.size := fun h => cell_lt (hec 0 h)
      have HPW := hide hpw
      have HMEM := hide hmem
      clear hec hpw hmem
      generalize (w1.alloc (.cells #[.slice (some ⟨ge, 0, none⟩) es.length cape] 44)).alloc (.cells #[.slice none 0 0] 22) = w2 at *
      obtain ⟨LV, hLV⟩ : ∃ LV : Act → World → Prop, LV = (fun act W => ∃ (k : Nat) (Ds : List Nat) (u8 u9 u11 u30 u31 u32 u33 u34 u35 u36 u37 u38 u39 u40 u41 u42 u43 u44 u45 u46 u47 u48 u49 u50 u51 u52 u53 u54 u55 u56 u57 : Value), k ≤ es.length ∧ act = { tmps := #[.slice a l.length c, undef, u2, u3, undef, u5, .pointer (some ⟨w1.heap.size, 0, none⟩), .pointer (some ⟨w1.heap.size + 1, 0, none⟩), u8, u9, undef, u11, .slice a l.length c, .int .i64 (l.length : Int), .bool (decide ((200 : Int) < (l.length : Int))), .slice a l.length c, .int .i64 (l.length : Int), .int .i64 (kk : Int), .bool false, u19, u20, u21, u22, u23, u24, .slice a l.length c, .slice (some ⟨ge, 0, none⟩) es.length cape, .slice (some ⟨ge, 0, none⟩) es.length cape, .int .i64 (es.length : Int), .int .i64 (k : Int), u30, u31, u32, u33, u34, u35, u36, u37, u38, u39, u40, u41, u42, u43, u44, u45, u46, u47, u48, u49, u50, u51, u52, u53, u54, u55, u56, u57, undef], defers := Ds.map mk } ∧ Hid (TS w (w1.heap.size + 2) w1.heap.size (w1.heap.size + 1) ge cape es (bldTo l es k) Ds W)) := ⟨_, rfl⟩
      have HLV := hide hLV
      clear hLV
      refine wp_loop LV (fun act _ => es.length - (intOf (act.tmps.getD 29 undef)).toNat) ?_ ?_
      · rw [unhide HLV]
        exact ⟨0, [], _, _, _, _, _, _, _, _, _, _, _, _, _, _, _, _, _, _, _, _, _, _, _, _, _, _, _, _, _, _, _, Nat.zero_le _, rfl, TS0⟩
      · intro act wr hact
        rw [unhide HLV] at hact
        obtain ⟨k, Ds, u8, u9, u11, u30, u31, u32, u33, u34, u35, u36, u37, u38, u39, u40, u41, u42, u43, u44, u45, u46, u47, u48, u49, u50, u51, u52, u53, u54, u55, u56, u57, hke, rfl, TK⟩ := hact
        by_cases hkl : k < es.length
        · have hzk : (k : Int) < (es.length : Int) := by omega
          have hz0 : (0 : Int) ≤ (k : Int) := by omega
          have c27 := (unhide TK).ec k hkl
          obtain ⟨e, he⟩ : ∃ e, e = es.getD k 0 := ⟨_, rfl⟩
          rw [← he] at c27
          have HEQ := hide he
          clear he
          go_wp2_with (go_at_call 25; refine (back_any a l.length c _).mono ?_; rintro e w4 ⟨rfl, rfl⟩)
          have q8 := Boxed.new wr 3 (.int .i64 (k : Int))
          have q9 := Boxed.new (wr.alloc (.cells #[.int .i64 (k : Int)] 3)) 21 (.int .i32 e)
          have qS := Boxed.new ((wr.alloc (.cells #[.int .i64 (k : Int)] 3)).alloc (.cells #[.int .i32 e] 21)) 22 (.slice a l.length c)
          simp only [World.size_alloc] at q9 qS
          replace q8 := (q8.alloc (.cells #[.int .i32 e] 21)).alloc (.cells #[.slice a l.length c] 22)
          replace q9 := q9.alloc (.cells #[.slice a l.length c] 22)
          have gr4 := (((Gr.refl wr).alloc (.cells #[.int .i64 (k : Int)] 3)).alloc (.cells #[.int .i32 e] 21)).alloc (.cells #[.slice a l.length c] 22)
          have hs4 : (((wr.alloc (.cells #[.int .i64 (k : Int)] 3)).alloc (.cells #[.int .i32 e] 21)).alloc (.cells #[.slice a l.length c] 22)).heap.size = wr.heap.size + 3 := by simp
          replace qS : Boxed _ (wr.heap.size + 2) _ _ := qS
          obtain ⟨w4, hw4⟩ : ∃ w4, w4 = ((wr.alloc (.cells #[.int .i64 (k : Int)] 3)).alloc (.cells #[.int .i32 e] 21)).alloc (.cells #[.slice a l.length c] 22) := ⟨_, rfl⟩
          rw [← hw4] at q8 q9 qS gr4 hs4 ⊢
          clear hw4 c27
          have hbw := (unhide TK).bel
          have hTK4 := (unhide TK).gr gr4
          obtain ⟨bb, hbb, hIb⟩ : ∃ bb, bb < w4.heap.size ∧ (0 < l.length → ∃ off, a = some ⟨bb, off, none⟩ ∧ ∀ j, j < l.length →
              w4.cell? ⟨bb, off + j * 3, none⟩ = some (.int .i32 (l.getD j sp0).f) ∧ w4.cell? ⟨bb, off + j * 3 + 1, none⟩ = some (.int .i32 (l.getD j sp0).t) ∧ w4.cell? ⟨bb, off + j * 3 + 2, none⟩ = some (.int .i64 (l.getD j sp0).h)) := by
            by_cases h0 : 0 < l.length
            · obtain ⟨p1, _, _⟩ := unhide HC 0 h0
              refine ⟨b, by have := cell_lt p1; have := hbw.size; dsimp only at *; omega, fun _ => ⟨o, ha h0, fun j hj => ?_⟩⟩
              obtain ⟨p1, p2, p3⟩ := unhide HC j hj
              exact ⟨(hTK4.bel.cell (cell_lt p1)).trans p1, (hTK4.bel.cell (cell_lt p2)).trans p2, (hTK4.bel.cell (cell_lt p3)).trans p3⟩
            · exact ⟨0, by omega, fun h => absurd h h0⟩
          have hDB : ∀ D, D ∈ Ds → D < w4.heap.size := fun D hD => (Array.getElem?_eq_some_iff.1 (hTK4.ms D hD).2).1
          have hwB : w.heap.size ≤ w4.heap.size := hTK4.bel.size
          obtain ⟨tv, t1, t2⟩ := hTK4.b7
          refine (wpIn_wide (n := 9)).1 ?_
          refine wpIn_rangeFunc_ownH (F := Fence.wide) (n := 9) rfl (by omega) (gf := 34) (lb := #[.pointer (some ⟨wr.heap.size + 2, 0, none⟩)]) rfl trivial (enters_of Try.func34 (by kernel_rfl) rfl)
            (back_stops 8 (wr.heap.size + 2) bb (.slice a l.length c) l (by omega) w4 (by omega) hbb qS.cell ⟨a, c, rfl, hIb⟩) (fun h k => ⟨k.1.trans h.1, k.2.trans h.2⟩)
            (fun W p o o' hp h _ _ => ⟨World.putObj_heap_other (by omega), World.putObj_heap_other (by omega)⟩) (Below.refl _ _) (fun _ => rfl)
            (RI w (w1.heap.size + 2) w1.heap.size (w1.heap.size + 1) ge cape es (bldTo l es k) Ds wr.heap.size (wr.heap.size + 1) k w4.heap.size tv l) (RX w (w1.heap.size + 2) w1.heap.size (w1.heap.size + 1) ge cape es (bldTo l es k) Ds k l) (RI.own hwB hDB) (fun cd => RX.own hwB hDB cd)
            ⟨⟨Nat.le_refl _, t1, fun g e => (World.ownsRow.lt t2 g e).2⟩, hTK4, q8, by rw [← unhide HEQ]; exact q9, fun x hx => by cases hx⟩
            (fun x a' W => ∃ Bx, Box3 W Bx (l.getD x sp0) ∧ w4.heap.size ≤ Bx ∧ a' = { tmps := #[.slice a l.length c, undef, u2, u3, undef, u5, .pointer (some ⟨w1.heap.size, 0, none⟩), .pointer (some ⟨w1.heap.size + 1, 0, none⟩), .pointer (some ⟨wr.heap.size, 0, none⟩), .pointer (some ⟨wr.heap.size + 1, 0, none⟩), undef, .pointer (some ⟨Bx, 0, none⟩), .slice a l.length c, .int .i64 (l.length : Int), .bool (decide ((200 : Int) < (l.length : Int))), .slice a l.length c, .int .i64 (l.length : Int), .int .i64 (kk : Int), .bool false, u19, u20, u21, u22, u23, u24, .slice a l.length c, .slice (some ⟨ge, 0, none⟩) es.length cape, .slice (some ⟨ge, 0, none⟩) es.length cape, .int .i64 (es.length : Int), .int .i64 (k : Int), .bool true, .int .i64 (k : Int), .pointer (some ⟨ge, k, none⟩), .int .i32 e, .slice a l.length c, .func (.func 34) #[] #[.pointer (some ⟨wr.heap.size + 2, 0, none⟩)], .int .i64 (x : Int), .agg #[.int .i32 (l.getD x sp0).f, .int .i32 (l.getD x sp0).t, .int .i64 (l.getD x sp0).h], u38, u39, u40, u41, u42, u43, u44, u45, u46, u47, u48, u49, u50, u51, u52, u53, u54, u55, u56, u57, undef], defers := [] })
            (fun x a' _ A B row hs hg hr => by
              obtain ⟨Bx, h1, h2, h3⟩ := hs
              exact ⟨Bx, box3_own h1 hg hr, h2, h3⟩) ?assign ?body ?done ?stop
          case assign =>
            rintro lz pre x W K hi hK
            have HKK := hide hK
            clear hK
            unfold bk
            generalize l.getD x sp0 = s at *
            obtain ⟨f, t, h⟩ := s
            dsimp only
            gi_wp2
            exact unhide HKK _ _ (KeepsFrom.gr (Gr.one _ _)) (Kp2.gr (Gr.one _ _) (by have := hi.1.1; omega) (by have := hi.1.1; omega)) (hi.gr (Gr.one _ _)) ⟨W.heap.size, heap_new W _, hi.1.1, rfl⟩
          case body =>
            rintro lz pre x a' W hlz ⟨r, hr⟩ hI ⟨Bx, hbx, hBx, rfl⟩ hlt
            obtain ⟨y1, y2, y3⟩ := hbx.cells
            have y9 := hI.2.2.2.1.cell
            rw [← unhide HEQ] at y9
            obtain ⟨s, hs⟩ : ∃ s, s = l.getD x sp0 := ⟨_, rfl⟩
            rw [← hs] at y1 y2 y3 hbx ⊢
            have HSX := hide hs
            clear hs
            obtain ⟨f, t, h⟩ := s
            dsimp only at y1 y2 y3
            have hh := fun w => holds_any f t h e w
            cases hin : inS ⟨f, t, h⟩ e <;> rw [hin] at hh
            · have HH := hide hh
              clear hh
              gi_wp2_with (refine ⟨trivial, ?_⟩; gi_at_call 23; refine (CallsIn.inRound lz (callsIn_wide.2 (unhide HH _))).mono ?_; rintro e w' ⟨rfl, hg2⟩)
              refine ⟨KeepsFrom.gr hg2, Kp2.gr hg2 (by have := hI.1.1; omega) (by have := hI.1.1; omega), ?_⟩
              have hI2 := hI.gr hg2
              refine ⟨hI2.1, hI2.2.1, hI2.2.2.1, hI2.2.2.2.1, fun y hy => ?_⟩
              rcases List.mem_append.1 hy with hy | hy
              · exact hI2.2.2.2.2 y hy
              · simp at hy
                subst hy
                rw [← unhide HSX, ← unhide HEQ]
                exact hin
            · have HIN := hide hin
              have HH := hide hh
              clear hh hin
              cases hh0 : (h == 0)
              · have hne : h ≠ 0 := by simpa using hh0
                have hxl : x < l.length := by
                  rcases Nat.lt_or_ge x l.length with h1 | h1
                  · exact h1
                  · have := unhide HSX
                    rw [show l.getD x sp0 = sp0 by simp [List.getD, h1]] at this
                    cases this
                    exact absurd rfl hne
                have hin2 : inS (l.getD x sp0) (es.getD k 0) = true := by rw [← unhide HSX, ← unhide HEQ]; exact unhide HIN
                have hk1 := next_edge (unhide HPW) (unhide HMEM) hkl (getD_mem l x hxl) hin2
                have hes := es_bound (unhide HM) (unhide HMEM)
                have hbt := bld_t l es hes k
                have hbl := bld_length l es k
                obtain ⟨tv2, u1, u2⟩ := hI.2.1.b7
                have htv : tv2 = tv := Option.some.inj (u1.cell.symm.trans hI.1.2.1.cell)
                rw [htv] at u1 u2
                clear htv
                have y6 := hI.2.1.b6.cell
                have y8 := hI.2.2.1.cell
                have yn := hI.2.1.ec (k + 1) hk1
                have h1e := hes (k + 1)
                have HIN2 := hide hin2
                clear hin2 hes
                obtain ⟨e2, he2⟩ : ∃ e2, e2 = es.getD (k + 1) 0 := ⟨_, rfl⟩
                rw [← he2] at yn h1e
                have HEQ2 := hide he2
                clear he2
                have hz1 : (0 : Int) ≤ (k : Int) + 1 := by omega
                have hz2 : (k : Int) + 1 < (es.length : Int) := by omega
                have hzt : ((k : Int) + 1).toNat = k + 1 := by omega
                have hzw : IntKind.i64.wrap ((k : Int) + 1) = (k : Int) + 1 := by rw [IntKind.wrap_i64]; omega
                have hw2 : IntKind.i32.wrap (e2 - 1) = e2 - 1 := by simp [IntKind.wrap, IntKind.bits, IntKind.signed]; omega
                gi_wp2_with (refine ⟨trivial, ?_⟩; gi_at_call 23; refine (CallsIn.inRound lz (callsIn_wide.2 (unhide HH _))).mono ?_; rintro e w' ⟨rfl, hg2⟩; replace y3 := hg2.cell y3)
                refine region_in (S := fun v => v.cell? ⟨wr.heap.size + 1, 0, none⟩ = some (.int .i32 e) ∧ v.cell? ⟨w1.heap.size, 0, none⟩ = some (.slice (some ⟨ge, 0, none⟩) es.length cape) ∧ v.cell? ⟨wr.heap.size, 0, none⟩ = some (.int .i64 (k : Int)) ∧ v.cell? ⟨ge, k + 1, none⟩ = some (.int .i32 e2) ∧ v.cell? ⟨Bx, 2, none⟩ = some (.int .i64 h)) lz _ mixed (no_df (by kernel_rfl)) (by rintro ⟨_, _, hh⟩; exact hh) ⟨hg2.cell y9, hg2.cell y6, hg2.cell y8, hg2.cell yn, y3⟩ (fun hS => ?_)
                show wpAnyH Try.prog .any _ _ _ 13 #[false, false, false, false, false, false, false, false, false, false, false, false, false] { tmps := #[_, _, _, _, _, _, .pointer (some ⟨w1.heap.size, 0, none⟩), .pointer (some ⟨w1.heap.size + 1, 0, none⟩), .pointer (some ⟨wr.heap.size, 0, none⟩), .pointer (some ⟨wr.heap.size + 1, 0, none⟩), _, .pointer (some ⟨Bx, 0, none⟩), _, _, _, _, _, _, _, _, _, _, _, _, _, _, _, _, _, _, _, _, _, _, _, _, _, _, _, _, _, _, _, _, _, _, _, _, _, _, _, _, _, _, _, _, _, _, _], defers := [] } _
                refine wpAnyH_take (i := 1) (oi := _) (v := .int .i32 e) rfl (by kernel_rfl) (by kernel_rfl) (by kernel_rfl) (fun _ _ _ h => h) (Or.inl ⟨by rfl, ?_⟩) hS ?_
                · intro w hSw
                  obtain ⟨z9, z6, z8, zn, zx⟩ := hSw
                  go_simp
                show wpAnyH Try.prog .any _ _ _ 12 #[false, true, false, false, false, false, false, false, false, false, false, false, false] { tmps := #[_, _, _, _, _, _, .pointer (some ⟨w1.heap.size, 0, none⟩), .pointer (some ⟨w1.heap.size + 1, 0, none⟩), .pointer (some ⟨wr.heap.size, 0, none⟩), .pointer (some ⟨wr.heap.size + 1, 0, none⟩), _, .pointer (some ⟨Bx, 0, none⟩), _, _, _, _, _, _, _, _, _, _, _, _, _, _, _, _, _, _, _, _, _, _, _, _, _, _, _, _, _, _, _, _, _, _, .int .i32 e, _, _, _, _, _, _, _, _, _, _, _, _], defers := [] } _
                refine wpAnyH_take (i := 2) (oi := _) (v := .slice (some ⟨ge, 0, none⟩) es.length cape) rfl (by kernel_rfl) (by kernel_rfl) (by kernel_rfl) (fun _ _ _ h => h) (Or.inl ⟨by rfl, ?_⟩) hS ?_
                · intro w hSw
                  obtain ⟨z9, z6, z8, zn, zx⟩ := hSw
                  go_simp
                show wpAnyH Try.prog .any _ _ _ 11 #[false, true, true, false, false, false, false, false, false, false, false, false, false] { tmps := #[_, _, _, _, _, _, .pointer (some ⟨w1.heap.size, 0, none⟩), .pointer (some ⟨w1.heap.size + 1, 0, none⟩), .pointer (some ⟨wr.heap.size, 0, none⟩), .pointer (some ⟨wr.heap.size + 1, 0, none⟩), _, .pointer (some ⟨Bx, 0, none⟩), _, _, _, _, _, _, _, _, _, _, _, _, _, _, _, _, _, _, _, _, _, _, _, _, _, _, _, _, _, _, _, _, _, _, .int .i32 e, .slice (some ⟨ge, 0, none⟩) es.length cape, _, _, _, _, _, _, _, _, _, _, _], defers := [] } _
                refine wpAnyH_take (i := 3) (oi := _) (v := .int .i64 (k : Int)) rfl (by kernel_rfl) (by kernel_rfl) (by kernel_rfl) (fun _ _ _ h => h) (Or.inl ⟨by rfl, ?_⟩) hS ?_
                · intro w hSw
                  obtain ⟨z9, z6, z8, zn, zx⟩ := hSw
                  go_simp
                show wpAnyH Try.prog .any _ _ _ 10 #[false, true, true, true, false, false, false, false, false, false, false, false, false] { tmps := #[_, _, _, _, _, _, .pointer (some ⟨w1.heap.size, 0, none⟩), .pointer (some ⟨w1.heap.size + 1, 0, none⟩), .pointer (some ⟨wr.heap.size, 0, none⟩), .pointer (some ⟨wr.heap.size + 1, 0, none⟩), _, .pointer (some ⟨Bx, 0, none⟩), _, _, _, _, _, _, _, _, _, _, _, _, _, _, _, _, _, _, _, _, _, _, _, _, _, _, _, _, _, _, _, _, _, _, .int .i32 e, .slice (some ⟨ge, 0, none⟩) es.length cape, .int .i64 (k : Int), _, _, _, _, _, _, _, _, _, _], defers := [] } _
                refine wpAnyH_take (i := 4) (oi := _) (v := .int .i64 ((k : Int) + 1)) rfl (by kernel_rfl) (by kernel_rfl) (by kernel_rfl) (fun _ _ _ h => h) (Or.inl ⟨by rfl, ?_⟩) hS ?_
                · intro w hSw
                  obtain ⟨z9, z6, z8, zn, zx⟩ := hSw
                  go_simp
                show wpAnyH Try.prog .any _ _ _ 9 #[false, true, true, true, true, false, false, false, false, false, false, false, false] { tmps := #[_, _, _, _, _, _, .pointer (some ⟨w1.heap.size, 0, none⟩), .pointer (some ⟨w1.heap.size + 1, 0, none⟩), .pointer (some ⟨wr.heap.size, 0, none⟩), .pointer (some ⟨wr.heap.size + 1, 0, none⟩), _, .pointer (some ⟨Bx, 0, none⟩), _, _, _, _, _, _, _, _, _, _, _, _, _, _, _, _, _, _, _, _, _, _, _, _, _, _, _, _, _, _, _, _, _, _, .int .i32 e, .slice (some ⟨ge, 0, none⟩) es.length cape, .int .i64 (k : Int), .int .i64 ((k : Int) + 1), _, _, _, _, _, _, _, _, _], defers := [] } _
                refine wpAnyH_take (i := 5) (oi := _) (v := .pointer (some ⟨ge, k + 1, none⟩)) rfl (by kernel_rfl) (by kernel_rfl) (by kernel_rfl) (fun _ _ _ h => h) (Or.inl ⟨by rfl, ?_⟩) hS ?_
                · intro w hSw
                  obtain ⟨z9, z6, z8, zn, zx⟩ := hSw
                  go_simp
                show wpAnyH Try.prog .any _ _ _ 8 #[false, true, true, true, true, true, false, false, false, false, false, false, false] { tmps := #[_, _, _, _, _, _, .pointer (some ⟨w1.heap.size, 0, none⟩), .pointer (some ⟨w1.heap.size + 1, 0, none⟩), .pointer (some ⟨wr.heap.size, 0, none⟩), .pointer (some ⟨wr.heap.size + 1, 0, none⟩), _, .pointer (some ⟨Bx, 0, none⟩), _, _, _, _, _, _, _, _, _, _, _, _, _, _, _, _, _, _, _, _, _, _, _, _, _, _, _, _, _, _, _, _, _, _, .int .i32 e, .slice (some ⟨ge, 0, none⟩) es.length cape, .int .i64 (k : Int), .int .i64 ((k : Int) + 1), .pointer (some ⟨ge, k + 1, none⟩), _, _, _, _, _, _, _, _], defers := [] } _
                refine wpAnyH_take (i := 6) (oi := _) (v := .int .i32 e2) rfl (by kernel_rfl) (by kernel_rfl) (by kernel_rfl) (fun _ _ _ h => h) (Or.inl ⟨by rfl, ?_⟩) hS ?_
                · intro w hSw
                  obtain ⟨z9, z6, z8, zn, zx⟩ := hSw
                  go_simp
                show wpAnyH Try.prog .any _ _ _ 7 #[false, true, true, true, true, true, true, false, false, false, false, false, false] { tmps := #[_, _, _, _, _, _, .pointer (some ⟨w1.heap.size, 0, none⟩), .pointer (some ⟨w1.heap.size + 1, 0, none⟩), .pointer (some ⟨wr.heap.size, 0, none⟩), .pointer (some ⟨wr.heap.size + 1, 0, none⟩), _, .pointer (some ⟨Bx, 0, none⟩), _, _, _, _, _, _, _, _, _, _, _, _, _, _, _, _, _, _, _, _, _, _, _, _, _, _, _, _, _, _, _, _, _, _, .int .i32 e, .slice (some ⟨ge, 0, none⟩) es.length cape, .int .i64 (k : Int), .int .i64 ((k : Int) + 1), .pointer (some ⟨ge, k + 1, none⟩), .int .i32 e2, _, _, _, _, _, _, _], defers := [] } _
                refine wpAnyH_take (i := 7) (oi := _) (v := .int .i32 (e2 - 1)) rfl (by kernel_rfl) (by kernel_rfl) (by kernel_rfl) (fun _ _ _ h => h) (Or.inl ⟨by rfl, ?_⟩) hS ?_
                · intro w hSw
                  obtain ⟨z9, z6, z8, zn, zx⟩ := hSw
                  go_simp
                show wpAnyH Try.prog .any _ _ _ 6 #[false, true, true, true, true, true, true, true, false, false, false, false, false] { tmps := #[_, _, _, _, _, _, .pointer (some ⟨w1.heap.size, 0, none⟩), .pointer (some ⟨w1.heap.size + 1, 0, none⟩), .pointer (some ⟨wr.heap.size, 0, none⟩), .pointer (some ⟨wr.heap.size + 1, 0, none⟩), _, .pointer (some ⟨Bx, 0, none⟩), _, _, _, _, _, _, _, _, _, _, _, _, _, _, _, _, _, _, _, _, _, _, _, _, _, _, _, _, _, _, _, _, _, _, .int .i32 e, .slice (some ⟨ge, 0, none⟩) es.length cape, .int .i64 (k : Int), .int .i64 ((k : Int) + 1), .pointer (some ⟨ge, k + 1, none⟩), .int .i32 e2, .int .i32 (e2 - 1), _, _, _, _, _, _], defers := [] } _
                refine wpAnyH_take (i := 8) (oi := _) (v := .pointer (some ⟨Bx, 2, none⟩)) rfl (by kernel_rfl) (by kernel_rfl) (by kernel_rfl) (fun _ _ _ h => h) (Or.inl ⟨by rfl, ?_⟩) hS ?_
                · intro w hSw
                  obtain ⟨z9, z6, z8, zn, zx⟩ := hSw
                  go_simp
                show wpAnyH Try.prog .any _ _ _ 5 #[false, true, true, true, true, true, true, true, true, false, false, false, false] { tmps := #[_, _, _, _, _, _, .pointer (some ⟨w1.heap.size, 0, none⟩), .pointer (some ⟨w1.heap.size + 1, 0, none⟩), .pointer (some ⟨wr.heap.size, 0, none⟩), .pointer (some ⟨wr.heap.size + 1, 0, none⟩), _, .pointer (some ⟨Bx, 0, none⟩), _, _, _, _, _, _, _, _, _, _, _, _, _, _, _, _, _, _, _, _, _, _, _, _, _, _, _, _, _, _, _, _, _, _, .int .i32 e, .slice (some ⟨ge, 0, none⟩) es.length cape, .int .i64 (k : Int), .int .i64 ((k : Int) + 1), .pointer (some ⟨ge, k + 1, none⟩), .int .i32 e2, .int .i32 (e2 - 1), .pointer (some ⟨Bx, 2, none⟩), _, _, _, _, _], defers := [] } _
                refine wpAnyH_take (i := 9) (oi := _) (v := .int .i64 h) rfl (by kernel_rfl) (by kernel_rfl) (by kernel_rfl) (fun _ _ _ h => h) (Or.inl ⟨by rfl, ?_⟩) hS ?_
                · intro w hSw
                  obtain ⟨z9, z6, z8, zn, zx⟩ := hSw
                  go_simp
                show wpAnyH Try.prog .any _ _ _ 4 #[false, true, true, true, true, true, true, true, true, true, false, false, false] { tmps := #[_, _, _, _, _, _, .pointer (some ⟨w1.heap.size, 0, none⟩), .pointer (some ⟨w1.heap.size + 1, 0, none⟩), .pointer (some ⟨wr.heap.size, 0, none⟩), .pointer (some ⟨wr.heap.size + 1, 0, none⟩), _, .pointer (some ⟨Bx, 0, none⟩), _, _, _, _, _, _, _, _, _, _, _, _, _, _, _, _, _, _, _, _, _, _, _, _, _, _, _, _, _, _, _, _, _, _, .int .i32 e, .slice (some ⟨ge, 0, none⟩) es.length cape, .int .i64 (k : Int), .int .i64 ((k : Int) + 1), .pointer (some ⟨ge, k + 1, none⟩), .int .i32 e2, .int .i32 (e2 - 1), .pointer (some ⟨Bx, 2, none⟩), .int .i64 h, _, _, _, _], defers := [] } _
                refine wpAnyH_take (i := 10) (oi := _) (v := .agg #[.int .i32 e, .int .i32 (e2 - 1), .int .i64 h]) rfl (by kernel_rfl) (by kernel_rfl) (by kernel_rfl) (fun _ _ _ h => h) (Or.inl ⟨by rfl, ?_⟩) hS ?_
                · intro w hSw
                  obtain ⟨z9, z6, z8, zn, zx⟩ := hSw
                  go_simp
                show wpAnyH Try.prog .any _ _ _ 3 #[false, true, true, true, true, true, true, true, true, true, true, false, false] { tmps := #[_, _, _, _, _, _, .pointer (some ⟨w1.heap.size, 0, none⟩), .pointer (some ⟨w1.heap.size + 1, 0, none⟩), .pointer (some ⟨wr.heap.size, 0, none⟩), .pointer (some ⟨wr.heap.size + 1, 0, none⟩), _, .pointer (some ⟨Bx, 0, none⟩), _, _, _, _, _, _, _, _, _, _, _, _, _, _, _, _, _, _, _, _, _, _, _, _, _, _, _, _, _, _, _, _, _, _, .int .i32 e, .slice (some ⟨ge, 0, none⟩) es.length cape, .int .i64 (k : Int), .int .i64 ((k : Int) + 1), .pointer (some ⟨ge, k + 1, none⟩), .int .i32 e2, .int .i32 (e2 - 1), .pointer (some ⟨Bx, 2, none⟩), .int .i64 h, .agg #[.int .i32 e, .int .i32 (e2 - 1), .int .i64 h], _, _, _], defers := [] } _
                refine wpAnyH_ready (rs := [0]) (by kernel_rfl) (by simp) ?_
                refine AllReadyH.cons (o := _) rfl (fun K hK => ?_) AllReadyH.nil
                have c7 : w'.drew.cell? ⟨w1.heap.size + 1, 0, none⟩ = some tv := hg2.cell u1.cell
                go_simp
                refine hK.out _ _ hS (fun _ => ?_)
                clear hK
                show wpAnyH Try.prog .any _ _ _ 2 #[true, true, true, true, true, true, true, true, true, true, true, false, false] { tmps := #[_, _, _, _, _, _, _, .pointer (some ⟨w1.heap.size + 1, 0, none⟩), _, _, _, _, _, _, _, _, _, _, _, _, _, _, _, _, _, _, _, _, _, _, _, _, _, _, _, _, _, _, _, _, _, _, _, _, _, tv, _, _, _, _, _, _, _, _, _, .agg #[.int .i32 e, .int .i32 (e2 - 1), .int .i64 h], _, _, _], defers := [] } _
                have gd : Gr W w'.drew := hg2.drew
                have od : Ow (w1.heap.size + 2) tv (bldTo l es k) w'.drew := own_gr3 u2 gd
                have Td := hI.2.1.gr gd
                have b7d := boxed_gr u1 gd
                have b8d := boxed_gr hI.2.2.1 gd
                have b9d := boxed_gr hI.2.2.2.1 gd
                have hrw : ∀ g, tv.ownBlock = some g → w1.heap.size + 2 ≤ g ∧ g < w4.heap.size := fun g eg => ⟨(World.ownsRow.lt u2 g eg).1, hI.1.2.2 g eg⟩
                have hgek := hge (by omega)
                have hn1 := (unhide TK).n1l
                have HLAY := hide (lay_any (w1.heap.size + 2) tv (bldTo l es k) e (e2 - 1) h w'.drew od Td.n1l (by omega) (fun h0 => by
                  have := hbt _ (getD_mem _ ((bldTo l es k).length - 1) (by omega))
                  omega))
                generalize w'.drew = wd at *
                refine wpAnyH_ready (rs := [11]) (by kernel_rfl) (by simp) ?_
                refine AllReadyH.cons (o := _) rfl (fun K hK => ?_) AllReadyH.nil
                go_simp
                refine (unhide HLAY).mono ?_
                rintro er w5 ⟨g, cap, rfl, how, hgr, hat⟩
                have hfar : ∀ q, q < w1.heap.size + 2 ∨ w4.heap.size ≤ q → some q ≠ tv.ownBlock := fun q hq eq => by have := hrw q eq.symm; omega
                have n8 : some wr.heap.size ≠ tv.ownBlock := Boxed.not_row b8d (by decide) od
                have n9 : some (wr.heap.size + 1) ≠ tv.ownBlock := Boxed.not_row b9d (by decide) od
                have b7e := b7d.kept hgr (hfar _ (.inl (by omega)))
                have r9 : w5.cell? ⟨wr.heap.size + 1, 0, none⟩ = some (.int .i32 e) := (hgr.cell_far _ (cell_lt hS.1) n9).trans hS.1
                have r6 : w5.cell? ⟨w1.heap.size, 0, none⟩ = some (.slice (some ⟨ge, 0, none⟩) es.length cape) := (hgr.cell_far _ (cell_lt hS.2.1) (hfar _ (.inl (by dsimp only; omega)))).trans hS.2.1
                have r8 : w5.cell? ⟨wr.heap.size, 0, none⟩ = some (.int .i64 (k : Int)) := (hgr.cell_far _ (cell_lt hS.2.2.1) n8).trans hS.2.2.1
                have rn : w5.cell? ⟨ge, k + 1, none⟩ = some (.int .i32 e2) := (hgr.cell_far _ (cell_lt hS.2.2.2.1) (hfar _ (.inl (by dsimp only; omega)))).trans hS.2.2.2.1
                have rx : w5.cell? ⟨Bx, 2, none⟩ = some (.int .i64 h) := (hgr.cell_far _ (cell_lt hS.2.2.2.2) (hfar _ (.inr hBx))).trans hS.2.2.2.2
                refine hK.out _ _ ⟨r9, r6, r8, rn, rx⟩ (fun _ => ?_)
                clear hK
                show wpAnyH Try.prog .any _ _ _ 1 #[true, true, true, true, true, true, true, true, true, true, true, true, false] { tmps := #[_, _, _, _, _, _, _, .pointer (some ⟨w1.heap.size + 1, 0, none⟩), _, _, _, _, _, _, _, _, _, _, _, _, _, _, _, _, _, _, _, _, _, _, _, _, _, _, _, _, _, _, _, _, _, _, _, _, _, _, _, _, _, _, _, _, _, _, _, _, .slice (some ⟨g, 0, none⟩) _ cap, _, _], defers := [] } _
                refine wpAnyH_ready (rs := [12]) (by kernel_rfl) (by simp) ?_
                refine AllReadyH.cons (o := _) rfl (fun K hK => ?_) AllReadyH.nil
                have c7e := b7e.cell
                have f7e := b7e.frozen
                go_simp
                have hot : ∀ (q p : Nat) (u v : Value), q ≠ w1.heap.size + 1 → w5.cell? ⟨q, p, none⟩ = some u → (w5.setCell ⟨w1.heap.size + 1, 0, none⟩ v).cell? ⟨q, p, none⟩ = some u := fun q p u v hq hc => by
                  rw [World.cell?_setCell_other _ _ _ _ (by intro he; apply hq; simp at he)]
                  exact hc
                refine hK.out _ _ ⟨hot _ _ _ _ (by omega) r9, hot _ _ _ _ (by omega) r6, hot _ _ _ _ (by omega) r8, hot _ _ _ _ (by omega) rn, hot _ _ _ _ (by omega) rx⟩ (fun _ => ?_)
                clear hK hot
                refine wpAnyH_done (by kernel_rfl) ?_ _
                have TL := Td.laid b7d od hgr how (by omega) (by omega) (by omega) (fun _ => ⟨by omega, by omega⟩) (by have := hW1.size; omega)
                have KF : KeepsFrom w4.heap.size W (w5.setCell ⟨w1.heap.size + 1, 0, none⟩ (.slice (some ⟨g, 0, none⟩) (layL (bldTo l es k) ⟨e, e2 - 1, h⟩).length cap)) :=
                  (KeepsFrom.gr gd).trans ((KeepsFrom.of_grownBy hgr (fun j ej => (hrw j ej).2)).trans (KeepsFrom.of_grownBy (grownBy_setCell' _ _ _) (fun j ej => by cases ej; omega)))
                generalize w5.setCell ⟨w1.heap.size + 1, 0, none⟩ (.slice (some ⟨g, 0, none⟩) (layL (bldTo l es k) ⟨e, e2 - 1, h⟩).length cap) = w6 at *
                gi_wp2
                refine ⟨KF, rfl, pre, x, rfl, hI.2.2.2.2, unhide HIN2, ?_⟩
                rw [← unhide HSX, ← unhide HEQ, ← unhide HEQ2, if_neg hne]
                exact TL
              · have h0 : h = 0 := by simpa using hh0
                clear hh0
                have hin2 : inS (l.getD x sp0) (es.getD k 0) = true := by rw [← unhide HSX, ← unhide HEQ]; exact unhide HIN
                have HIN2 := hide hin2
                have H0 := hide h0
                clear hin2
                subst h0
                gi_wp2_with (refine ⟨trivial, ?_⟩; gi_at_call 23; refine (CallsIn.inRound lz (callsIn_wide.2 (unhide HH _))).mono ?_; rintro e w' ⟨rfl, hg2⟩; replace y3 := hg2.cell y3)
                refine ⟨KeepsFrom.gr hg2, rfl, pre, x, rfl, hI.2.2.2.2, unhide HIN2, ?_⟩
                rw [← unhide HSX, if_pos rfl]
                exact hI.2.1.gr hg2
          case done =>
            rintro D ys W hD rfl hI hK
            have hlv := lastV_miss l (es.getD k 0) hI.2.2.2.2
            have TN : Hid (TS w (w1.heap.size + 2) w1.heap.size (w1.heap.size + 1) ge cape es (bldTo l es (k + 1)) (D :: Ds) W) := by
              have hT := hI.2.1
              have hb : bldTo l es (k + 1) = bldTo l es k := by simp only [bldTo]; rw [if_pos hlv]
              rw [hb]
              exact ⟨hT.b6, hT.b7, hT.ec, hT.bel, hT.n1l, fun D2 h2 => by
                rcases List.mem_cons.1 h2 with rfl | h2
                · exact ⟨by omega, hK⟩
                · exact hT.ms D2 h2, List.nodup_cons.2 ⟨fun h2 => by have := hDB D h2; omega, hT.nd⟩⟩
            clear hI hK hlv
            go_wp2
            refine ⟨by rw [unhide HLV]; exact ⟨k + 1, D :: Ds, _, _, _, _, _, _, _, _, _, _, _, _, _, _, _, _, _, _, _, _, _, _, _, _, _, _, _, _, _, _, _, by omega, rfl, TN⟩, by simp [intOf]; omega⟩
          case stop =>
            rintro D cd pre W hD ⟨j, hj, rfl⟩ ⟨rfl, ini, x, hpre, hno, hin, hT⟩ hK
            have hj0 : 0 < j := by
              rcases Nat.eq_zero_or_pos j with h0 | h0
              · subst h0; simp [down] at hpre
              · exact h0
            obtain ⟨j2, rfl⟩ : ∃ j2, j = j2 + 1 := ⟨j - 1, by omega⟩
            rw [down_succ] at hpre
            obtain ⟨hp1, hp2⟩ := List.append_inj' hpre rfl
            have hx : l.length - 1 - j2 = x := by simpa using hp2
            subst hx
            subst hp1
            have hlv := lastV_hit l (es.getD k 0) j2 (by omega) hin hno
            have TN : Hid (TS w (w1.heap.size + 2) w1.heap.size (w1.heap.size + 1) ge cape es (bldTo l es (k + 1)) (D :: Ds) W) := by
              have hb : bldTo l es (k + 1) = (if (l.getD (l.length - 1 - j2) sp0).h = 0 then bldTo l es k else layL (bldTo l es k) ⟨es.getD k 0, es.getD (k + 1) 0 - 1, (l.getD (l.length - 1 - j2) sp0).h⟩) := by simp only [bldTo]; rw [hlv]
              rw [hb]
              exact ⟨hT.b6, hT.b7, hT.ec, hT.bel, hT.n1l, fun D2 h2 => by
                rcases List.mem_cons.1 h2 with rfl | h2
                · exact ⟨by omega, hK⟩
                · exact hT.ms D2 h2, List.nodup_cons.2 ⟨fun h2 => by have := hDB D h2; omega, hT.nd⟩⟩
            clear hT hK hlv hin hno hpre
            refine wpIn_wide.2 ?_
            go_wp2
            refine ⟨by rw [unhide HLV]; exact ⟨k + 1, D :: Ds, _, _, _, _, _, _, _, _, _, _, _, _, _, _, _, _, _, _, _, _, _, _, _, _, _, _, _, _, _, _, _, by omega, rfl, TN⟩, by simp [intOf]; omega⟩
        · have hzk : ¬ (k : Int) < (es.length : Int) := by omega
          obtain ⟨tv, t1, t2⟩ := (unhide TK).b7
          have c7 := t1.cell
          have hms := (unhide TK).ms
          have hnd := (unhide TK).nd
          have hbl := (unhide TK).bel
          have hke : k = es.length := by omega
          go_wp2
          refine leaves_marks w.heap.size (fun W => Ow (w1.heap.size + 2) tv (bldTo l es k) W ∧ Below w.heap.size w W) (fun W D h hD hd => ⟨ownsRow_putObj h.1 _ hd rfl, h.2.grown (grownBy_putObj' W D _) h.2.size (fun q e => by cases e; exact hD)⟩) (fun W h => ?_) Ds wr hnd hms ⟨t2, hbl⟩
          refine ⟨_, results_tmp2 rfl _ _ _, tv, es, rfl, unhide HPW, hln2, unhide HMEM, ?_, h.2⟩
          rw [← hke]
          exact h.1.tab
end Go.Proofs.Ytnlkefdicpeemaa
