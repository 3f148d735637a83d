/- The document's value of layer 18: what it reads is the landed reading, where nothing is left. -/
import Derived.Test.YtnhojjheoafhaaaDoorRVal18
import Derived.Test.YtnhojjheoafhaaaDoorRCut18
import Derived.Test.YtnhojjheoafhaaaDoorDd18
namespace Go.Proofs.YtnhojjheoafhaaaDoor
set_option maxRecDepth 100000
open Go.RowKit

/-- What the document's value tells. -/
def vdOk (l : List Int) (a : ByteArray) (ok : Bool) : Prop := match valL true false l with
  | some (c :: v, []) => ok = true ∧ a = strOfNums (c :: v)
  | _ => ok = false
theorem vd_no {l : List Int} (h : valL true false l = none) (a : ByteArray) : vdOk l a false := by unfold vdOk; rw [h]
theorem vd_sep {l D X : List Int} (h : valL true false l = some (D, X)) (hX : X ≠ []) (a : ByteArray) : vdOk l a false := by
  unfold vdOk
  rw [h]
  cases X with
  | nil => exact absurd rfl hX
  | cons _ _ => cases D <;> rfl
theorem vd_nil {l : List Int} {X : List Int} (h : valL true false l = some ([], X)) (a : ByteArray) : vdOk l a false := by unfold vdOk; rw [h]
theorem vd_yes {l D : List Int} (h : valL true false l = some (D, [])) (hD : 0 < D.length) : vdOk l (strOfNums D) true := by
  unfold vdOk
  rw [h]
  cases D with
  | nil => simp at hD
  | cons _ _ => exact ⟨rfl, rfl⟩
theorem sgn_sep {c : Int} (h : sgn c = false) : ¬ (c = 44 ∨ c = 43) := by
  intro e
  rcases e with e | e <;> (rw [e] at h; revert h; decide)
theorem esc_sgn {c : Int} (h : esc c = false) : sgn c = false := by
  unfold esc at h
  exact (Bool.or_eq_false_iff.1 h).1
theorem drop0 (l : List Int) (i : Nat) : (l.drop i).getD 0 0 = l.getD i 0 := by rw [getD_drop, Nat.add_zero]
theorem vs_sgn {l D : List Int} {i : Nat} {b : Bool} (ha : atL l i b D) (hi : i < l.length) (h92 : l.getD i 0 ≠ 92) (hs : sgn (l.getD i 0) = true) (a : ByteArray) : vdOk l a false := by
  by_cases h : l.getD i 0 = 44 ∨ l.getD i 0 = 43
  · have := atL_end ha (.inr h)
    cases b
    · exact vd_sep this (fun e => by have := congrArg List.length e; rw [List.length_drop] at this; simp at this; omega) a
    · exact vd_no this a
  · exact vd_no (atL_none ha hi h (.inl (by rw [rd_sgn (by rw [drop0]; exact h92) (by rw [drop0]; exact hs)]))) a
theorem vs_first {l D : List Int} {i : Nat} {b : Bool} (ha : atL l i b D) (hi : i < l.length) (i0 : i = 0) (h : l.getD i 0 = 32 ∨ l.getD i 0 = 35) (a : ByteArray) : vdOk l a false := by
  have e := rd_bare (l := l.drop i) (by rw [drop0]; omega) (by rw [drop0]; rcases h with h | h <;> rw [h] <;> decide)
  rw [drop0] at e
  exact vd_no (atL_none ha hi (by omega) (.inr ⟨i0, by rw [e], by rw [e]; exact h⟩)) a
theorem vs_bare {l D : List Int} {i : Nat} {b : Bool} (ha : atL l i b D) (hi : i < l.length) (h92 : l.getD i 0 ≠ 92) (hs : sgn (l.getD i 0) = false) (h : ¬ (i = 0 ∧ (l.getD i 0 = 32 ∨ l.getD i 0 = 35))) : atL l (i + 1) (decide (l.getD i 0 = 32)) (D ++ [l.getD i 0]) := by
  have e := rd_bare (l := l.drop i) (by rw [drop0]; exact h92) (by rw [drop0]; exact hs)
  rw [drop0] at e
  have := atL_step ha hi (sgn_sep hs) (by rw [e]; simp) (by rw [e]; exact fun q => h ⟨q.1, q.2.2⟩)
  rw [e] at this
  simpa using this
theorem vs_short {l D : List Int} {i : Nat} {b : Bool} (ha : atL l i b D) (hi : i < l.length) (h92 : l.getD i 0 = 92) (h1 : ¬ i + 2 < l.length) (h2 : ¬ (i + 1 < l.length ∧ esc (l.getD (i + 1) 0) = true)) (a : ByteArray) : vdOk l a false :=
  vd_no (atL_none ha hi (by omega) (.inl (by rw [rd_short (by rw [drop0]; exact h92) (by rw [List.length_drop]; omega) (by rw [List.length_drop, getD_drop]; exact fun q => h2 ⟨by omega, q.2⟩)]))) a
theorem vs_esc {l D : List Int} {i : Nat} {b : Bool} (ha : atL l i b D) (h92 : l.getD i 0 = 92) (h1 : i + 1 < l.length) (h2 : esc (l.getD (i + 1) 0) = true) : atL l (i + 2) false (D ++ [l.getD (i + 1) 0]) := by
  have e := rd_esc (l := l.drop i) (by rw [drop0]; exact h92) (by rw [List.length_drop]; omega) (by rw [getD_drop]; exact h2)
  rw [getD_drop] at e
  have := atL_step ha (by omega) (by omega) (by rw [e]; simp) (by rw [e]; simp)
  rw [e] at this
  simpa using this
theorem vs_nohex {l D : List Int} {i : Nat} {b : Bool} (ha : atL l i b D) (h92 : l.getD i 0 = 92) (h1 : i + 2 < l.length) (h2 : esc (l.getD (i + 1) 0) = false) (h3 : ¬ (unh (l.getD (i + 1) 0) < 16 ∧ unh (l.getD (i + 2) 0) < 16)) (a : ByteArray) : vdOk l a false :=
  vd_no (atL_none ha (by omega) (by omega) (.inl (by rw [rd_none (by rw [drop0]; exact h92) (by rw [List.length_drop]; omega) (by rw [getD_drop]; exact h2) (by rw [getD_drop, getD_drop]; exact hexG_no h3)]))) a
theorem vs_hex {l D : List Int} {i : Nat} {b : Bool} (ha : atL l i b D) (h92 : l.getD i 0 = 92) (h1 : i + 2 < l.length) (h2 : esc (l.getD (i + 1) 0) = false) (h3 : unh (l.getD (i + 1) 0) < 16) (h4 : unh (l.getD (i + 2) 0) < 16) : atL l (i + 3) false (D ++ [16 * unh (l.getD (i + 1) 0) + unh (l.getD (i + 2) 0)]) := by
  have e := rd_hex (l := l.drop i) (by rw [drop0]; exact h92) (by rw [List.length_drop]; omega) (by rw [getD_drop]; exact h2) (by rw [getD_drop, getD_drop]; exact hexG_yes h3 h4)
  have := atL_step ha (by omega) (by omega) (by rw [e]; simp) (by rw [e]; simp)
  rw [e] at this
  simpa using this
set_option maxHeartbeats 12800000 in
theorem rdvalue_any (s : ByteArray) (w : World) (hs : s.size ≤ 3000) : Calls Tryd.prog 21 #[.string s] w fun e w' => ∃ a ok, e = .returned (.tuple #[.string a, .bool ok]) ∧ vdOk (nums s) a ok ∧ Below w.heap.size w w' := by
  obtain ⟨i0, hi, hz0, hz1, hz2⟩ := info_parts u8_info
  have hnl := hide (nums_length s)
  go_enter Tryd.func21, Tryd.ntmps21
  go_wp2
  go_loopw [4, 5, 6] (fun vo vi vb wr => ∃ (i : Nat) (D : List Int) (b : Bool), vi = .int .i64 (i : Int) ∧ vb = .bool b ∧ i ≤ s.size ∧ D.length ≤ i ∧ Hid (atL (nums s) i b D) ∧ Hid (Ob w.heap.size vo D wr) ∧ Below w.heap.size w wr) (fun _ i _ _ => s.size - (intOf i).toNat)
  case atStart => exact ⟨0, [], false, rfl, rfl, Nat.zero_le _, Nat.le_refl _, atL_start _, ⟨rfl, .inl ⟨rfl, rfl⟩⟩, Below.refl _ _⟩
  case round =>
    obtain ⟨i, D, b, rfl, rfl, his, hD, HA, HO, hb⟩ := hrel
    have hsz := hb.size
    obtain ⟨N, hN⟩ : ∃ N, N = D.length := ⟨_, rfl⟩
    have HN := hide hN
    rw [← hN] at hD
    clear hN
    have hm1 : N + 1 ≤ maxLen := by unfold maxLen; omega
    have hb1 : (N + 1) * 1 ≤ 140737488355328 := by omega
    by_cases hlt : i < s.size
    · have hzl : (i : Int) < (s.size : Int) := by omega
      have hz0' : (0 : Int) ≤ (i : Int) := by omega
      have HL : Hid (i < (nums s).length) := by show _ < _; rw [unhide hnl]; exact hlt
      obtain ⟨c, hc⟩ : ∃ c : Int, (s[i].toNat : Int) = c := ⟨_, rfl⟩
      have HAT : Hid ((nums s).getD i 0 = c) := by show _ = _; rw [nums_at s i hlt]; exact hc
      by_cases h92 : c = 92
      · have wi1 : IntKind.i64.wrap ((i : Int) + 1) = ((i + 1 : Nat) : Int) := by rw [wrap_in (by omega) (by omega)]; omega
        have wi2 : IntKind.i64.wrap ((i : Int) + 2) = ((i + 2 : Nat) : Int) := by rw [wrap_in (by omega) (by omega)]; omega
        have wi3 : IntKind.i64.wrap ((i : Int) + 3) = ((i + 3 : Nat) : Int) := by rw [wrap_in (by omega) (by omega)]; omega
        have HAT2 : Hid ((nums s).getD i 0 = 92) := by show _ = _; rw [unhide HAT]; exact h92
        clear HAT
        subst h92
        obtain ⟨j, hj⟩ : ∃ j, j = i + 1 := ⟨_, rfl⟩
        obtain ⟨k, hk⟩ : ∃ k, k = i + 2 := ⟨_, rfl⟩
        obtain ⟨m, hm⟩ : ∃ m, m = i + 3 := ⟨_, rfl⟩
        rw [← hj] at wi1
        rw [← hk] at wi2
        rw [← hm] at wi3
        have HJ := hide hj
        have HK := hide hk
        have HM := hide hm
        by_cases hj1 : j < s.size
        · have zj : (j : Int) < (s.size : Int) := by omega
          have zj0 : (0 : Int) ≤ (j : Int) := by omega
          have zj1 : ¬ (s.size : Int) ≤ (j : Int) := by omega
          have db := getD_nums s j
          obtain ⟨d, hd⟩ : ∃ d : Int, (s[j].toNat : Int) = d := ⟨_, rfl⟩
          have HDT : Hid ((nums s).getD (i + 1) 0 = d) := by show _ = _; rw [← unhide HJ, nums_at s j hj1]; exact hd
          rw [nums_at s j hj1, hd] at db
          obtain ⟨d0, d1⟩ := db
          have CS := hide (rsign_any d)
          by_cases he : esc d = true
          · have HA2 : Hid (atL (nums s) (i + 2) false (D ++ [d])) := by
              show atL _ _ _ _
              have := vs_esc (unhide HA) (unhide HAT2) (by rw [unhide hnl]; omega) (by rw [unhide HDT]; exact he)
              rwa [unhide HDT] at this
            rw [← hk] at HA2
            have zk : k ≤ s.size := by omega
            have zik : i < k := by omega
            have zNk : N + 1 ≤ k := by omega
            by_cases hsg : sgn d = true
            · rw [hsg] at CS
              clear hj hk hm he hsg
              go_wp2_with (first
                | (at_builtin; refine wpList_append_lies _ rfl _ _ 55 rfl w.heap.size 5 i0 _ 1 1 Tryd.underlying55 hi hz0 hz1 hz2 rfl (by omega) _ N _ rfl (World.ownsRow.alloc (Ob.own (unhide HN) (unhide HO)) _) ⟨wr.heap.size, 0, none⟩ 1 1 [.int .u8 d] rfl rfl (World.news_of_block (cs := #[.int .u8 d]) (t := 5) (fr := (0, 0)) (heap_new wr _)) (by simp [Value.oneCell']) (by omega) hm1 hb1 (by simp; omega) (wr.heap.size + 1) (by simp) ?_; intro g9 cap9 w9 hown9 hgrow9 hat9 hlt9)
                | (go_at_call 31; refine (unhide CS _).mono ?_; rintro e w3 ⟨rfl, rfl⟩))
              go_roundw
              case rel =>
                refine ⟨k, D ++ [d], false, by first | rfl | go_num, rfl, by omega, ?_, unhide HA2, Ob.push (unhide HN) (Z := [d]) rfl hown9, hb.trans (below_own (grown_new hgrow9) hsz (own_block (Ob.own (unhide HN) (unhide HO))))⟩
                rw [List.length_append, ← unhide HN]; simp; omega
              case measure => simp [intOf]; omega
            · have h2 : d = 32 ∨ d = 35 := by
                unfold esc at he
                rw [Bool.not_eq_true] at hsg
                rw [hsg] at he
                simpa using he
              rw [Bool.not_eq_true] at hsg
              rw [hsg] at CS
              clear hj hk hm he hsg
              rcases h2 with h2 | h2
              · subst h2
                go_wp2_with (first
                  | (at_builtin; refine wpList_append_lies _ rfl _ _ 55 rfl w.heap.size 5 i0 _ 1 1 Tryd.underlying55 hi hz0 hz1 hz2 rfl (by omega) _ N _ rfl (World.ownsRow.alloc (Ob.own (unhide HN) (unhide HO)) _) ⟨wr.heap.size, 0, none⟩ 1 1 [.int .u8 32] rfl rfl (World.news_of_block (cs := #[.int .u8 32]) (t := 5) (fr := (0, 0)) (heap_new wr _)) (by simp [Value.oneCell']) (by omega) hm1 hb1 (by simp; omega) (wr.heap.size + 1) (by simp) ?_; intro g9 cap9 w9 hown9 hgrow9 hat9 hlt9)
                  | (go_at_call 31; refine (unhide CS _).mono ?_; rintro e w3 ⟨rfl, rfl⟩))
                go_roundw
                case rel =>
                  refine ⟨k, D ++ [32], false, by first | rfl | go_num, rfl, by omega, ?_, unhide HA2, Ob.push (unhide HN) (Z := [32]) rfl hown9, hb.trans (below_own (grown_new hgrow9) hsz (own_block (Ob.own (unhide HN) (unhide HO))))⟩
                  rw [List.length_append, ← unhide HN]; simp; omega
                case measure => simp [intOf]; omega
              · subst h2
                go_wp2_with (first
                  | (at_builtin; refine wpList_append_lies _ rfl _ _ 55 rfl w.heap.size 5 i0 _ 1 1 Tryd.underlying55 hi hz0 hz1 hz2 rfl (by omega) _ N _ rfl (World.ownsRow.alloc (Ob.own (unhide HN) (unhide HO)) _) ⟨wr.heap.size, 0, none⟩ 1 1 [.int .u8 35] rfl rfl (World.news_of_block (cs := #[.int .u8 35]) (t := 5) (fr := (0, 0)) (heap_new wr _)) (by simp [Value.oneCell']) (by omega) hm1 hb1 (by simp; omega) (wr.heap.size + 1) (by simp) ?_; intro g9 cap9 w9 hown9 hgrow9 hat9 hlt9)
                  | (go_at_call 31; refine (unhide CS _).mono ?_; rintro e w3 ⟨rfl, rfl⟩))
                go_roundw
                case rel =>
                  refine ⟨k, D ++ [35], false, by first | rfl | go_num, rfl, by omega, ?_, unhide HA2, Ob.push (unhide HN) (Z := [35]) rfl hown9, hb.trans (below_own (grown_new hgrow9) hsz (own_block (Ob.own (unhide HN) (unhide HO))))⟩
                  rw [List.length_append, ← unhide HN]; simp; omega
                case measure => simp [intOf]; omega
          · rw [Bool.not_eq_true] at he
            have hsg := esc_sgn he
            have h32 : (d == 32) = false := by rw [beq_eq_false_iff_ne]; intro e; rw [e] at he; revert he; decide
            have h35 : (d == 35) = false := by rw [beq_eq_false_iff_ne]; intro e; rw [e] at he; revert he; decide
            rw [hsg] at CS
            clear hsg
            by_cases hk1 : k < s.size
            · have zk : (k : Int) < (s.size : Int) := by omega
              have zk0 : (0 : Int) ≤ (k : Int) := by omega
              have zk1 : ¬ (s.size : Int) ≤ (k : Int) := by omega
              have eb := getD_nums s k
              obtain ⟨g, hg⟩ : ∃ g : Int, (s[k].toNat : Int) = g := ⟨_, rfl⟩
              have HET : Hid ((nums s).getD (i + 2) 0 = g) := by show _ = _; rw [← unhide HK, nums_at s k hk1]; exact hg
              rw [nums_at s k hk1, hg] at eb
              obtain ⟨e0, e1⟩ := eb
              have CU1 := hide (fun W => runhex_any d W d0 d1)
              have CU2 := hide (fun W => runhex_any g W e0 e1)
              have HNX : Hid (¬ (unh d < 16 ∧ unh g < 16) → ∀ a, vdOk (nums s) a false) := fun q a => vs_nohex (unhide HA) (unhide HAT2) (by rw [unhide hnl]; omega) (by rw [unhide HDT]; exact he) (by rw [unhide HDT, unhide HET]; exact q) a
              have HYX : Hid (unh d < 16 → unh g < 16 → atL (nums s) (i + 3) false (D ++ [16 * unh d + unh g])) := fun q1 q2 => by
                have := vs_hex (unhide HA) (unhide HAT2) (by rw [unhide hnl]; omega) (by rw [unhide HDT]; exact he) (by rw [unhide HDT]; exact q1) (by rw [unhide HET]; exact q2)
                rwa [unhide HDT, unhide HET] at this
              rw [← hm] at HYX
              have x0 := unh_nn d
              have y0 := unh_nn g
              have zm : m ≤ s.size := by omega
              have zim : i < m := by omega
              have zNm : N + 1 ≤ m := by omega
              clear hj hk hm he HET HDT HAT2 HA
              generalize unh d = x at *
              generalize unh g = y at *
              by_cases hx : x < 16
              · have hx1 : ¬ (15 : Int) < x := by omega
                by_cases hy : y < 16
                · have hy1 : ¬ (15 : Int) < y := by omega
                  obtain ⟨z, hz⟩ : ∃ z : Int, z = 16 * x + y := ⟨_, rfl⟩
                  have w16 : IntKind.i64.wrap (16 * x) = 16 * x := wrap_in (by omega) (by omega)
                  have wz : IntKind.i64.wrap (16 * x + y) = z := by rw [wrap_in (by omega) (by omega)]; exact hz.symm
                  have wu : IntKind.u8.wrap z = z := by simp [IntKind.wrap, IntKind.bits, IntKind.signed]; omega
                  have HA2 := hide (unhide HYX hx hy)
                  rw [← hz] at HA2
                  have hH1 := hide (heap_new wr (.cells #[.int .u8 z] 5))
                  clear hz HNX HYX
                  go_wp2_with (first
                    | (go_at_call_of 32 (d); refine (unhide CU1 _).mono ?_; rintro e w4 ⟨rfl, rfl⟩)
                    | (go_at_call_of 32 (g); refine (unhide CU2 _).mono ?_; rintro e w5 ⟨rfl, rfl⟩)
                    | (go_at_call 31; refine (unhide CS _).mono ?_; rintro e w3 ⟨rfl, rfl⟩))
                  go_region_held3 (fun _ => True) (trivial)
                    (first
                      | (refine step_append_lies _ (by rfl) _ _ 55 (by rfl) w.heap.size 5 i0 _ 1 1 Tryd.underlying55 hi hz0 hz1 hz2 rfl (by omega) _ N _ (by rfl) (((Ob.own (unhide HN) (unhide HO)).alloc _).drew) ⟨wr.heap.size, 0, none⟩ 1 1 [.int .u8 z] (by rfl) (by rfl) (World.news_of_block (cs := #[.int .u8 z]) (t := 5) (fr := (0, 0)) (unhide hH1)) (by simp [Value.oneCell']) (by omega) hm1 hb1 (by simp; omega) (wr.heap.size + 1) (by simp) ?_; intro g9 cap9 w9 hown9 hgrow9 hat9 hlt9)
                      | (go_at_call_of 32 (d); refine (unhide CU1 _).mono ?_; rintro e w4 ⟨rfl, rfl⟩)
                      | (go_at_call_of 32 (g); refine (unhide CU2 _).mono ?_; rintro e w5 ⟨rfl, rfl⟩))
                  all_goals
                    go_wp2
                    go_roundw
                    case rel =>
                      refine ⟨m, D ++ [z], false, by first | rfl | go_num, rfl, by omega, ?_, unhide HA2, Ob.push (unhide HN) (Z := [z]) rfl hown9, hb.trans (below_own (grown_drew hgrow9) hsz (own_block (Ob.own (unhide HN) (unhide HO))))⟩
                      rw [List.length_append, ← unhide HN]; simp; omega
                    case measure => simp [intOf]; omega
                · have hy1 : (15 : Int) < y := by omega
                  have HF := hide (unhide HNX (by omega))
                  clear HNX HYX
                  go_wp2_with (first
                    | (go_at_call_of 32 (d); refine (unhide CU1 _).mono ?_; rintro e w4 ⟨rfl, rfl⟩)
                    | (go_at_call_of 32 (g); refine (unhide CU2 _).mono ?_; rintro e w5 ⟨rfl, rfl⟩)
                    | (go_at_call 31; refine (unhide CS _).mono ?_; rintro e w3 ⟨rfl, rfl⟩))
                  go_ret2
                  exact ⟨⟨#[]⟩, false, rfl, unhide HF _, hb⟩
              · have hx1 : (15 : Int) < x := by omega
                have HF := hide (unhide HNX (by omega))
                clear HNX HYX
                go_wp2_with (first
                  | (go_at_call_of 32 (d); refine (unhide CU1 _).mono ?_; rintro e w4 ⟨rfl, rfl⟩)
                  | (go_at_call 31; refine (unhide CS _).mono ?_; rintro e w3 ⟨rfl, rfl⟩))
                go_ret2
                exact ⟨⟨#[]⟩, false, rfl, unhide HF _, hb⟩
            · have zk1 : (s.size : Int) ≤ (k : Int) := by omega
              have HF : Hid (∀ a, vdOk (nums s) a false) := fun a => vs_short (unhide HA) (unhide HL) (unhide HAT2) (by rw [unhide hnl]; omega) (by rw [unhide HDT, he]; simp) a
              clear hj hk hm he HA
              go_wp2_with (first
                | (go_at_call 31; refine (unhide CS _).mono ?_; rintro e w3 ⟨rfl, rfl⟩))
              go_ret2
              exact ⟨⟨#[]⟩, false, rfl, unhide HF _, hb⟩
        · have zj1 : (s.size : Int) ≤ (j : Int) := by omega
          have HF : Hid (∀ a, vdOk (nums s) a false) := fun a => vs_short (unhide HA) (unhide HL) (unhide HAT2) (by rw [unhide hnl]; omega) (by rw [unhide hnl]; omega) a
          clear hj hk hm HA
          go_wp2
          go_ret2
          exact ⟨⟨#[]⟩, false, rfl, unhide HF _, hb⟩
      have h92' : (c == 92) = false := by rw [beq_eq_false_iff_ne]; exact h92
      have CS := hide (rsign_any c)
      by_cases hsg : sgn c = true
      · have HF : Hid (∀ a, vdOk (nums s) a false) := fun a => vs_sgn (unhide HA) (unhide HL) (by rw [unhide HAT]; exact h92) (by rw [unhide HAT]; exact hsg) a
        rw [hsg] at CS
        clear hsg HA
        go_wp2_with (first
          | (go_at_call 31; refine (unhide CS _).mono ?_; rintro e w3 ⟨rfl, rfl⟩))
        go_ret2
        exact ⟨⟨#[]⟩, false, rfl, unhide HF _, hb⟩
      rw [Bool.not_eq_true] at hsg
      rw [hsg] at CS
      have HNF : Hid (¬ (i = 0 ∧ (c = 32 ∨ c = 35)) → atL (nums s) (i + 1) (decide (c = 32)) (D ++ [c])) := fun q => by
        have := vs_bare (unhide HA) (unhide HL) (by rw [unhide HAT]; exact h92) (by rw [unhide HAT]; exact hsg) (by rw [unhide HAT]; exact q)
        rwa [unhide HAT] at this
      clear hsg
      by_cases k0 : i = 0
      · have HF : Hid ((c = 32 ∨ c = 35) → ∀ a, vdOk (nums s) a false) := fun q a => vs_first (unhide HA) (unhide HL) k0 (by rw [unhide HAT]; exact q) a
        have k1 : (i : Int) = 0 := by omega
        have h00 : 0 < s.size := by omega
        have hc0 : (s[0].toNat : Int) = c := by have := hc; simp only [k0] at this; exact this
        by_cases h32 : c = 32
        · have HF2 := hide (unhide HF (.inl h32))
          clear HF HNF HA k0
          subst h32
          go_wp2_with (first
            | (go_at_call 31; refine (unhide CS _).mono ?_; rintro e w3 ⟨rfl, rfl⟩))
          go_ret2
          exact ⟨⟨#[]⟩, false, rfl, unhide HF2 _, hb⟩
        have g32 : (c == 32) = false := by rw [beq_eq_false_iff_ne]; exact h32
        by_cases h35 : c = 35
        · have HF2 := hide (unhide HF (.inr h35))
          clear HF HNF HA k0 g32 h32
          subst h35
          go_wp2_with (first
            | (go_at_call 31; refine (unhide CS _).mono ?_; rintro e w3 ⟨rfl, rfl⟩))
          go_ret2
          exact ⟨⟨#[]⟩, false, rfl, unhide HF2 _, hb⟩
        have g35 : (c == 35) = false := by rw [beq_eq_false_iff_ne]; exact h35
        have HA2 := hide (unhide HNF (by omega))
        rw [decide_eq_false h32] at HA2
        clear HF HNF HA k0 h32 h35
        go_wp2_with (first
          | (at_builtin; refine wpList_append_lies _ rfl _ _ 55 rfl w.heap.size 5 i0 _ 1 1 Tryd.underlying55 hi hz0 hz1 hz2 rfl (by omega) _ N _ rfl (World.ownsRow.alloc (Ob.own (unhide HN) (unhide HO)) _) ⟨wr.heap.size, 0, none⟩ 1 1 [.int .u8 c] rfl rfl (World.news_of_block (cs := #[.int .u8 c]) (t := 5) (fr := (0, 0)) (heap_new wr _)) (by simp [Value.oneCell']) (by omega) hm1 hb1 (by simp; omega) (wr.heap.size + 1) (by simp) ?_; intro g9 cap9 w9 hown9 hgrow9 hat9 hlt9)
          | (go_at_call 31; refine (unhide CS _).mono ?_; rintro e w3 ⟨rfl, rfl⟩))
        go_roundw
        case rel =>
          refine ⟨i + 1, D ++ [c], false, by first | rfl | go_num, rfl, by omega, ?_, unhide HA2, Ob.push (unhide HN) (Z := [c]) rfl hown9, hb.trans (below_own (grown_new hgrow9) hsz (own_block (Ob.own (unhide HN) (unhide HO))))⟩
          rw [List.length_append, ← unhide HN]; simp; omega
        case measure => simp [intOf]; omega
      have k1 : ((i : Int) == 0) = false := by rw [beq_eq_false_iff_ne]; omega
      have HA2 := hide (unhide HNF (by omega))
      by_cases h32 : c = 32
      · rw [decide_eq_true h32] at HA2
        clear HNF HA k0
        subst h32
        go_wp2_with (first
          | (at_builtin; refine wpList_append_lies _ rfl _ _ 55 rfl w.heap.size 5 i0 _ 1 1 Tryd.underlying55 hi hz0 hz1 hz2 rfl (by omega) _ N _ rfl (World.ownsRow.alloc (Ob.own (unhide HN) (unhide HO)) _) ⟨wr.heap.size, 0, none⟩ 1 1 [.int .u8 32] rfl rfl (World.news_of_block (cs := #[.int .u8 32]) (t := 5) (fr := (0, 0)) (heap_new wr _)) (by simp [Value.oneCell']) (by omega) hm1 hb1 (by simp; omega) (wr.heap.size + 1) (by simp) ?_; intro g9 cap9 w9 hown9 hgrow9 hat9 hlt9)
          | (go_at_call 31; refine (unhide CS _).mono ?_; rintro e w3 ⟨rfl, rfl⟩))
        go_roundw
        case rel =>
          refine ⟨i + 1, D ++ [32], true, by first | rfl | go_num, rfl, by omega, ?_, unhide HA2, Ob.push (unhide HN) (Z := [32]) rfl hown9, hb.trans (below_own (grown_new hgrow9) hsz (own_block (Ob.own (unhide HN) (unhide HO))))⟩
          rw [List.length_append, ← unhide HN]; simp; omega
        case measure => simp [intOf]; omega
      have g32 : (c == 32) = false := by rw [beq_eq_false_iff_ne]; exact h32
      rw [decide_eq_false h32] at HA2
      clear HNF HA k0 h32
      go_wp2_with (first
        | (at_builtin; refine wpList_append_lies _ rfl _ _ 55 rfl w.heap.size 5 i0 _ 1 1 Tryd.underlying55 hi hz0 hz1 hz2 rfl (by omega) _ N _ rfl (World.ownsRow.alloc (Ob.own (unhide HN) (unhide HO)) _) ⟨wr.heap.size, 0, none⟩ 1 1 [.int .u8 c] rfl rfl (World.news_of_block (cs := #[.int .u8 c]) (t := 5) (fr := (0, 0)) (heap_new wr _)) (by simp [Value.oneCell']) (by omega) hm1 hb1 (by simp; omega) (wr.heap.size + 1) (by simp) ?_; intro g9 cap9 w9 hown9 hgrow9 hat9 hlt9)
        | (go_at_call 31; refine (unhide CS _).mono ?_; rintro e w3 ⟨rfl, rfl⟩))
      go_roundw
      case rel =>
        refine ⟨i + 1, D ++ [c], false, by first | rfl | go_num, rfl, by omega, ?_, unhide HA2, Ob.push (unhide HN) (Z := [c]) rfl hown9, hb.trans (below_own (grown_new hgrow9) hsz (own_block (Ob.own (unhide HN) (unhide HO))))⟩
        rw [List.length_append, ← unhide HN]; simp; omega
      case measure => simp [intOf]; omega
    · have hzl : ¬ (i : Int) < (s.size : Int) := by omega
      have HE : Hid (valL true false (nums s) = if b then none else some (D, [])) := by
        show _ = _
        have := atL_end (unhide HA) (.inl (by rw [unhide hnl]; omega))
        rwa [List.drop_eq_nil_of_le (by rw [unhide hnl]; omega)] at this
      have cv := (unhide HO).conv
      clear HA
      rcases (unhide HO).2 with ⟨hv, h0⟩ | ⟨g, cap, cur, hv, _⟩
      · subst hv
        have HF : Hid (∀ a, vdOk (nums s) a false) := fun a => by
          have h := unhide HE
          rw [List.length_eq_zero_iff.1 h0] at h
          cases b
          · exact vd_nil h a
          · exact vd_no h a
        clear HE h0
        go_wp2
        go_ret2
        first | exact ⟨strOfNums D, false, rfl, unhide HF _, hb⟩ | exact ⟨strOfNums D, .inl ⟨rfl, unhide HF _, hb⟩⟩
      · rw [← unhide HN] at hv
        subst hv
        by_cases hp : 0 < N
        · have zp : (0 : Int) < (N : Int) := by omega
          cases b
          · have HY : Hid (vdOk (nums s) (strOfNums D) true) := vd_yes (unhide HE) (by rw [← unhide HN]; exact hp)
            clear HE
            go_wp2
            go_ret2
            first | exact ⟨strOfNums D, true, rfl, unhide HY, hb⟩ | exact ⟨strOfNums D, .inr ⟨rfl, unhide HY, hb⟩⟩
          · have HF : Hid (∀ a, vdOk (nums s) a false) := fun a => vd_no (unhide HE) a
            clear HE
            go_wp2
            go_ret2
            first | exact ⟨strOfNums D, false, rfl, unhide HF _, hb⟩ | exact ⟨strOfNums D, .inl ⟨rfl, unhide HF _, hb⟩⟩
        · have zp : ¬ (0 : Int) < (N : Int) := by omega
          have HF : Hid (∀ a, vdOk (nums s) a false) := fun a => by
            have h := unhide HE
            rw [List.length_eq_zero_iff.1 (show D.length = 0 by rw [← unhide HN]; omega)] at h
            cases b
            · exact vd_nil h a
            · exact vd_no h a
          clear HE
          go_wp2
          go_ret2
          first | exact ⟨strOfNums D, false, rfl, unhide HF _, hb⟩ | exact ⟨strOfNums D, .inl ⟨rfl, unhide HF _, hb⟩⟩
end Go.Proofs.YtnhojjheoafhaaaDoor
