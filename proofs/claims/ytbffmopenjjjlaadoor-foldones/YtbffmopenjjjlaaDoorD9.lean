/- Contracts of the landed fold: One, Map, Folded. -/
import Derived.Test.YtbffmopenjjjlaaDoorPut9
import Derived.Test.YtbffmopenjjjlaaDoorPutW9
import Derived.Test.YtbffmopenjjjlaaDoorKind2
import Derived.WalkMore
namespace Go.Proofs.YtbffmopenjjjlaaDoor
open Go.RowKit

theorem kindb_any (r : Int) (w : World) : Calls Tryd.prog 19 #[.int .i32 r] w fun e w' => e = .returned (.int .i64 (kd r)) ∧ Below w.heap.size w w' :=
  (kind_any r w).mono fun _ _ ⟨he, hg⟩ => ⟨he, hg.below⟩
theorem put_any (r : Int) (B : Nat) (v : Value) (T : List Int) (w : World) (hL : Ly w) (hr : In32' r) (hB : B ≤ w.heap.size) (h : Rn B v T w) (hT : T.length ≤ 100000) : Calls Tryd.prog 17 #[v, .int .i32 r] w fun e w' => ∃ v', e = .returned v' ∧ Rn B v' (T ++ foldL r) w' ∧ Below B w w' := by
  rw [← stL_fold]
  exact put_st r B v T w hL hr hB h hT

set_option maxHeartbeats 400000 in
theorem fone_rn (r : Int) (w : World) (hL : Ly w) (hr : In32' r) : Calls Tryd.prog 8 #[.int .i32 r] w fun e w' => ∃ v, e = .returned v ∧ Rn w.heap.size v (foldL r) w' ∧ Below w.heap.size w w' := by
  have H := hide (put_any r w.heap.size (.slice none 0 0) [] w hL hr (Nat.le_refl _) (Rn.nil _ _) (Nat.zero_le _))
  rw [List.nil_append] at H
  generalize foldL r = z at *
  go_enter Tryd.func8, Tryd.ntmps8
  go_wp2_with (go_at_call 17; refine (unhide H).mono ?_; rintro e w1 ⟨v1, rfl, r1, b1⟩)
  go_ret
  exact ⟨_, rfl, r1, b1⟩
theorem fone_any (r : Int) (w : World) (hL : Ly w) (hr : In32' r) : Calls Tryd.prog 8 #[.int .i32 r] w fun e w' => ∃ v, e = .returned v ∧ Row w' v (foldL r) ∧ Below w.heap.size w w' :=
  (fone_rn r w hL hr).mono fun _ _ ⟨v, he, h, hb⟩ => ⟨v, he, h.row, hb⟩

set_option maxHeartbeats 800000 in
theorem fmap_empty (fo : Bool) (a : Option Addr) (cap : Nat) (w : World) :
    Calls Tryd.prog 11 #[.bool fo, .slice a 0 cap] w fun e w' => ∃ v, e = .returned v ∧ Rn w.heap.size v [] w' ∧ Below w.heap.size w w' := by
  obtain ⟨i0, hi, hz0, hz1, hz2⟩ := info_parts elem_info
  go_enter Tryd.func11, Tryd.ntmps11
  go_wp2
  go_step3
  go_wp2_with (refine wpList_make_own _ rfl _ _ 23 rfl w.heap.size 21 i0 (.int .i32 0) 1 Tryd.underlying23 hi hz0 hz1 .i64 .i64 _ 0 rfl rfl rfl (by rw [hz2]; omega) (Nat.zero_le _) (Nat.le_refl _) ?_; intro w1 hown1 hgrow1)
  go_step3
  go_wp2
  refine wp_loop_rounds 1 ?_
  rw [rounds_succ]
  have HB : Below w.heap.size w w1 := (Below.refl _ _).grown hgrow1 (Nat.le_refl _) (by intro k h; cases h)
  have HO := hide hown1
  clear hown1 hgrow1
  go_wp2
  (try rw [Exit.noGoto_ret])
  go_ret
  exact ⟨_, rfl, unhide HO, HB⟩

set_option maxHeartbeats 6400000 in
theorem fmap_some (fo : Bool) (b off cap : Nat) (l : List Int) (w : World) (hL : Ly w) (hlen : l.length ≤ 20000) (h0 : 0 < l.length) (hin : ∀ i, i < l.length → In32' (l.getD i 0))
    (hcell : ∀ i, i < l.length → w.cell? ⟨b, off + i, none⟩ = some (.int .i32 (l.getD i 0))) :
    Calls Tryd.prog 11 #[.bool fo, .slice (some ⟨b, off, none⟩) l.length cap] w fun e w' => ∃ v, e = .returned v ∧ Rn w.heap.size v (mapL fo l) w' ∧ Below w.heap.size w w' := by
  obtain ⟨i0, hi, hz0, hz1, hz2⟩ := info_parts elem_info
  have HC := hide hcell
  have HIN := hide hin
  have HKD := hide kindb_any
  have HLY := hide hL
  have hpos := hL.pos
  have hml : l.length ≤ maxLen := by unfold maxLen; omega
  clear hcell hin hL
  go_enter Tryd.func11, Tryd.ntmps11
  go_wp2
  go_step3
  go_wp2_with (refine wpList_make_own _ rfl _ _ 23 rfl w.heap.size 21 i0 (.int .i32 0) 1 Tryd.underlying23 hi hz0 hz1 .i64 .i64 _ l.length rfl rfl rfl (by rw [hz2]; omega) hml (Nat.le_refl _) ?_; intro w1 hown1 hgrow1)
  go_step3
  go_wp2
  have HB : Below w.heap.size w w1 := (Below.refl _ _).grown hgrow1 (Nat.le_refl _) (by intro k h; cases h)
  have HO := hide hown1
  clear hown1 hgrow1
  go_loopw [5, 13] (fun v i wr => ∃ k : Nat, k ≤ l.length ∧ i = .int .i64 (k : Int) ∧ Rn w.heap.size v (mapL fo (l.take k)) wr ∧ Below w.heap.size w wr) (fun _ i _ => l.length - (intOf i).toNat)
  case atStart => exact ⟨0, Nat.zero_le _, rfl, unhide HO, HB⟩
  case round =>
    clear HO HB
    obtain ⟨k, hk, rfl, hown, hb⟩ := hrel
    have hsz := hb.size
    by_cases hlt : k < l.length
    · have hzl : (k : Int) < (l.length : Int) := by omega
      have hz0' : (0 : Int) ≤ (k : Int) := by omega
      have g1 := unhide HC k hlt
      have k1 : wr.cell? ⟨b, off + k, none⟩ = some (.int .i32 (l.getD k 0)) := (hb.cell (by exact cell_lt g1)).trans g1
      have HS := hide (mapL_take fo l k hlt)
      have hTl := mapL_takeLen fo l k
      have HA := hide (fun v T W (h1 : Ly W) => put_any (l.getD k 0) w.heap.size v T W h1 (unhide HIN k hlt))
      have HK := hide (unhide HKD (l.getD k 0))
      clear g1
      generalize l.getD k 0 = x at *
      generalize mapL fo (l.take k) = T at *
      obtain ⟨xa, xc, hv⟩ := hown.shape
      obtain ⟨N, hN⟩ : ∃ N, N = T.length := ⟨_, rfl⟩
      have HTL : Hid (T.length ≤ 100000) := by show _ ≤ _; omega
      rw [← hN] at hv hTl
      have HN := hide hN
      clear hN
      subst hv
      have HO := hide hown
      clear hown
      obtain ⟨K, hK⟩ : ∃ K, kd x = K := ⟨_, rfl⟩
      rw [hK] at HK
      have HKE := hide hK
      clear hK
      have hm1 : N + 1 ≤ maxLen := by unfold maxLen; omega
      have hm2 : (N + 1) * 4 ≤ 140737488355328 := by omega
      by_cases e6 : K = 6
      · subst e6
        have HE : Hid (mapO fo x = []) := by show _ = _; unfold mapO; rw [unhide HKE, if_pos rfl]
        clear HA
        go_wp2_with (go_at_call 19; refine (unhide HK _).mono ?_; rintro e w1 ⟨rfl, b1⟩)
        go_roundw
        case rel => exact ⟨k + 1, by omega, by go_num, by rw [unhide HS, unhide HE, List.append_nil]; exact (unhide HO).below b1, hb.trans (b1.mono hsz)⟩
        case measure => simp [intOf]; omega
      · have z6 : (K == 6) = false := by simpa using e6
        by_cases e5 : K = 5
        · subst e5
          have HE : Hid (mapO fo x = [32]) := by show _ = _; unfold mapO; rw [unhide HKE, if_neg (by decide), if_pos rfl]
          clear HA
          go_wp2_with (first
            | (go_at_call 19; refine (unhide HK _).mono ?_; rintro e w1 ⟨rfl, b1⟩; have hb1 := hb.trans (b1.mono hsz); have hs1 := hb1.size; have HO1 := hide ((unhide HO).below b1))
            | (at_builtin; refine wpList_append_lies _ rfl _ _ 23 rfl w.heap.size 21 i0 _ 1 4 Tryd.underlying23 hi hz0 hz1 hz2 rfl (by omega) _ N _ rfl (World.ownsRow.alloc (Rn.own (unhide HN) (unhide HO1)) _) ⟨w1.heap.size, 0, none⟩ 1 1 [.int .i32 32] rfl rfl (World.news_of_block (cs := #[.int .i32 32]) (t := 21) (fr := (0, 0)) (heap_new w1 _)) (by simp [Value.oneCell']) (by omega) hm1 hm2 (by simp; omega) (w1.heap.size + 1) (by simp) ?_; intro g9 cap9 w9 hown9 hgrow9 hat9 hlt9))
          go_roundw
          case rel =>
            refine ⟨k + 1, by omega, by go_num, ?_, (hb1.alloc (by omega) _).trans (below_own hgrow9 (by simp; omega) (own_block (Rn.own (unhide HN) (unhide HO1))))⟩
            rw [unhide HS, unhide HE]
            exact Rn.push (unhide HN) hown9
          case measure => simp [intOf]; omega
        · have z5 : (K == 5) = false := by simpa using e5
          cases fo
          · have HE : Hid (mapO false x = [x]) := by show _ = _; unfold mapO; rw [unhide HKE, if_neg e6, if_neg e5]; rfl
            clear HA
            go_wp2_with (first
              | (go_at_call 19; refine (unhide HK _).mono ?_; rintro e w1 ⟨rfl, b1⟩; have hb1 := hb.trans (b1.mono hsz); have hs1 := hb1.size; have HO1 := hide ((unhide HO).below b1))
              | (at_builtin; refine wpList_append_lies _ rfl _ _ 23 rfl w.heap.size 21 i0 _ 1 4 Tryd.underlying23 hi hz0 hz1 hz2 rfl (by omega) _ N _ rfl (World.ownsRow.alloc (Rn.own (unhide HN) (unhide HO1)) _) ⟨w1.heap.size, 0, none⟩ 1 1 [.int .i32 x] rfl rfl (World.news_of_block (cs := #[.int .i32 x]) (t := 21) (fr := (0, 0)) (heap_new w1 _)) (by simp [Value.oneCell']) (by omega) hm1 hm2 (by simp; omega) (w1.heap.size + 1) (by simp) ?_; intro g9 cap9 w9 hown9 hgrow9 hat9 hlt9))
            go_roundw
            case rel =>
              refine ⟨k + 1, by omega, by go_num, ?_, (hb1.alloc (by omega) _).trans (below_own hgrow9 (by simp; omega) (own_block (Rn.own (unhide HN) (unhide HO1))))⟩
              rw [unhide HS, unhide HE]
              exact Rn.push (unhide HN) hown9
            case measure => simp [intOf]; omega
          · have HE : Hid (mapO true x = foldL x) := by show _ = _; unfold mapO; rw [unhide HKE, if_neg e6, if_neg e5]; rfl
            generalize foldL x = p at *
            go_wp2_with (first
              | (go_at_call 17; refine (unhide HA _ T _ (unhide HL1) hs1 (unhide HO1) (unhide HTL)).mono ?_; rintro e w2 ⟨v2, rfl, r2, b2⟩)
              | (go_at_call 19; refine (unhide HK _).mono ?_; rintro e w1 ⟨rfl, b1⟩; have hb1 := hb.trans (b1.mono hsz); have hs1 := hb1.size; have HO1 := hide ((unhide HO).below b1); have HL1 := hide ((unhide HLY).keep hb1)))
            go_roundw
            case rel =>
              refine ⟨k + 1, by omega, by go_num, ?_, hb1.trans b2⟩
              rw [unhide HS, unhide HE]
              exact r2
            case measure => simp [intOf]; omega
    · have hzl : ¬ (k : Int) < (l.length : Int) := by omega
      obtain rfl : k = l.length := by omega
      rw [List.take_length] at hown
      obtain ⟨xa, xc, hv⟩ := hown.shape
      obtain ⟨N, hN⟩ : ∃ N, N = (mapL fo l).length := ⟨_, rfl⟩
      rw [← hN] at hv
      clear hN
      have HO := hide hown
      clear hown
      subst hv
      go_wp2
      (try rw [Exit.noGoto_ret])
      go_ret
      exact ⟨.slice xa N xc, rfl, unhide HO, hb⟩
theorem fmap_any (fo : Bool) (v : Value) (l : List Int) (w : World) (hL : Ly w) (hlen : l.length ≤ 20000) (hin : ∀ x, x ∈ l → In32' x) (hR : Row w v l) : Calls Tryd.prog 11 #[.bool fo, v] w fun e w' => ∃ v, e = .returned v ∧ Row w' v (mapL fo l) ∧ Below w.heap.size w w' := by
  obtain ⟨a, c, rfl, h1⟩ := hR
  by_cases h0 : l.length = 0
  · obtain rfl : l = [] := List.eq_nil_of_length_eq_zero h0
    exact (fmap_empty fo a c w).mono fun _ _ ⟨v, he, h, hb⟩ => ⟨v, he, h.row, hb⟩
  · obtain ⟨b1, o1, rfl, k1⟩ := h1 (by omega)
    exact (fmap_some fo b1 o1 c l w hL hlen (by omega) (fun i hi => hin _ (by simp [List.getD, hi])) k1).mono fun _ _ ⟨v, he, h, hb⟩ => ⟨v, he, h.row, hb⟩

set_option maxHeartbeats 800000 in
theorem ffold_empty (a : Option Addr) (cap : Nat) (w : World) :
    Calls Tryd.prog 13 #[.slice a 0 cap] w fun e w' => e = .returned (.bool true) ∧ Below w.heap.size w w' := by
  go_enter Tryd.func13, Tryd.ntmps13
  go_wp2
  refine wp_loop_rounds 1 ?_
  rw [rounds_succ]
  go_wp2
  go_ret
  exact ⟨rfl, Below.refl _ _⟩
set_option maxHeartbeats 6400000 in
theorem ffold_some (b off cap : Nat) (l : List Int) (w : World) (hL : Ly w) (hlen : l.length ≤ 20000) (h0 : 0 < l.length) (hin : ∀ i, i < l.length → In32' (l.getD i 0))
    (hcell : ∀ i, i < l.length → w.cell? ⟨b, off + i, none⟩ = some (.int .i32 (l.getD i 0))) :
    Calls Tryd.prog 13 #[.slice (some ⟨b, off, none⟩) l.length cap] w fun e w' => e = .returned (.bool (foldedB l)) ∧ Below w.heap.size w w' := by
  have HC := hide hcell
  have HIN := hide hin
  clear hcell hin
  go_enter Tryd.func13, Tryd.ntmps13
  go_wp2
  go_loopw [8] (fun i wr => ∃ k : Nat, k ≤ l.length ∧ i = .int .i64 (k : Int) ∧ Hid (∀ j, j < k → selfF (l.getD j 0) = true) ∧ Below w.heap.size w wr) (fun i _ => l.length - (intOf i).toNat)
  case atStart => exact ⟨0, Nat.zero_le _, rfl, hide (fun j hj => by omega), Below.refl _ _⟩
  case round =>
    obtain ⟨k, hk, rfl, HJ, hb⟩ := hrel
    have hsz := hb.size
    by_cases hlt : k < l.length
    · have hzl : (k : Int) < (l.length : Int) := by omega
      have hz0' : (0 : Int) ≤ (k : Int) := by omega
      have g1 := unhide HC k hlt
      have k1 : wr.cell? ⟨b, off + k, none⟩ = some (.int .i32 (l.getD k 0)) := (hb.cell (by exact cell_lt g1)).trans g1
      have HA := hide (fone_rn (l.getD k 0) wr (hL.keep hb) (unhide HIN k hlt))
      have HBAD := hide (folded_bad hlt)
      have HSL := hide (self_len (x := l.getD k 0))
      have HSO := hide (fun y => self_one (x := l.getD k 0) (y := y))
      have HJ2 : Hid (selfF (l.getD k 0) = true → ∀ j, j < k + 1 → selfF (l.getD j 0) = true) := fun h j hj => by
        by_cases e : j = k
        · subst e; exact h
        · exact unhide HJ j (by omega)
      obtain ⟨hp0, hp3⟩ := fold_len (l.getD k 0)
      clear g1 HJ
      generalize selfF (l.getD k 0) = S at *
      generalize l.getD k 0 = x at *
      generalize foldL x = p at *
      obtain ⟨q, hq⟩ : ∃ q, q = p.length := ⟨_, rfl⟩
      rw [← hq] at hp3 hp0 HSL
      have HQ := hide hq
      clear hq
      by_cases h1 : q = 1
      · subst h1
        obtain ⟨y, rfl⟩ : ∃ y, p = [y] := by
          have := unhide HQ
          match p, this with
          | [y], _ => exact ⟨y, rfl⟩
        by_cases hy : y = x
        · have HS := hide (unhide HJ2 ((unhide HSO y rfl).trans (decide_eq_true hy)))
          have hyz : (y == x) = true := by simpa using hy
          subst hy
          go_wp2_with (go_at_call 8; refine (unhide HA).mono ?_; rintro e w2 ⟨v2, rfl, hr2, hb2⟩; obtain ⟨g2, c2, hv2, hBg2, hgs2⟩ := hr2.held (by simp); have d2 := (hv2 ▸ hr2).cell1; subst hv2; clear hr2; have hb3 := hb.trans (hb2.mono hsz); have k2 : w2.cell? ⟨b, off + k, none⟩ = some (.int .i32 y) := (hb2.cell (by exact cell_lt k1)).trans k1)
          go_roundw
          case rel => exact ⟨k + 1, by omega, by go_num, HS, hb3⟩
          case measure => simp [intOf]; omega
        · have HF := hide (unhide HBAD ((unhide HSO y rfl).trans (decide_eq_false hy)))
          have hyz : (y == x) = false := by simpa using hy
          go_wp2_with (go_at_call 8; refine (unhide HA).mono ?_; rintro e w2 ⟨v2, rfl, hr2, hb2⟩; obtain ⟨g2, c2, hv2, hBg2, hgs2⟩ := hr2.held (by simp); have d2 := (hv2 ▸ hr2).cell1; subst hv2; clear hr2; have hb3 := hb.trans (hb2.mono hsz); have k2 : w2.cell? ⟨b, off + k, none⟩ = some (.int .i32 x) := (hb2.cell (by exact cell_lt k1)).trans k1)
          go_ret
          exact ⟨ret_bool (unhide HF).symm, hb3⟩
      · have HF := hide (unhide HBAD (unhide HSL h1))
        have hqz : ((q : Int) == 1) = false := by simp; omega
        have hqn : ¬ (q : Int) = 1 := by omega
        go_wp2_with (go_at_call 8; refine (unhide HA).mono ?_; rintro e w2 ⟨v2, rfl, hr2, hb2⟩; obtain ⟨g2, c2, hv2, hBg2, hgs2⟩ := hr2.held (by rw [← unhide HQ]; exact hp0); rw [← unhide HQ] at hv2; subst hv2; clear hr2; have hb3 := hb.trans (hb2.mono hsz); have k2 : w2.cell? ⟨b, off + k, none⟩ = some (.int .i32 x) := (hb2.cell (by exact cell_lt k1)).trans k1)
        go_ret
        exact ⟨ret_bool (unhide HF).symm, hb3⟩
    · have hzl : ¬ (k : Int) < (l.length : Int) := by omega
      obtain rfl : k = l.length := by omega
      have HF := hide (folded_good (unhide HJ))
      go_wp2
      go_ret
      exact ⟨ret_bool (unhide HF).symm, hb⟩
theorem ffold_any (v : Value) (l : List Int) (w : World) (hL : Ly w) (hlen : l.length ≤ 20000) (hin : ∀ x, x ∈ l → In32' x) (hR : Row w v l) : Calls Tryd.prog 13 #[v] w fun e w' => e = .returned (.bool (foldedB l)) ∧ Below w.heap.size w w' := by
  obtain ⟨a, c, rfl, h1⟩ := hR
  by_cases h0 : l.length = 0
  · obtain rfl : l = [] := List.eq_nil_of_length_eq_zero h0
    exact ffold_empty a c w
  · obtain ⟨b1, o1, rfl, k1⟩ := h1 (by omega)
    exact ffold_some b1 o1 c l w hL hlen (by omega) (fun i hi => hin _ (by simp [List.getD, hi])) k1
end Go.Proofs.YtbffmopenjjjlaaDoor
