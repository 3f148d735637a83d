/- The program's own table, plainly. -/
import Derived.Test.YtefobkgifigclaaGreatDoorM05
import Derived.Laws.Rows
import Derived.Test.YtefobkgifigclaaGreatDoorM02
import Derived.WalkMore
namespace Go.Proofs.YtefobkgifigclaaGreatDoor
set_option maxRecDepth 100000

def sts9 : List Fo := [
  ⟨65, 90, 1, 32⟩, ⟨192, 214, 1, 32⟩, ⟨216, 222, 1, 32⟩, ⟨256, 302, 2, 1⟩, ⟨306, 310, 2, 1⟩, ⟨313, 327, 2, 1⟩, ⟨330, 374, 2, 1⟩, ⟨377, 381, 2, 1⟩,
  ⟨904, 906, 1, 37⟩, ⟨913, 929, 1, 32⟩, ⟨931, 939, 1, 32⟩, ⟨1040, 1071, 1, 32⟩, ⟨8544, 8555, 1, 16⟩, ⟨65313, 65338, 1, 32⟩]
/-- What the program puts. -/
def stL (r : Int) : List Fo → List Int
  | [] => namL r nms9
  | o :: m => if inF o r then [r + o.u] else stL r m
theorem stL_step (r : Int) (n : Nat) (h : n < 14) : stL r (sts9.drop n) = if inF (sts9.getD n fo0) r then [r + (sts9.getD n fo0).u] else stL r (sts9.drop (n + 1)) := by
  have e : sts9.drop n = sts9.getD n fo0 :: sts9.drop (n + 1) := by
    have hl : n < sts9.length := h
    rw [List.drop_eq_getElem_cons hl]; simp [List.getD, hl]
  rw [e]; rfl
theorem sts9_ok : sts9.all okF = true := by kernel_rfl
theorem st9_ok (n : Nat) (h : n < 14) : okF (sts9.getD n fo0) = true := by
  have hl : n < sts9.length := h
  exact List.all_eq_true.1 sts9_ok _ (by simp [List.getD, hl])
end Go.Proofs.YtefobkgifigclaaGreatDoor
/- The program's own table and its named ones: the same as the document's, plainly. -/
namespace Go.Proofs.YtefobkgifigclaaGreatDoor
set_option maxRecDepth 100000

def touched2 : List Int := nms9.map (·.1) ++ sts9.flatMap fun o => upto o.f (o.t - o.f + 1).toNat
theorem stL_self (r : Int) (hn : r ∉ nms9.map (·.1)) : ∀ l : List Fo, (∀ o, o ∈ l → ¬ (o.f ≤ r ∧ r ≤ o.t)) → stL r l = [r]
  | [], _ => namL_self r nms9 hn
  | o :: m, h => by
    unfold stL
    have : inF o r = false := decide_eq_false fun e => h o (by simp) ⟨e.1, e.2.1⟩
    rw [this]
    exact stL_self r hn m fun q hq => h q (by simp [hq])
theorem stL_touched (r : Int) : stL r sts9 = [r] ∨ r ∈ touched2 := by
  by_cases hn : r ∈ nms9.map (·.1)
  · exact .inr (List.mem_append.2 (.inl hn))
  · by_cases h : ∃ o, o ∈ sts9 ∧ (o.f ≤ r ∧ r ≤ o.t)
    · obtain ⟨o, ho, h1, h2⟩ := h
      exact .inr (List.mem_append.2 (.inr (List.mem_flatMap.2 ⟨o, ho, mem_upto _ _ _ h1 (by omega)⟩)))
    · exact .inl (stL_self r hn sts9 fun o ho e => h ⟨o, ho, e⟩)
theorem same_touched : ((touched ++ touched2).all fun r => decide (stL r sts9 = foldL r)) = true := by kernel_rfl
/-- The program's way and the document's. -/
theorem stL_fold (r : Int) : stL r sts9 = foldL r := by
  by_cases h : r ∈ touched ++ touched2
  · exact of_decide_eq_true (List.all_eq_true.1 same_touched r h)
  · simp only [List.mem_append, not_or] at h
    rcases fold_touched r with e | e
    · rcases stL_touched r with e' | e'
      · rw [e, e']
      · exact absurd e' h.2
    · exact absurd e h.1
end Go.Proofs.YtefobkgifigclaaGreatDoor
/- The landed put: what a number is folded to is put behind a row of the call's own. -/
namespace Go.Proofs.YtefobkgifigclaaGreatDoor
set_option maxRecDepth 100000
open Go.RowKit

/-- The program's table, as it lies. -/
def foc4 (o : Fo) : List Value := [.int .i32 o.f, .int .i32 o.t, .int .i32 o.s, .int .i32 o.u]
def arr9 : Array Value := (sts9.flatMap foc4).toArray
def Ly (w : World) : Prop := ∃ t fr, w.heap[6]? = some (.cells arr9 t fr)
theorem Ly.pos {w : World} (h : Ly w) : 6 < w.heap.size := by
  obtain ⟨t, fr, h⟩ := h
  exact (Array.getElem?_eq_some_iff.1 h).1
theorem Ly.below {w w2 : World} {B : Nat} (h : Ly w) (hb : Below B w w2) (hB : 6 < B) : Ly w2 := by
  obtain ⟨t, fr, h⟩ := h
  exact ⟨t, fr, (hb.block _ hB).trans h⟩
theorem Ly.keep {w w2 : World} (h : Ly w) (hb : Below w.heap.size w w2) : Ly w2 := h.below hb h.pos
theorem idx9_0 (W : World) : (Instr.index 234 (.agg arr9) (.int .i64 0)).run Tryz.prog W = .ok (.agg #[.int .i32 65, .int .i32 90, .int .i32 1, .int .i32 32]) W := by kernel_rfl
theorem idx9_1 (W : World) : (Instr.index 234 (.agg arr9) (.int .i64 1)).run Tryz.prog W = .ok (.agg #[.int .i32 192, .int .i32 214, .int .i32 1, .int .i32 32]) W := by kernel_rfl
theorem idx9_2 (W : World) : (Instr.index 234 (.agg arr9) (.int .i64 2)).run Tryz.prog W = .ok (.agg #[.int .i32 216, .int .i32 222, .int .i32 1, .int .i32 32]) W := by kernel_rfl
theorem idx9_3 (W : World) : (Instr.index 234 (.agg arr9) (.int .i64 3)).run Tryz.prog W = .ok (.agg #[.int .i32 256, .int .i32 302, .int .i32 2, .int .i32 1]) W := by kernel_rfl
theorem idx9_4 (W : World) : (Instr.index 234 (.agg arr9) (.int .i64 4)).run Tryz.prog W = .ok (.agg #[.int .i32 306, .int .i32 310, .int .i32 2, .int .i32 1]) W := by kernel_rfl
theorem idx9_5 (W : World) : (Instr.index 234 (.agg arr9) (.int .i64 5)).run Tryz.prog W = .ok (.agg #[.int .i32 313, .int .i32 327, .int .i32 2, .int .i32 1]) W := by kernel_rfl
theorem idx9_6 (W : World) : (Instr.index 234 (.agg arr9) (.int .i64 6)).run Tryz.prog W = .ok (.agg #[.int .i32 330, .int .i32 374, .int .i32 2, .int .i32 1]) W := by kernel_rfl
theorem idx9_7 (W : World) : (Instr.index 234 (.agg arr9) (.int .i64 7)).run Tryz.prog W = .ok (.agg #[.int .i32 377, .int .i32 381, .int .i32 2, .int .i32 1]) W := by kernel_rfl
theorem idx9_8 (W : World) : (Instr.index 234 (.agg arr9) (.int .i64 8)).run Tryz.prog W = .ok (.agg #[.int .i32 904, .int .i32 906, .int .i32 1, .int .i32 37]) W := by kernel_rfl
theorem idx9_9 (W : World) : (Instr.index 234 (.agg arr9) (.int .i64 9)).run Tryz.prog W = .ok (.agg #[.int .i32 913, .int .i32 929, .int .i32 1, .int .i32 32]) W := by kernel_rfl
theorem idx9_10 (W : World) : (Instr.index 234 (.agg arr9) (.int .i64 10)).run Tryz.prog W = .ok (.agg #[.int .i32 931, .int .i32 939, .int .i32 1, .int .i32 32]) W := by kernel_rfl
theorem idx9_11 (W : World) : (Instr.index 234 (.agg arr9) (.int .i64 11)).run Tryz.prog W = .ok (.agg #[.int .i32 1040, .int .i32 1071, .int .i32 1, .int .i32 32]) W := by kernel_rfl
theorem idx9_12 (W : World) : (Instr.index 234 (.agg arr9) (.int .i64 12)).run Tryz.prog W = .ok (.agg #[.int .i32 8544, .int .i32 8555, .int .i32 1, .int .i32 16]) W := by kernel_rfl
theorem idx9_13 (W : World) : (Instr.index 234 (.agg arr9) (.int .i64 13)).run Tryz.prog W = .ok (.agg #[.int .i32 65313, .int .i32 65338, .int .i32 1, .int .i32 32]) W := by kernel_rfl
theorem idx9 (n : Nat) (h : n < 14) (W : World) : (Instr.index 234 (.agg arr9) (.int .i64 (n : Int))).run Tryz.prog W = .ok (.agg #[.int .i32 (sts9.getD n fo0).f, .int .i32 (sts9.getD n fo0).t, .int .i32 (sts9.getD n fo0).s, .int .i32 (sts9.getD n fo0).u]) W := by
  have hn : n = 0 ∨ n = 1 ∨ n = 2 ∨ n = 3 ∨ n = 4 ∨ n = 5 ∨ n = 6 ∨ n = 7 ∨ n = 8 ∨ n = 9 ∨ n = 10 ∨ n = 11 ∨ n = 12 ∨ n = 13 := by omega
  clear h
  rcases hn with rfl | rfl | rfl | rfl | rfl | rfl | rfl | rfl | rfl | rfl | rfl | rfl | rfl | rfl
  · exact idx9_0 W
  · exact idx9_1 W
  · exact idx9_2 W
  · exact idx9_3 W
  · exact idx9_4 W
  · exact idx9_5 W
  · exact idx9_6 W
  · exact idx9_7 W
  · exact idx9_8 W
  · exact idx9_9 W
  · exact idx9_10 W
  · exact idx9_11 W
  · exact idx9_12 W
  · exact idx9_13 W
theorem inF_y {f t s u r : Int} (h1 : f ≤ r) (h2 : r ≤ t) (h3 : (r - f) % s = 0) : inF ⟨f, t, s, u⟩ r = true := decide_eq_true ⟨h1, h2, h3⟩
theorem inF_n {f t s u r : Int} (h : ¬ (f ≤ r ∧ r ≤ t ∧ (r - f) % s = 0)) : inF ⟨f, t, s, u⟩ r = false := decide_eq_false h

set_option maxRecDepth 20000 in
set_option maxHeartbeats 6400000 in
theorem put_st (r : Int) (B : Nat) (v : Value) (T : List Int) (w : World) (hL : Ly w) (hr : -2147483648 ≤ r ∧ r ≤ 2147483647) (hB : B ≤ w.heap.size) (h : Rn B v T w) (hT : T.length ≤ 100000) : Calls Tryz.prog 157 #[v, .int .i32 r] w fun e w' => ∃ v', e = .returned v' ∧ Rn B v' (T ++ stL r sts9) w' ∧ Below B w w' := by
  obtain ⟨i0, hi, hz0, hz1, hz2⟩ := info_parts elem_info
  have mx : Tryz.prog.follows .mixedOrders = true := by kernel_rfl
  obtain ⟨ty, fr, hg0⟩ := hL
  have HI := hide idx9
  have HNM := hide (putn_any r B)
  obtain ⟨xa, xc, hv⟩ := h.shape
  obtain ⟨N, hN⟩ : ∃ N, N = T.length := ⟨_, rfl⟩
  have HT := hide hT
  rw [← hN] at hv hT
  have HN := hide hN
  clear hN
  subst hv
  have HO := hide h
  clear h
  have hm1 : N + 1 ≤ maxLen := by unfold maxLen; omega
  have hm2 : (N + 1) * 4 ≤ 140737488355328 := by omega
  go_enter Tryz.func157, Tryz.ntmps157
  go_wp2_with (refine wpList_load_row rfl 234 _ rfl 6 rfl ty arr9 fr _ hg0 Tryz.underlying234 rfl (by kernel_rfl) ?_)
  go_loopw [8] (fun i wr => ∃ n : Nat, n ≤ 14 ∧ i = .int .i64 (n : Int) ∧ Hid (stL r (sts9.drop n) = stL r sts9) ∧ Gr w wr) (fun i _ => 14 - (intOf i).toNat)
  case atStart => exact ⟨0, Nat.zero_le _, rfl, hide rfl, Gr.refl _⟩
  case round =>
    obtain ⟨n, hn, rfl, HP, hg⟩ := hrel
    have hs1 := hg.size
    by_cases hlt : n < 14
    · have hzl : (n : Int) < 14 := by omega
      have hq0 : (0 : Int) ≤ (n : Int) := by omega
      have x0 := unhide HI n hlt
      have hst := stL_step r n hlt
      have hok := st9_ok n hlt
      rw [unhide HP] at hst
      generalize sts9.getD n fo0 = o at *
      obtain ⟨f, t, s, u⟩ := o
      simp only [okF, decide_eq_true_eq] at hok
      obtain ⟨o1, o2, o3, o4, o5, o6, o7, o8⟩ := hok
      dsimp only at x0 hst
      have HST := hide hst
      clear hst
      by_cases q1 : f ≤ r
      · have z1 : decide (f ≤ r) = true := by simpa using q1
        by_cases q2 : r ≤ t
        · have z2 : decide (r ≤ t) = true := by simpa using q2
          have ks : IntKind.i32.wrap (r - f) = r - f := wrap_in (by omega) (by omega)
          have z3 : ¬ s = 0 := by omega
          have z4 : (s == 0) = false := by simpa using z3
          have q3' : (r - f).tmod s = (r - f) % s := Int.tmod_eq_emod_of_nonneg (by omega)
          by_cases q3 : (r - f) % s = 0
          · have HE : Hid (stL r sts9 = [r + u]) := by
              show _ = _
              rw [unhide HST, if_pos (inF_y q1 q2 q3)]
            have z5 : ((r - f) % s == 0) = true := by simpa using q3
            have ku : IntKind.i32.wrap (r + u) = r + u := wrap_in (by omega) (by omega)
            clear HST HP
            have HO1 := hide ((unhide HO).below (hg.alloc (.cells #[.int .i32 f, .int .i32 t, .int .i32 s, .int .i32 u] 233)).below)
            go_wp2_with (at_builtin; refine wpList_append_lies _ rfl _ _ 131 rfl B 21 i0 _ 1 4 Tryz.underlying131 hi hz0 hz1 hz2 rfl (by omega) _ N _ rfl (World.ownsRow.alloc (Rn.own (unhide HN) (unhide HO1)) _) ⟨wr.heap.size + 1, 0, none⟩ 1 1 [.int .i32 (r + u)] rfl rfl (World.news_of_block (cs := #[.int .i32 (r + u)]) (t := 21) (fr := (0, 0)) (by simpa using heap_new (wr.alloc (.cells #[.int .i32 f, .int .i32 t, .int .i32 s, .int .i32 u] 233)) (.cells #[.int .i32 (r + u)] 21))) (by simp [Value.oneCell']) (by omega) hm1 hm2 (by simp; omega) (wr.heap.size + 1 + 1) (by simp) ?_; intro g9 cap9 w9 hown9 hgrow9 hat9 hlt9)
            go_ret
            refine ⟨_, rfl, ?_, ((((hg.alloc (.cells #[.int .i32 f, .int .i32 t, .int .i32 s, .int .i32 u] 233)).alloc (.cells #[.int .i32 (r + u)] 21)).below).mono hB).trans (below_own hgrow9 (by simp; omega) (own_block (Rn.own (unhide HN) (unhide HO1))))⟩
            rw [unhide HE]
            exact Rn.app (zs := [r + u]) (unhide HN) rfl hown9
          · have HE : Hid (stL r (sts9.drop (n + 1)) = stL r sts9) := by
              show _ = _
              rw [unhide HST, if_neg (by rw [inF_n (fun h => q3 h.2.2)]; simp)]
            have z5 : ((r - f) % s == 0) = false := by simpa using q3
            clear HST HP
            go_wp2
            go_roundw
            case rel => exact ⟨n + 1, by omega, by go_num, HE, hg.alloc _⟩
            case measure => simp [intOf]; omega
        · have HE : Hid (stL r (sts9.drop (n + 1)) = stL r sts9) := by
            show _ = _
            rw [unhide HST, if_neg (by rw [inF_n (fun h => q2 h.2.1)]; simp)]
          have z2 : decide (r ≤ t) = false := by simpa using q2
          clear HST HP
          go_wp2
          go_roundw
          case rel => exact ⟨n + 1, by omega, by go_num, HE, hg.alloc _⟩
          case measure => simp [intOf]; omega
      · have HE : Hid (stL r (sts9.drop (n + 1)) = stL r sts9) := by
          show _ = _
          rw [unhide HST, if_neg (by rw [inF_n (fun h => q1 h.1)]; simp)]
        have z1 : decide (f ≤ r) = false := by simpa using q1
        clear HST HP
        go_wp2
        go_roundw
        case rel => exact ⟨n + 1, by omega, by go_num, HE, hg.alloc _⟩
        case measure => simp [intOf]; omega
    · have hzl : ¬ (n : Int) < 14 := by omega
      obtain rfl : n = 14 := by omega
      have HE : Hid (stL r sts9 = namL r nms9) := (unhide HP).symm
      have HO1 := hide ((unhide HO).below hg.below)
      clear HP
      go_wp2_with (go_at_call 191; refine (unhide HNM _ T _ (Nat.le_trans hB hs1) (unhide HO1) (unhide HT)).mono ?_; rintro e w1 ⟨v1, rfl, r1, b1⟩)
      go_ret
      exact ⟨_, rfl, by rw [unhide HE]; exact r1, (hg.below.mono hB).trans b1⟩
end Go.Proofs.YtefobkgifigclaaGreatDoor
/- Contracts of the landed fold: One, Map, Folded. -/
namespace Go.Proofs.YtefobkgifigclaaGreatDoor
set_option maxRecDepth 100000
open Go.RowKit

theorem kindb_any (r : Int) (w : World) : Calls Tryz.prog 156 #[.int .i32 r] w fun e w' => e = .returned (.int .i64 (kd r)) ∧ Below w.heap.size w w' :=
  (kind_any r w).mono fun _ _ ⟨he, hg⟩ => ⟨he, hg.below⟩
theorem put_any (r : Int) (B : Nat) (v : Value) (T : List Int) (w : World) (hL : Ly w) (hr : In32' r) (hB : B ≤ w.heap.size) (h : Rn B v T w) (hT : T.length ≤ 100000) : Calls Tryz.prog 157 #[v, .int .i32 r] w fun e w' => ∃ v', e = .returned v' ∧ Rn B v' (T ++ foldL r) w' ∧ Below B w w' := by
  rw [← stL_fold]
  exact put_st r B v T w hL hr hB h hT

set_option maxHeartbeats 800000 in
theorem fmap_empty (fo : Bool) (a : Option Addr) (cap : Nat) (w : World) :
    Calls Tryz.prog 120 #[.bool fo, .slice a 0 cap] w fun e w' => ∃ v, e = .returned v ∧ Rn w.heap.size v [] w' ∧ Below w.heap.size w w' := by
  obtain ⟨i0, hi, hz0, hz1, hz2⟩ := info_parts elem_info
  go_enter Tryz.func120, Tryz.ntmps120
  go_wp2
  go_step3
  go_wp2_with (refine wpList_make_own _ rfl _ _ 131 rfl w.heap.size 21 i0 (.int .i32 0) 1 Tryz.underlying131 hi hz0 hz1 .i64 .i64 _ 0 rfl rfl rfl (by rw [hz2]; omega) (Nat.zero_le _) (Nat.le_refl _) ?_; intro w1 hown1 hgrow1)
  go_step3
  go_wp2
  refine wp_loop_rounds 1 ?_
  rw [rounds_succ]
  have HB : Below w.heap.size w w1 := (Below.refl _ _).grown hgrow1 (Nat.le_refl _) (by intro k h; cases h)
  have HO := hide hown1
  clear hown1 hgrow1
  go_wp2
  (try rw [Exit.noGoto_ret])
  go_ret
  exact ⟨_, rfl, unhide HO, HB⟩

set_option maxHeartbeats 6400000 in
theorem fmap_some (fo : Bool) (b off cap : Nat) (l : List Int) (w : World) (hL : Ly w) (hlen : l.length ≤ 20000) (h0 : 0 < l.length) (hin : ∀ i, i < l.length → In32' (l.getD i 0))
    (hcell : ∀ i, i < l.length → w.cell? ⟨b, off + i, none⟩ = some (.int .i32 (l.getD i 0))) :
    Calls Tryz.prog 120 #[.bool fo, .slice (some ⟨b, off, none⟩) l.length cap] w fun e w' => ∃ v, e = .returned v ∧ Rn w.heap.size v (mapL fo l) w' ∧ Below w.heap.size w w' := by
  obtain ⟨i0, hi, hz0, hz1, hz2⟩ := info_parts elem_info
  have HC := hide hcell
  have HIN := hide hin
  have HKD := hide kindb_any
  have HLY := hide hL
  have hpos := hL.pos
  have hml : l.length ≤ maxLen := by unfold maxLen; omega
  clear hcell hin hL
  go_enter Tryz.func120, Tryz.ntmps120
  go_wp2
  go_step3
  go_wp2_with (refine wpList_make_own _ rfl _ _ 131 rfl w.heap.size 21 i0 (.int .i32 0) 1 Tryz.underlying131 hi hz0 hz1 .i64 .i64 _ l.length rfl rfl rfl (by rw [hz2]; omega) hml (Nat.le_refl _) ?_; intro w1 hown1 hgrow1)
  go_step3
  go_wp2
  have HB : Below w.heap.size w w1 := (Below.refl _ _).grown hgrow1 (Nat.le_refl _) (by intro k h; cases h)
  have HO := hide hown1
  clear hown1 hgrow1
  go_loopw [5, 13] (fun v i wr => ∃ k : Nat, k ≤ l.length ∧ i = .int .i64 (k : Int) ∧ Rn w.heap.size v (mapL fo (l.take k)) wr ∧ Below w.heap.size w wr) (fun _ i _ => l.length - (intOf i).toNat)
  case atStart => exact ⟨0, Nat.zero_le _, rfl, unhide HO, HB⟩
  case round =>
    clear HO HB
    obtain ⟨k, hk, rfl, hown, hb⟩ := hrel
    have hsz := hb.size
    by_cases hlt : k < l.length
    · have hzl : (k : Int) < (l.length : Int) := by omega
      have hz0' : (0 : Int) ≤ (k : Int) := by omega
      have g1 := unhide HC k hlt
      have k1 : wr.cell? ⟨b, off + k, none⟩ = some (.int .i32 (l.getD k 0)) := (hb.cell (by exact cell_lt g1)).trans g1
      have HS := hide (mapL_take fo l k hlt)
      have hTl := mapL_takeLen fo l k
      have HA := hide (fun v T W (h1 : Ly W) => put_any (l.getD k 0) w.heap.size v T W h1 (unhide HIN k hlt))
      have HK := hide (unhide HKD (l.getD k 0))
      clear g1
      generalize l.getD k 0 = x at *
      generalize mapL fo (l.take k) = T at *
      obtain ⟨xa, xc, hv⟩ := hown.shape
      obtain ⟨N, hN⟩ : ∃ N, N = T.length := ⟨_, rfl⟩
      have HTL : Hid (T.length ≤ 100000) := by show _ ≤ _; omega
      rw [← hN] at hv hTl
      have HN := hide hN
      clear hN
      subst hv
      have HO := hide hown
      clear hown
      obtain ⟨K, hK⟩ : ∃ K, kd x = K := ⟨_, rfl⟩
      rw [hK] at HK
      have HKE := hide hK
      clear hK
      have hm1 : N + 1 ≤ maxLen := by unfold maxLen; omega
      have hm2 : (N + 1) * 4 ≤ 140737488355328 := by omega
      by_cases e6 : K = 6
      · subst e6
        have HE : Hid (mapO fo x = []) := by show _ = _; unfold mapO; rw [unhide HKE, if_pos rfl]
        clear HA
        go_wp2_with (go_at_call 156; refine (unhide HK _).mono ?_; rintro e w1 ⟨rfl, b1⟩)
        go_roundw
        case rel => exact ⟨k + 1, by omega, by go_num, by rw [unhide HS, unhide HE, List.append_nil]; exact (unhide HO).below b1, hb.trans (b1.mono hsz)⟩
        case measure => simp [intOf]; omega
      · have z6 : (K == 6) = false := by simpa using e6
        by_cases e5 : K = 5
        · subst e5
          have HE : Hid (mapO fo x = [32]) := by show _ = _; unfold mapO; rw [unhide HKE, if_neg (by decide), if_pos rfl]
          clear HA
          go_wp2_with (first
            | (go_at_call 156; refine (unhide HK _).mono ?_; rintro e w1 ⟨rfl, b1⟩; have hb1 := hb.trans (b1.mono hsz); have hs1 := hb1.size; have HO1 := hide ((unhide HO).below b1))
            | (at_builtin; refine wpList_append_lies _ rfl _ _ 131 rfl w.heap.size 21 i0 _ 1 4 Tryz.underlying131 hi hz0 hz1 hz2 rfl (by omega) _ N _ rfl (World.ownsRow.alloc (Rn.own (unhide HN) (unhide HO1)) _) ⟨w1.heap.size, 0, none⟩ 1 1 [.int .i32 32] rfl rfl (World.news_of_block (cs := #[.int .i32 32]) (t := 21) (fr := (0, 0)) (heap_new w1 _)) (by simp [Value.oneCell']) (by omega) hm1 hm2 (by simp; omega) (w1.heap.size + 1) (by simp) ?_; intro g9 cap9 w9 hown9 hgrow9 hat9 hlt9))
          go_roundw
          case rel =>
            refine ⟨k + 1, by omega, by go_num, ?_, (hb1.alloc (by omega) _).trans (below_own hgrow9 (by simp; omega) (own_block (Rn.own (unhide HN) (unhide HO1))))⟩
            rw [unhide HS, unhide HE]
            exact Rn.push (unhide HN) hown9
          case measure => simp [intOf]; omega
        · have z5 : (K == 5) = false := by simpa using e5
          cases fo
          · have HE : Hid (mapO false x = [x]) := by show _ = _; unfold mapO; rw [unhide HKE, if_neg e6, if_neg e5]; rfl
            clear HA
            go_wp2_with (first
              | (go_at_call 156; refine (unhide HK _).mono ?_; rintro e w1 ⟨rfl, b1⟩; have hb1 := hb.trans (b1.mono hsz); have hs1 := hb1.size; have HO1 := hide ((unhide HO).below b1))
              | (at_builtin; refine wpList_append_lies _ rfl _ _ 131 rfl w.heap.size 21 i0 _ 1 4 Tryz.underlying131 hi hz0 hz1 hz2 rfl (by omega) _ N _ rfl (World.ownsRow.alloc (Rn.own (unhide HN) (unhide HO1)) _) ⟨w1.heap.size, 0, none⟩ 1 1 [.int .i32 x] rfl rfl (World.news_of_block (cs := #[.int .i32 x]) (t := 21) (fr := (0, 0)) (heap_new w1 _)) (by simp [Value.oneCell']) (by omega) hm1 hm2 (by simp; omega) (w1.heap.size + 1) (by simp) ?_; intro g9 cap9 w9 hown9 hgrow9 hat9 hlt9))
            go_roundw
            case rel =>
              refine ⟨k + 1, by omega, by go_num, ?_, (hb1.alloc (by omega) _).trans (below_own hgrow9 (by simp; omega) (own_block (Rn.own (unhide HN) (unhide HO1))))⟩
              rw [unhide HS, unhide HE]
              exact Rn.push (unhide HN) hown9
            case measure => simp [intOf]; omega
          · have HE : Hid (mapO true x = foldL x) := by show _ = _; unfold mapO; rw [unhide HKE, if_neg e6, if_neg e5]; rfl
            generalize foldL x = p at *
            go_wp2_with (first
              | (go_at_call 157; refine (unhide HA _ T _ (unhide HL1) hs1 (unhide HO1) (unhide HTL)).mono ?_; rintro e w2 ⟨v2, rfl, r2, b2⟩)
              | (go_at_call 156; refine (unhide HK _).mono ?_; rintro e w1 ⟨rfl, b1⟩; have hb1 := hb.trans (b1.mono hsz); have hs1 := hb1.size; have HO1 := hide ((unhide HO).below b1); have HL1 := hide ((unhide HLY).keep hb1)))
            go_roundw
            case rel =>
              refine ⟨k + 1, by omega, by go_num, ?_, hb1.trans b2⟩
              rw [unhide HS, unhide HE]
              exact r2
            case measure => simp [intOf]; omega
    · have hzl : ¬ (k : Int) < (l.length : Int) := by omega
      obtain rfl : k = l.length := by omega
      rw [List.take_length] at hown
      obtain ⟨xa, xc, hv⟩ := hown.shape
      obtain ⟨N, hN⟩ : ∃ N, N = (mapL fo l).length := ⟨_, rfl⟩
      rw [← hN] at hv
      clear hN
      have HO := hide hown
      clear hown
      subst hv
      go_wp2
      (try rw [Exit.noGoto_ret])
      go_ret
      exact ⟨.slice xa N xc, rfl, unhide HO, hb⟩
theorem fmap_any (fo : Bool) (v : Value) (l : List Int) (w : World) (hL : Ly w) (hlen : l.length ≤ 20000) (hin : ∀ x, x ∈ l → In32' x) (hR : Row w v l) : Calls Tryz.prog 120 #[.bool fo, v] w fun e w' => ∃ v, e = .returned v ∧ Row w' v (mapL fo l) ∧ Below w.heap.size w w' := by
  obtain ⟨a, c, rfl, h1⟩ := hR
  by_cases h0 : l.length = 0
  · obtain rfl : l = [] := List.eq_nil_of_length_eq_zero h0
    exact (fmap_empty fo a c w).mono fun _ _ ⟨v, he, h, hb⟩ => ⟨v, he, h.row, hb⟩
  · obtain ⟨b1, o1, rfl, k1⟩ := h1 (by omega)
    exact (fmap_some fo b1 o1 c l w hL hlen (by omega) (fun i hi => hin _ (by simp [List.getD, hi])) k1).mono fun _ _ ⟨v, he, h, hb⟩ => ⟨v, he, h.row, hb⟩

end Go.Proofs.YtefobkgifigclaaGreatDoor
