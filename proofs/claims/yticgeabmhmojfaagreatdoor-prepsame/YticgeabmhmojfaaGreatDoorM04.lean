/- The landed put: what a number is folded to is put behind a row of the call's own. -/
import Derived.Test.YticgeabmhmojfaaGreatDoorM03
import Derived.Laws.Rows
import Derived.Test.YticgeabmhmojfaaGreatDoorM02
namespace Go.Proofs.YticgeabmhmojfaaGreatDoor
set_option maxRecDepth 100000
open Go.RowKit

/-- The program's table, as it lies. -/
def foc4 (o : Fo) : List Value := [.int .i32 o.f, .int .i32 o.t, .int .i32 o.s, .int .i32 o.u]
def arr9 : Array Value := (sts9.flatMap foc4).toArray
def Ly (w : World) : Prop := ∃ t fr, w.heap[0]? = some (.cells arr9 t fr)
theorem Ly.pos {w : World} (h : Ly w) : 0 < w.heap.size := by
  obtain ⟨t, fr, h⟩ := h
  exact (Array.getElem?_eq_some_iff.1 h).1
theorem Ly.below {w w2 : World} {B : Nat} (h : Ly w) (hb : Below B w w2) (hB : 0 < B) : Ly w2 := by
  obtain ⟨t, fr, h⟩ := h
  exact ⟨t, fr, (hb.block _ hB).trans h⟩
theorem Ly.keep {w w2 : World} (h : Ly w) (hb : Below w.heap.size w w2) : Ly w2 := h.below hb h.pos
theorem idx9_0 (W : World) : (Instr.index 65 (.agg arr9) (.int .i64 0)).run Tryz.prog W = .ok (.agg #[.int .i32 65, .int .i32 90, .int .i32 1, .int .i32 32]) W := by kernel_rfl
theorem idx9_1 (W : World) : (Instr.index 65 (.agg arr9) (.int .i64 1)).run Tryz.prog W = .ok (.agg #[.int .i32 192, .int .i32 214, .int .i32 1, .int .i32 32]) W := by kernel_rfl
theorem idx9_2 (W : World) : (Instr.index 65 (.agg arr9) (.int .i64 2)).run Tryz.prog W = .ok (.agg #[.int .i32 216, .int .i32 222, .int .i32 1, .int .i32 32]) W := by kernel_rfl
theorem idx9_3 (W : World) : (Instr.index 65 (.agg arr9) (.int .i64 3)).run Tryz.prog W = .ok (.agg #[.int .i32 256, .int .i32 302, .int .i32 2, .int .i32 1]) W := by kernel_rfl
theorem idx9_4 (W : World) : (Instr.index 65 (.agg arr9) (.int .i64 4)).run Tryz.prog W = .ok (.agg #[.int .i32 306, .int .i32 310, .int .i32 2, .int .i32 1]) W := by kernel_rfl
theorem idx9_5 (W : World) : (Instr.index 65 (.agg arr9) (.int .i64 5)).run Tryz.prog W = .ok (.agg #[.int .i32 313, .int .i32 327, .int .i32 2, .int .i32 1]) W := by kernel_rfl
theorem idx9_6 (W : World) : (Instr.index 65 (.agg arr9) (.int .i64 6)).run Tryz.prog W = .ok (.agg #[.int .i32 330, .int .i32 374, .int .i32 2, .int .i32 1]) W := by kernel_rfl
theorem idx9_7 (W : World) : (Instr.index 65 (.agg arr9) (.int .i64 7)).run Tryz.prog W = .ok (.agg #[.int .i32 377, .int .i32 381, .int .i32 2, .int .i32 1]) W := by kernel_rfl
theorem idx9_8 (W : World) : (Instr.index 65 (.agg arr9) (.int .i64 8)).run Tryz.prog W = .ok (.agg #[.int .i32 904, .int .i32 906, .int .i32 1, .int .i32 37]) W := by kernel_rfl
theorem idx9_9 (W : World) : (Instr.index 65 (.agg arr9) (.int .i64 9)).run Tryz.prog W = .ok (.agg #[.int .i32 913, .int .i32 929, .int .i32 1, .int .i32 32]) W := by kernel_rfl
theorem idx9_10 (W : World) : (Instr.index 65 (.agg arr9) (.int .i64 10)).run Tryz.prog W = .ok (.agg #[.int .i32 931, .int .i32 939, .int .i32 1, .int .i32 32]) W := by kernel_rfl
theorem idx9_11 (W : World) : (Instr.index 65 (.agg arr9) (.int .i64 11)).run Tryz.prog W = .ok (.agg #[.int .i32 1040, .int .i32 1071, .int .i32 1, .int .i32 32]) W := by kernel_rfl
theorem idx9_12 (W : World) : (Instr.index 65 (.agg arr9) (.int .i64 12)).run Tryz.prog W = .ok (.agg #[.int .i32 8544, .int .i32 8555, .int .i32 1, .int .i32 16]) W := by kernel_rfl
theorem idx9_13 (W : World) : (Instr.index 65 (.agg arr9) (.int .i64 13)).run Tryz.prog W = .ok (.agg #[.int .i32 65313, .int .i32 65338, .int .i32 1, .int .i32 32]) W := by kernel_rfl
theorem idx9 (n : Nat) (h : n < 14) (W : World) : (Instr.index 65 (.agg arr9) (.int .i64 (n : Int))).run Tryz.prog W = .ok (.agg #[.int .i32 (sts9.getD n fo0).f, .int .i32 (sts9.getD n fo0).t, .int .i32 (sts9.getD n fo0).s, .int .i32 (sts9.getD n fo0).u]) W := by
  have hn : n = 0 ∨ n = 1 ∨ n = 2 ∨ n = 3 ∨ n = 4 ∨ n = 5 ∨ n = 6 ∨ n = 7 ∨ n = 8 ∨ n = 9 ∨ n = 10 ∨ n = 11 ∨ n = 12 ∨ n = 13 := by omega
  clear h
  rcases hn with rfl | rfl | rfl | rfl | rfl | rfl | rfl | rfl | rfl | rfl | rfl | rfl | rfl | rfl
  · exact idx9_0 W
  · exact idx9_1 W
  · exact idx9_2 W
  · exact idx9_3 W
  · exact idx9_4 W
  · exact idx9_5 W
  · exact idx9_6 W
  · exact idx9_7 W
  · exact idx9_8 W
  · exact idx9_9 W
  · exact idx9_10 W
  · exact idx9_11 W
  · exact idx9_12 W
  · exact idx9_13 W
theorem inF_y {f t s u r : Int} (h1 : f ≤ r) (h2 : r ≤ t) (h3 : (r - f) % s = 0) : inF ⟨f, t, s, u⟩ r = true := decide_eq_true ⟨h1, h2, h3⟩
theorem inF_n {f t s u r : Int} (h : ¬ (f ≤ r ∧ r ≤ t ∧ (r - f) % s = 0)) : inF ⟨f, t, s, u⟩ r = false := decide_eq_false h

set_option maxRecDepth 20000 in
set_option maxHeartbeats 6400000 in
theorem put_st (r : Int) (B : Nat) (v : Value) (T : List Int) (w : World) (hL : Ly w) (hr : -2147483648 ≤ r ∧ r ≤ 2147483647) (hB : B ≤ w.heap.size) (h : Rn B v T w) (hT : T.length ≤ 100000) : Calls Tryz.prog 26 #[v, .int .i32 r] w fun e w' => ∃ v', e = .returned v' ∧ Rn B v' (T ++ stL r sts9) w' ∧ Below B w w' := by
  obtain ⟨i0, hi, hz0, hz1, hz2⟩ := info_parts elem_info
  have mx : Tryz.prog.follows .mixedOrders = true := by kernel_rfl
  obtain ⟨ty, fr, hg0⟩ := hL
  have HI := hide idx9
  have HNM := hide (putn_any r B)
  obtain ⟨xa, xc, hv⟩ := h.shape
  obtain ⟨N, hN⟩ : ∃ N, N = T.length := ⟨_, rfl⟩
  have HT := hide hT
  rw [← hN] at hv hT
  have HN := hide hN
  clear hN
  subst hv
  have HO := hide h
  clear h
  have hm1 : N + 1 ≤ maxLen := by unfold maxLen; omega
  have hm2 : (N + 1) * 4 ≤ 140737488355328 := by omega
  go_enter Tryz.func26, Tryz.ntmps26
  go_wp2_with (refine wpList_load_row rfl 65 _ rfl 0 rfl ty arr9 fr _ hg0 Tryz.underlying65 rfl (by kernel_rfl) ?_)
  go_loopw [8] (fun i wr => ∃ n : Nat, n ≤ 14 ∧ i = .int .i64 (n : Int) ∧ Hid (stL r (sts9.drop n) = stL r sts9) ∧ Gr w wr) (fun i _ => 14 - (intOf i).toNat)
  case atStart => exact ⟨0, Nat.zero_le _, rfl, hide rfl, Gr.refl _⟩
  case round =>
    obtain ⟨n, hn, rfl, HP, hg⟩ := hrel
    have hs1 := hg.size
    by_cases hlt : n < 14
    · have hzl : (n : Int) < 14 := by omega
      have hq0 : (0 : Int) ≤ (n : Int) := by omega
      have x0 := unhide HI n hlt
      have hst := stL_step r n hlt
      have hok := st9_ok n hlt
      rw [unhide HP] at hst
      generalize sts9.getD n fo0 = o at *
      obtain ⟨f, t, s, u⟩ := o
      simp only [okF, decide_eq_true_eq] at hok
      obtain ⟨o1, o2, o3, o4, o5, o6, o7, o8⟩ := hok
      dsimp only at x0 hst
      have HST := hide hst
      clear hst
      by_cases q1 : f ≤ r
      · have z1 : decide (f ≤ r) = true := by simpa using q1
        by_cases q2 : r ≤ t
        · have z2 : decide (r ≤ t) = true := by simpa using q2
          have ks : IntKind.i32.wrap (r - f) = r - f := wrap_in (by omega) (by omega)
          have z3 : ¬ s = 0 := by omega
          have z4 : (s == 0) = false := by simpa using z3
          have q3' : (r - f).tmod s = (r - f) % s := Int.tmod_eq_emod_of_nonneg (by omega)
          by_cases q3 : (r - f) % s = 0
          · have HE : Hid (stL r sts9 = [r + u]) := by
              show _ = _
              rw [unhide HST, if_pos (inF_y q1 q2 q3)]
            have z5 : ((r - f) % s == 0) = true := by simpa using q3
            have ku : IntKind.i32.wrap (r + u) = r + u := wrap_in (by omega) (by omega)
            clear HST HP
            have HO1 := hide ((unhide HO).below (hg.alloc (.cells #[.int .i32 f, .int .i32 t, .int .i32 s, .int .i32 u] 64)).below)
            go_wp2_with (at_builtin; refine wpList_append_lies _ rfl _ _ 35 rfl B 21 i0 _ 1 4 Tryz.underlying35 hi hz0 hz1 hz2 rfl (by omega) _ N _ rfl (World.ownsRow.alloc (Rn.own (unhide HN) (unhide HO1)) _) ⟨wr.heap.size + 1, 0, none⟩ 1 1 [.int .i32 (r + u)] rfl rfl (World.news_of_block (cs := #[.int .i32 (r + u)]) (t := 21) (fr := (0, 0)) (by simpa using heap_new (wr.alloc (.cells #[.int .i32 f, .int .i32 t, .int .i32 s, .int .i32 u] 64)) (.cells #[.int .i32 (r + u)] 21))) (by simp [Value.oneCell']) (by omega) hm1 hm2 (by simp; omega) (wr.heap.size + 1 + 1) (by simp) ?_; intro g9 cap9 w9 hown9 hgrow9 hat9 hlt9)
            go_ret
            refine ⟨_, rfl, ?_, ((((hg.alloc (.cells #[.int .i32 f, .int .i32 t, .int .i32 s, .int .i32 u] 64)).alloc (.cells #[.int .i32 (r + u)] 21)).below).mono hB).trans (below_own hgrow9 (by simp; omega) (own_block (Rn.own (unhide HN) (unhide HO1))))⟩
            rw [unhide HE]
            exact Rn.app (zs := [r + u]) (unhide HN) rfl hown9
          · have HE : Hid (stL r (sts9.drop (n + 1)) = stL r sts9) := by
              show _ = _
              rw [unhide HST, if_neg (by rw [inF_n (fun h => q3 h.2.2)]; simp)]
            have z5 : ((r - f) % s == 0) = false := by simpa using q3
            clear HST HP
            go_wp2
            go_roundw
            case rel => exact ⟨n + 1, by omega, by go_num, HE, hg.alloc _⟩
            case measure => simp [intOf]; omega
        · have HE : Hid (stL r (sts9.drop (n + 1)) = stL r sts9) := by
            show _ = _
            rw [unhide HST, if_neg (by rw [inF_n (fun h => q2 h.2.1)]; simp)]
          have z2 : decide (r ≤ t) = false := by simpa using q2
          clear HST HP
          go_wp2
          go_roundw
          case rel => exact ⟨n + 1, by omega, by go_num, HE, hg.alloc _⟩
          case measure => simp [intOf]; omega
      · have HE : Hid (stL r (sts9.drop (n + 1)) = stL r sts9) := by
          show _ = _
          rw [unhide HST, if_neg (by rw [inF_n (fun h => q1 h.1)]; simp)]
        have z1 : decide (f ≤ r) = false := by simpa using q1
        clear HST HP
        go_wp2
        go_roundw
        case rel => exact ⟨n + 1, by omega, by go_num, HE, hg.alloc _⟩
        case measure => simp [intOf]; omega
    · have hzl : ¬ (n : Int) < 14 := by omega
      obtain rfl : n = 14 := by omega
      have HE : Hid (stL r sts9 = namL r nms9) := (unhide HP).symm
      have HO1 := hide ((unhide HO).below hg.below)
      clear HP
      go_wp2_with (go_at_call 41; refine (unhide HNM _ T _ (Nat.le_trans hB hs1) (unhide HO1) (unhide HT)).mono ?_; rintro e w1 ⟨v1, rfl, r1, b1⟩)
      go_ret
      exact ⟨_, rfl, by rw [unhide HE]; exact r1, (hg.below.mono hB).trans b1⟩
end Go.Proofs.YticgeabmhmojfaaGreatDoor
/- decomp.Single, looseText, put, All: of characters that fall apart without a search that gives up. -/
namespace Go.Proofs.YticgeabmhmojfaaGreatDoor
set_option maxRecDepth 100000
open Go.RowKit

/-- The tables of the program, as they lie. -/
def ligs : Array Value := #[.string ⟨#[102, 102]⟩, .string ⟨#[102, 105]⟩, .string ⟨#[102, 108]⟩, .string ⟨#[102, 102, 105]⟩, .string ⟨#[102, 102, 108]⟩, .string ⟨#[197, 191, 116]⟩]
def scrs : Array Value := #[.int .i32 65, .int .i32 383, .int .i32 902, .int .i32 974, .int .i32 1025, .int .i32 1105, .int .i32 12353, .int .i32 12436]
structure L12 (w : World) : Prop where
  st : Ly w
  hp : Lay w
  lig : ∃ t fr, w.heap[2]? = some (.cells ligs t fr)
  scr : ∃ t fr, w.heap[3]? = some (.cells scrs t fr)
theorem kept_block {w w2 : World} {g : Nat} {o : Obj} (h : w.heap[g]? = some o) (hb : Below w.heap.size w w2) : w2.heap[g]? = some o := by
  rw [hb.block g (Array.getElem?_eq_some_iff.1 h).1]; exact h
theorem L12.keep {w w2 : World} (h : L12 w) (hb : Below w.heap.size w w2) : L12 w2 := by
  obtain ⟨h1, h2, ⟨t3, f3, h3⟩, ⟨t4, f4, h4⟩⟩ := h
  exact ⟨h1.keep hb, h2.below hb h2.pos, ⟨t3, f3, kept_block h3 hb⟩, ⟨t4, f4, kept_block h4 hb⟩⟩
theorem L12.fi {w : World} (h : L12 w) : w.cell? ⟨2, 1, none⟩ = some (.string ⟨#[102, 105]⟩) := by
  obtain ⟨t, f, h⟩ := h.lig
  simp [World.cell?, h, ligs]
/-- A contract by Below of what it found, for a base below that. -/
theorem Below.at {B : Nat} {a b c : World} (h : Below B a b) (hB : B ≤ a.heap.size) (k : Below b.heap.size b c) : Below B a c := h.trans (k.mono (Nat.le_trans hB h.size))

set_option maxHeartbeats 1000000 in
theorem single_no (r : Int) (w : World) (h : r < 8192 ∨ 8491 < r) : Calls Tryz.prog 60 #[.int .i32 r] w fun e w' => e = .returned (.tuple #[.int .i32 0, .bool false]) ∧ w = w' := by
  have z1 : (r == 8192) = false := by simp; omega
  have z2 : (r == 8193) = false := by simp; omega
  have z3 : (r == 8486) = false := by simp; omega
  have z4 : (r == 8490) = false := by simp; omega
  have z5 : (r == 8491) = false := by simp; omega
  go_enter Tryz.func60, Tryz.ntmps60
  go_wp2
  go_ret2
  exact ⟨rfl, rfl⟩
set_option maxHeartbeats 1000000 in
theorem loose_low (r : Int) (w : World) (h : r < 160) : Calls Tryz.prog 61 #[.int .i32 r] w fun e w' => e = .returned (.string ⟨#[]⟩) ∧ w = w' := by
  have z : decide (r < 160) = true := by simpa using h
  go_enter Tryz.func61, Tryz.ntmps61
  go_wp2
  go_ret
  exact ⟨rfl, rfl⟩
set_option maxHeartbeats 1000000 in
theorem loose_own (w : World) : Calls Tryz.prog 61 #[.int .i32 57344] w fun e w' => e = .returned (.string ⟨#[]⟩) ∧ w = w' := by
  go_enter Tryz.func61, Tryz.ntmps61
  go_wp2
  go_ret
  exact ⟨rfl, rfl⟩
set_option maxHeartbeats 1000000 in
theorem loose_fi (w : World) (hL : L12 w) : Calls Tryz.prog 61 #[.int .i32 64257] w fun e w' => e = .returned (.string ⟨#[102, 105]⟩) ∧ w = w' := by
  have c := hL.fi
  go_enter Tryz.func61, Tryz.ntmps61
  go_wp2
  go_ret
  exact ⟨rfl, rfl⟩

/-- Is a character made of itself, as far as it is looked at here? -/
def selfD (r : Int) : Bool := decide (0 ≤ r ∧ r < 160) || decide (r = 57344)
theorem selfD_iff (r : Int) : selfD r = true ↔ (0 ≤ r ∧ r < 160) ∨ r = 57344 := by unfold selfD; simp
theorem loose_self (r : Int) (w : World) (h : selfD r = true) : Calls Tryz.prog 61 #[.int .i32 r] w fun e w' => e = .returned (.string ⟨#[]⟩) ∧ w = w' := by
  rcases (selfD_iff r).1 h with h1 | rfl
  · exact loose_low r w h1.2
  · exact loose_own w

set_option maxHeartbeats 2000000 in
theorem put_self (r : Int) (B : Nat) (v : Value) (T : List Int) (w : World) (hr : selfD r = true) (hB : B ≤ w.heap.size) (h : Rn B v T w) (hT : T.length ≤ 100000) :
    Calls Tryz.prog 42 #[v, .int .i32 r, .bool true] w fun e w' => ∃ v', e = .returned v' ∧ Rn B v' (T ++ [r]) w' ∧ w.grownBy w' v.ownBlock := by
  obtain ⟨i0, hi, hz0, hz1, hz2⟩ := info_parts elem_info
  have hr2 := (selfD_iff r).1 hr
  have HS := hide (fun W => syl_any r W)
  rw [show isSyl r = false by unfold isSyl; simp; omega] at HS
  have HP := hide (fun W => pair_out r W (by omega))
  have H1 := hide (fun W => single_no r W (by omega))
  have HT := hide (fun W => loose_self r W hr)
  obtain ⟨xa, xc, hv⟩ := h.shape
  obtain ⟨N, hN⟩ : ∃ N, N = T.length := ⟨_, rfl⟩
  rw [← hN] at hv hT
  have HN := hide hN
  clear hN hr hr2
  subst hv
  have HO := hide h
  clear h
  have hm1 : N + 1 ≤ maxLen := by unfold maxLen; omega
  have hm2 : (N + 1) * 4 ≤ 140737488355328 := by omega
  go_enter Tryz.func42, Tryz.ntmps42
  go_wp2_with (first
    | (at_builtin; refine wpList_append_lies _ rfl _ _ 35 rfl B 21 i0 _ 1 4 Tryz.underlying35 hi hz0 hz1 hz2 rfl (by omega) _ N _ rfl (World.ownsRow.alloc (Rn.own (unhide HN) (unhide HO1)) _) ⟨w1.heap.size, 0, none⟩ 1 1 [.int .i32 r] rfl rfl (World.news_of_block (cs := #[.int .i32 r]) (t := 21) (fr := (0, 0)) (heap_new w1 _)) (by simp [Value.oneCell']) (by omega) hm1 hm2 (by simp; omega) (w1.heap.size + 1) (by simp) ?_; intro g9 cap9 w9 hown9 hgrow9 hat9 hlt9)
    | (go_at_call 61; refine (unhide HT _).mono ?_; rintro e w3 ⟨rfl, rfl⟩)
    | (go_at_call 60; refine (unhide H1 _).mono ?_; rintro e w2 ⟨rfl, rfl⟩)
    | (go_at_call 59; refine (unhide HP _).mono ?_; rintro e w1 ⟨rfl, b1⟩; have HO1 := hide ((unhide HO).below b1); have hs1 := b1.size)
    | (go_at_call 57; refine (unhide HS _).mono ?_; rintro e w0 ⟨rfl, rfl⟩))
  go_ret
  refine ⟨_, rfl, Rn.push (unhide HN) hown9, ?_⟩
  have g1 : w0.grownBy w1 (Value.slice xa N xc).ownBlock := ⟨b1.os, b1.tape, b1.output, b1.size, fun k hk _ => b1.block k hk⟩
  obtain ⟨a1, a2, a3, a4, a5⟩ := g1
  obtain ⟨c1, c2, c3, c4, c5⟩ := hgrow9
  refine ⟨c1.trans a1, c2.trans a2, c3.trans a3, by simp at c4; omega, fun k hk hne => ?_⟩
  rw [c5 k (by simp; omega) hne, Below.heap_alloc _ _ _ (by omega)]
  exact a5 k hk hne
theorem Rn.iterAt {B : Nat} {v : Value} {l : List Int} {w : World} {k : Nat} {s : ByteArray} {p : Nat} (h : Rn B v l w) (hk : w.heap[k]? = some (.stringIter s p)) (p2 : Nat) : Rn B v l (w.iterAt k s p2) := by
  refine ⟨h.1, ?_⟩
  rcases h.2 with h' | ⟨g, cap, cur, hv, hB, hg, rest⟩
  · exact .inl h'
  · refine .inr ⟨g, cap, cur, hv, hB, ?_, rest⟩
    have hne : g ≠ k := fun e => by rw [e, hk] at hg; cases hg
    rw [Lib.iterAt_other w k g s p2 hne]
    exact hg
/-- What a letter of the pairs is made of. -/
def pairD (r : Int) : Option (Int × Int) :=
  if 192 ≤ r ∧ r ≤ 320 then
    match prL r rows12 with
    | some (a, m, b) => if b && selfD a then some (a, m) else none
    | none => none
  else none
theorem pairD_some {r a m : Int} (h : pairD r = some (a, m)) : 192 ≤ r ∧ r ≤ 320 ∧ prL r rows12 = some (a, m, true) ∧ selfD a = true := by
  unfold pairD at h
  split at h
  · rename_i hr
    split at h
    · rename_i a' m' b hp
      split at h
      · rename_i hb
        simp only [Option.some.injEq, Prod.mk.injEq] at h
        obtain ⟨rfl, rfl⟩ := h
        simp only [Bool.and_eq_true] at hb
        exact ⟨hr.1, hr.2, by rw [hp, hb.1], hb.2⟩
      · cases h
    · cases h
  · cases h
set_option maxHeartbeats 2000000 in
theorem put_pair (r a m : Int) (B : Nat) (v : Value) (T : List Int) (w : World) (hr : pairD r = some (a, m)) (hB : B ≤ w.heap.size) (h : Rn B v T w) (hT : T.length ≤ 50000) :
    Calls Tryz.prog 42 #[v, .int .i32 r, .bool true] w fun e w' => ∃ v', e = .returned v' ∧ Rn B v' (T ++ [a, m]) w' ∧ Below B w w' := by
  obtain ⟨i0, hi, hz0, hz1, hz2⟩ := info_parts elem_info
  obtain ⟨h1, h2, h3, h4⟩ := pairD_some hr
  have HS := hide (fun W => syl_any r W)
  rw [show isSyl r = false by unfold isSyl; simp; omega] at HS
  have HP := hide (fun W => pair_in r a m true W h1 (by omega) h3)
  have HQ := hide (fun W b1 b2 => put_self a B v T W h4 b1 b2 (by omega))
  obtain ⟨xa, xc, hv⟩ := h.shape
  have HO := hide h
  obtain ⟨N, hN⟩ : ∃ N, N = (T ++ [a]).length := ⟨_, rfl⟩
  have hNT : N ≤ 60000 := by rw [hN]; simp; omega
  have HN := hide hN
  have e2 : T ++ [a, m] = (T ++ [a]) ++ [m] := by simp
  rw [e2]
  clear h hN h3 h4 e2
  generalize T ++ [a] = T2 at *
  generalize T.length = LT at *
  subst hv
  have hm1 : N + 1 ≤ maxLen := by unfold maxLen; omega
  have hm2 : (N + 1) * 4 ≤ 140737488355328 := by omega
  go_enter Tryz.func42, Tryz.ntmps42
  go_wp2_with (first
    | (at_builtin; refine wpList_append_lies _ rfl _ _ 35 rfl B 21 i0 _ 1 4 Tryz.underlying35 hi hz0 hz1 hz2 rfl (by omega) _ N _ rfl (World.ownsRow.alloc (Rn.own (unhide HN) (unhide HO2)) _) ⟨w2.heap.size, 0, none⟩ 1 1 [.int .i32 m] rfl rfl (World.news_of_block (cs := #[.int .i32 m]) (t := 21) (fr := (0, 0)) (heap_new w2 _)) (by simp [Value.oneCell']) (by omega) hm1 hm2 (by simp; omega) (w2.heap.size + 1) (by simp) ?_; intro g9 cap9 w9 hown9 hgrow9 hat9 hlt9)
    | (go_at_call 42; refine (unhide HQ _ hs1 (unhide HO1)).mono ?_; rintro e w2 ⟨v2, rfl, r2, g2⟩; have b2 := hb1.trans (below_own g2 hs1 (own_block (Rn.own rfl (unhide HO1)))); have hs2 : B ≤ w2.heap.size := Nat.le_trans hs1 g2.size; obtain ⟨ya, yc, hv2⟩ := r2.shape; rw [← unhide HN] at hv2; have HO2 := hide r2; clear r2 g2; subst hv2)
    | (go_at_call 59; refine (unhide HP _).mono ?_; rintro e w1 ⟨rfl, b1⟩; have HO1 := hide ((unhide HO).below b1); have hb1 := b1.mono hB; have hs1 := Nat.le_trans hB b1.size)
    | (go_at_call 57; refine (unhide HS _).mono ?_; rintro e w0 ⟨rfl, rfl⟩))
  go_ret
  exact ⟨_, rfl, Rn.push (unhide HN) hown9, (b2.alloc hs2 _).trans (below_own hgrow9 (by simp; omega) (own_block (Rn.own (unhide HN) (unhide HO2))))⟩
def fiL : List Int := [102, 105]
def fiT : ByteArray := ⟨#[102, 105]⟩
theorem fi_dec (p : Nat) (h : p < 2) : (Utf8.decode fiT p).2 = 1 ∧ selfD ((Utf8.decode fiT p).1 : Int) = true ∧ fiL.take (p + 1) = fiL.take p ++ [((Utf8.decode fiT p).1 : Int)] := by
  have hp : p = 0 ∨ p = 1 := by omega
  rcases hp with rfl | rfl
  · exact ⟨rfl, rfl, rfl⟩
  · exact ⟨rfl, rfl, rfl⟩
theorem fi_ne : fiT.toList.isEmpty = false := by
  rw [show fiT.toList = [102, 105] from ByteArray.toList_mk [102, 105]]
  rfl
theorem fi_ne2 : (fiT.toList == []) = false := by
  rw [show fiT.toList = [102, 105] from ByteArray.toList_mk [102, 105]]
  rfl
set_option maxHeartbeats 2000000 in
theorem put_fi (B : Nat) (v : Value) (T : List Int) (w : World) (hL : L12 w) (hB : B ≤ w.heap.size) (h : Rn B v T w) (hT : T.length ≤ 50000) :
    Calls Tryz.prog 42 #[v, .int .i32 64257, .bool true] w fun e w' => ∃ v', e = .returned v' ∧ Rn B v' (T ++ fiL) w' ∧ Below B w w' := by
  have HS := hide (fun W => syl_any 64257 W)
  rw [show isSyl 64257 = false by rfl] at HS
  have HP := hide (fun W => pair_out 64257 W (by omega))
  have H1 := hide (fun W => single_no 64257 W (by omega))
  have HT : Hid (∀ W, L12 W → Calls Tryz.prog 61 #[.int .i32 64257] W fun e w' => e = .returned (.string fiT) ∧ W = w') := loose_fi
  have HD := hide fi_dec
  have HL := hide hL
  have h2 : fiT.size = 2 := rfl
  have hne := fi_ne
  have hne2 := fi_ne2
  have HQ := hide (fun x v T W (hx : selfD x = true) b1 b2 => put_self x B v T W hx b1 b2)
  obtain ⟨xa, xc, hv⟩ := h.shape
  have HO := hide h
  clear h hL
  subst hv
  generalize fiT = s at *
  go_enter Tryz.func42, Tryz.ntmps42
  go_wp2_with (first
    | (go_at_call 61; refine (unhide HT _ (unhide HL1)).mono ?_; rintro e w3 ⟨rfl, rfl⟩)
    | (go_at_call 60; refine (unhide H1 _).mono ?_; rintro e w2 ⟨rfl, rfl⟩)
    | (go_at_call 59; refine (unhide HP _).mono ?_; rintro e w1 ⟨rfl, b1⟩; have HO1 := hide ((unhide HO).below b1); have hb1 := b1.mono hB; have hs1 := Nat.le_trans hB b1.size; have HL1 := hide ((unhide HL).keep b1))
    | (go_at_call 57; refine (unhide HS _).mono ?_; rintro e w0 ⟨rfl, rfl⟩))
  go_loopw [0] (fun u wr => ∃ p : Nat, p ≤ 2 ∧ wr.heap[w1.heap.size]? = some (.stringIter s p) ∧ Rn B u (T ++ fiL.take p) wr ∧ Below B w0 wr) (fun _ wr => 2 - wr.iterPos w1.heap.size)
  case atStart => exact ⟨0, by omega, World.iter_heap w1 s 0, by rw [List.take_zero, List.append_nil]; exact (unhide HO1).below (Below.one _ _), hb1.alloc hs1 _⟩
  case round =>
    clear HO HO1
    obtain ⟨p, hp2, hit, ho, hb⟩ := hrel
    have hpos0 := iterPos_at hit
    have hbs : B ≤ wr.heap.size := Nat.le_trans hB hb.size
    by_cases hp : p < s.size
    · have hp' : p < 2 := by omega
      have hnx : ∀ ty, (Instr.next (.pointer (some ⟨w1.heap.size, 0, none⟩)) true ty).run Tryz.prog wr = _ := fun ty => Lib.run_next_any_at wr w1.heap.size s p ty hit hp
      obtain ⟨hd1, hd2, hd3⟩ := unhide HD p hp'
      rw [hd1] at hnx
      have hit2 := Lib.iterAt_heap wr w1.heap.size s p (p + 1) hit
      have hb2 := Lib.below_iterAt hb (k := w1.heap.size) hs1 s (p + 1)
      have ho2 := ho.iterAt hit (p + 1)
      have hsz2 : B ≤ (wr.iterAt w1.heap.size s (p + 1)).heap.size := by rw [Lib.iterAt_size]; exact hbs
      have HTK : Hid (T ++ fiL.take (p + 1) = (T ++ fiL.take p) ++ [((Utf8.decode s p).1 : Int)]) := by show _ = _; rw [hd3, List.append_assoc]
      have hll : (T ++ fiL.take p).length ≤ 100000 := by
        rw [List.length_append]
        have : (fiL.take p).length ≤ 2 := by rw [List.length_take]; exact Nat.min_le_right _ _
        omega
      obtain ⟨ya, yc, hv2⟩ := ho.shape
      have HLL := hide hll
      clear hll
      generalize (Utf8.decode s p).1 = x at *
      obtain ⟨W1, hW1⟩ : ∃ W1, W1 = wr.iterAt w1.heap.size s (p + 1) := ⟨_, rfl⟩
      rw [← hW1] at hnx hit2 hb2 ho2 hsz2
      clear hW1 hd3 hd1 hit ho
      generalize T ++ fiL.take p = T2 at *
      obtain ⟨LT, hLT⟩ : ∃ N, N = T2.length := ⟨_, rfl⟩
      rw [← hLT] at hv2
      clear hLT
      subst hv2
      have HO2 := hide ho2
      have HIT := hide hit2
      have HD2 := hide hd2
      have HB2 := hide hb2
      clear ho2 hit2 hd2 hb2
      go_wp2_with (go_at_call 42; refine (unhide HQ _ _ T2 _ (unhide HD2) hsz2 (unhide HO2) (unhide HLL)).mono ?_; rintro e w5 ⟨v5, rfl, r5, g5⟩)
      have hit5 : w5.heap[w1.heap.size]? = some (.stringIter s (p + 1)) := by
        rw [g5.block _ (Array.getElem?_eq_some_iff.1 (unhide HIT)).1 ?_]
        · exact unhide HIT
        · intro hne
          rcases (unhide HO2).2 with ⟨hv', _⟩ | ⟨g, cap, cur, hv', _, hg, _⟩
          · rw [hv'] at hne; simp [Value.ownBlock] at hne
          · rw [hv'] at hne
            simp [Value.ownBlock] at hne
            rw [← hne, unhide HIT] at hg
            cases hg
      go_roundw
      case rel => exact ⟨p + 1, by omega, hit5, by rw [unhide HTK]; exact r5, (unhide HB2).trans (below_own g5 hsz2 (own_block (Rn.own rfl (unhide HO2))))⟩
      case measure => rw [iterPos_at hit5, hpos0]; omega
    · have hnx : ∀ ty, (Instr.next (.pointer (some ⟨w1.heap.size, 0, none⟩)) true ty).run Tryz.prog wr = _ := fun ty => Lib.run_next_end_at wr w1.heap.size s p ty hit hp
      obtain rfl : p = 2 := by omega
      obtain ⟨ya, yc, hv2⟩ := ho.shape
      have e2 : T ++ fiL.take 2 = T ++ fiL := rfl
      rw [e2] at ho hv2
      have HO2 := hide ho
      clear ho
      obtain ⟨LT, hLT⟩ : ∃ N, N = (T ++ fiL).length := ⟨_, rfl⟩
      rw [← hLT] at hv2
      clear hLT
      subst hv2
      go_wp2
      go_ret
      exact ⟨.slice ya LT yc, rfl, unhide HO2, hb⟩
/-- What a character falls apart into, and whether it is one that is looked at here. -/
def decO (r : Int) : List Int := if selfD r then [r] else if r = 64257 then fiL else match pairD r with | some (a, m) => [a, m] | none => []
def dOk (r : Int) : Bool := selfD r || decide (r = 64257) || (pairD r).isSome
theorem decO_len (r : Int) : (decO r).length ≤ 2 := by
  unfold decO
  split
  · simp
  · split
    · simp [fiL]
    · split <;> simp
theorem put_any12 (r : Int) (B : Nat) (v : Value) (T : List Int) (w : World) (hL : L12 w) (hr : dOk r = true) (hB : B ≤ w.heap.size) (h : Rn B v T w) (hT : T.length ≤ 50000) :
    Calls Tryz.prog 42 #[v, .int .i32 r, .bool true] w fun e w' => ∃ v', e = .returned v' ∧ Rn B v' (T ++ decO r) w' ∧ Below B w w' := by
  unfold decO
  by_cases h1 : selfD r = true
  · rw [if_pos h1]
    exact (put_self r B v T w h1 hB h (by omega)).mono fun e w' ⟨v', he, hr', hg⟩ => ⟨v', he, hr', below_own hg hB (own_block (Rn.own rfl h))⟩
  · rw [if_neg h1]
    by_cases h2 : r = 64257
    · rw [if_pos h2]
      subst h2
      exact put_fi B v T w hL hB h hT
    · rw [if_neg h2]
      cases hp : pairD r with
      | none =>
        exfalso
        unfold dOk at hr
        rw [hp] at hr
        simp [h1, h2] at hr
      | some q =>
        obtain ⟨a, m⟩ := q
        exact put_pair r a m B v T w hp hB h hT

/-- decomp.All, plainly. -/
def decL (l : List Int) : List Int := l.flatMap decO
theorem decL_take (l : List Int) (k : Nat) (h : k < l.length) : decL (l.take (k + 1)) = decL (l.take k) ++ decO (l.getD k 0) := by
  rw [take_snoc l k h]; simp [decL]
theorem decL_takeLen (l : List Int) (k : Nat) : (decL (l.take k)).length ≤ 2 * l.length := by
  have h1 : ∀ m : List Int, (decL m).length ≤ 2 * m.length := fun m => by
    induction m with
    | nil => simp [decL]
    | cons x m ih =>
      have := decO_len x
      unfold decL at ih ⊢
      rw [List.flatMap_cons, List.length_append, List.length_cons]
      omega
  have := h1 (l.take k)
  have h2 : (l.take k).length ≤ l.length := by rw [List.length_take]; exact Nat.min_le_right _ _
  omega
set_option maxHeartbeats 800000 in
theorem dall_empty (a : Option Addr) (cap : Nat) (w : World) :
    Calls Tryz.prog 27 #[.bool true, .slice a 0 cap] w fun e w' => ∃ v, e = .returned v ∧ Rn w.heap.size v [] w' ∧ Below w.heap.size w w' := by
  obtain ⟨i0, hi, hz0, hz1, hz2⟩ := info_parts elem_info
  go_enter Tryz.func27, Tryz.ntmps27
  go_wp2_with (refine wpList_make_own _ rfl _ _ 35 rfl w.heap.size 21 i0 (.int .i32 0) 1 Tryz.underlying35 hi hz0 hz1 .i64 .i64 _ 0 rfl rfl rfl (by rw [hz2]; omega) (Nat.zero_le _) (Nat.le_refl _) ?_; intro w1 hown1 hgrow1)
  refine wp_loop_rounds 1 ?_
  rw [rounds_succ]
  have HB : Below w.heap.size w w1 := (Below.refl _ _).grown hgrow1 (Nat.le_refl _) (by intro k h; cases h)
  have HO := hide hown1
  clear hown1 hgrow1
  go_wp2
  go_ret
  exact ⟨_, rfl, unhide HO, HB⟩
set_option maxHeartbeats 1600000 in
theorem dall_some (b off cap : Nat) (l : List Int) (w : World) (hL : L12 w) (hlen : l.length ≤ 20000) (h0 : 0 < l.length) (hok : ∀ i, i < l.length → dOk (l.getD i 0) = true)
    (hcell : ∀ i, i < l.length → w.cell? ⟨b, off + i, none⟩ = some (.int .i32 (l.getD i 0))) :
    Calls Tryz.prog 27 #[.bool true, .slice (some ⟨b, off, none⟩) l.length cap] w fun e w' => ∃ v, e = .returned v ∧ Rn w.heap.size v (decL l) w' ∧ Below w.heap.size w w' := by
  obtain ⟨i0, hi, hz0, hz1, hz2⟩ := info_parts elem_info
  have HC := hide hcell
  have HOK := hide hok
  have HLY := hide hL
  have hml : l.length ≤ maxLen := by unfold maxLen; omega
  clear hcell hok hL
  go_enter Tryz.func27, Tryz.ntmps27
  go_wp2_with (refine wpList_make_own _ rfl _ _ 35 rfl w.heap.size 21 i0 (.int .i32 0) 1 Tryz.underlying35 hi hz0 hz1 .i64 .i64 _ l.length rfl rfl rfl (by rw [hz2]; omega) hml (Nat.le_refl _) ?_; intro w1 hown1 hgrow1)
  have HB : Below w.heap.size w w1 := (Below.refl _ _).grown hgrow1 (Nat.le_refl _) (by intro k h; cases h)
  have HO := hide hown1
  clear hown1 hgrow1
  go_loopw [5, 13] (fun v i wr => ∃ k : Nat, k ≤ l.length ∧ i = .int .i64 (k : Int) ∧ Rn w.heap.size v (decL (l.take k)) wr ∧ Below w.heap.size w wr) (fun _ i _ => l.length - (intOf i).toNat)
  case atStart => exact ⟨0, Nat.zero_le _, rfl, unhide HO, HB⟩
  case round =>
    clear HO HB
    obtain ⟨k, hk, rfl, hown, hb⟩ := hrel
    have hsz := hb.size
    by_cases hlt : k < l.length
    · have hzl : (k : Int) < (l.length : Int) := by omega
      have hz0' : (0 : Int) ≤ (k : Int) := by omega
      have g1 := unhide HC k hlt
      have k1 : wr.cell? ⟨b, off + k, none⟩ = some (.int .i32 (l.getD k 0)) := (hb.cell (by exact cell_lt g1)).trans g1
      have HS := hide (decL_take l k hlt)
      have hTl := decL_takeLen l k
      have HA := hide (put_any12 (l.getD k 0) w.heap.size _ _ wr ((unhide HLY).keep hb) (unhide HOK k hlt) hsz hown (by omega))
      clear g1
      obtain ⟨xa, xc, hv⟩ := hown.shape
      generalize l.getD k 0 = x at *
      generalize decL (l.take k) = T at *
      generalize decO x = p at *
      obtain ⟨N, hN⟩ : ∃ N, N = T.length := ⟨_, rfl⟩
      rw [← hN] at hv
      clear hN hown
      subst hv
      go_wp2_with (go_at_call 42; refine (unhide HA).mono ?_; rintro e w2 ⟨v2, rfl, r2, b2⟩)
      go_roundw
      case rel => exact ⟨k + 1, by omega, by go_num, by rw [unhide HS]; exact r2, hb.trans b2⟩
      case measure => simp [intOf]; omega
    · have hzl : ¬ (k : Int) < (l.length : Int) := by omega
      obtain rfl : k = l.length := by omega
      rw [List.take_length] at hown
      obtain ⟨xa, xc, hv⟩ := hown.shape
      obtain ⟨N, hN⟩ : ∃ N, N = (decL l).length := ⟨_, rfl⟩
      rw [← hN] at hv
      clear hN
      have HO := hide hown
      clear hown
      subst hv
      go_wp2
      go_ret
      exact ⟨.slice xa N xc, rfl, unhide HO, hb⟩
theorem dall_any (v : Value) (l : List Int) (w : World) (hL : L12 w) (hlen : l.length ≤ 20000) (hok : ∀ x, x ∈ l → dOk x = true) (hR : Row w v l) : Calls Tryz.prog 27 #[.bool true, v] w fun e w' => ∃ v, e = .returned v ∧ Row w' v (decL l) ∧ Below w.heap.size w w' := by
  obtain ⟨a, c, rfl, h1⟩ := hR
  by_cases h0 : l.length = 0
  · obtain rfl : l = [] := List.eq_nil_of_length_eq_zero h0
    exact (dall_empty a c w).mono fun _ _ ⟨v, he, h, hb⟩ => ⟨v, he, h.row, hb⟩
  · obtain ⟨b1, o1, rfl, k1⟩ := h1 (by omega)
    exact (dall_some b1 o1 c l w hL hlen (by omega) (fun i hi => hok _ (by simp [List.getD, hi])) k1).mono fun _ _ ⟨v, he, h, hb⟩ => ⟨v, he, h.row, hb⟩
end Go.Proofs.YticgeabmhmojfaaGreatDoor
/- compose.letterOf, of a letter and a mark that make a letter of Latin which is found before any search gives up. -/
namespace Go.Proofs.YticgeabmhmojfaaGreatDoor
set_option maxRecDepth 100000
open Go.RowKit

/-- What decomp.Pair tells of a number from 41 to 140 in hex, plainly. -/
def prT (r : Int) : Option (Int × Int × Bool) := if r < 192 then some (0, 0, false) else if r ≤ 320 then prL r rows12 else none
theorem prT_any (r a m : Int) (b : Bool) (w : World) (h : prT r = some (a, m, b)) : Calls Tryz.prog 59 #[.int .i32 r] w fun e w' => e = .returned (.tuple #[.int .i32 a, .int .i32 m, .bool b]) ∧ Below w.heap.size w w' := by
  unfold prT at h
  by_cases h1 : r < 192
  · rw [if_pos h1] at h
    simp only [Option.some.injEq, Prod.mk.injEq] at h
    obtain ⟨rfl, rfl, rfl⟩ := h
    exact pair_out r w (.inl h1)
  · rw [if_neg h1] at h
    by_cases h2 : r ≤ 320
    · rw [if_pos h2] at h
      exact pair_in r a m b w (by omega) (by omega) h
    · rw [if_neg h2] at h
      cases h
theorem prT_le {r : Int} {q : Int × Int × Bool} (h : prT r = some q) : r ≤ 320 := by
  unfold prT at h
  split at h
  · omega
  · split at h
    · assumption
    · cases h
/-- compose.letterOf, plainly, from r on. -/
def letF (a b : Int) : Nat → Int → Option Int
  | 0, _ => none
  | n + 1, r =>
    match prT r with
    | none => none
    | some (x, m, ok) => if ok = true ∧ x = a ∧ m = b then some r else letF a b n (r + 1)
theorem idxS0 (W : World) : (Instr.index 108 (.agg scrs) (.int .i64 0)).run Tryz.prog W = .ok (.agg #[.int .i32 65, .int .i32 383]) W := by kernel_rfl

set_option maxHeartbeats 4000000 in
theorem letter_any (a b c : Int) (w : World) (hL : L12 w) (h0 : 65 ≤ a) (h1 : a ≤ 383) (h : letF a b 256 65 = some c) :
    Calls Tryz.prog 67 #[.int .i32 a, .int .i32 b] w fun e w' => e = .returned (.int .i32 c) ∧ Below w.heap.size w w' := by
  obtain ⟨ty, fr, hg0⟩ := hL.scr
  have x0 := idxS0
  have HX := hide h
  have z1 : ¬ a < 65 := by omega
  have z2 : ¬ 383 < a := by omega
  have z1' : decide (a < 65) = false := by simp; omega
  clear h hL
  go_enter Tryz.func67, Tryz.ntmps67
  go_wp2_with (refine wpList_load_row rfl 108 _ rfl 3 rfl ty scrs fr _ hg0 Tryz.underlying108 rfl (by kernel_rfl) ?_)
  refine wp_loop_rounds 1 ?_
  rw [rounds_succ]
  go_wp2
  have c0 : (w.alloc (.cells #[.int .i32 65, .int .i32 383] 107)).cell? ⟨w.heap.size, 1, none⟩ = some (.int .i32 383) := by rw [World.cell?_alloc_mark]; rfl
  have hb0 : Below w.heap.size w (w.alloc (.cells #[.int .i32 65, .int .i32 383] 107)) := Below.one _ _
  have hlt0 : w.heap.size < (w.alloc (.cells #[.int .i32 65, .int .i32 383] 107)).heap.size := by simp
  generalize w.alloc (.cells #[.int .i32 65, .int .i32 383] 107) = w1 at *
  go_loopw [7] (fun v wr => ∃ (n : Nat) (r : Int), v = .int .i32 r ∧ 65 ≤ r ∧ r ≤ 321 ∧ Hid (letF a b n r = some c) ∧ Below w1.heap.size w1 wr) (fun v _ => 400 - (intOf v).toNat)
  case atStart => exact ⟨256, 65, rfl, by omega, by omega, HX, Below.refl _ _⟩
  case round =>
    clear HX
    obtain ⟨n, r, rfl, hr0, hr1, HR, hb⟩ := hrel
    obtain ⟨n, rfl⟩ : ∃ k, n = k + 1 := by cases n with
      | zero => cases unhide HR
      | succ n => exact ⟨n, rfl⟩
    have hst := unhide HR
    rw [letF] at hst
    cases hp : prT r with
    | none => rw [hp] at hst; cases hst
    | some q =>
      obtain ⟨x, m, ok⟩ := q
      rw [hp] at hst
      dsimp only at hst
      have hle := prT_le hp
      have hzl : r ≤ 383 := by omega
      have cc : wr.cell? ⟨w.heap.size, 1, none⟩ = some (.int .i32 383) := (hb.cell (by exact hlt0)).trans c0
      have HA := hide (prT_any r x m ok wr hp)
      have HB0 := hide hb0
      clear HR hp hb0
      have fin : ∀ {w2 : World}, Below wr.heap.size wr w2 → Below w1.heap.size w1 w2 := fun b2 => hb.trans (b2.mono hb.size)
      have out : ∀ {w2 : World}, Below w1.heap.size w1 w2 → Below w.heap.size w w2 := fun b2 => (unhide HB0).trans (b2.mono (unhide HB0).size)
      by_cases hok : ok = true
      · subst hok
        by_cases hx : x = a
        · by_cases hm : m = b
          · rw [if_pos ⟨rfl, hx, hm⟩] at hst
            have HE := hide (Option.some.inj hst)
            have xz : (x == a) = true := by simpa using hx
            have mz : (m == b) = true := by simpa using hm
            clear hst hx hm
            go_wp2_with (go_at_call 59; refine (unhide HA).mono ?_; rintro e w2 ⟨rfl, b2⟩)
            go_ret
            exact ⟨ret_int (unhide HE), out (fin b2)⟩
          · rw [if_neg (by intro e; exact hm e.2.2)] at hst
            have HE := hide hst
            have xz : (x == a) = true := by simpa using hx
            have mz : (m == b) = false := by simpa using hm
            clear hst hx hm
            go_wp2_with (go_at_call 59; refine (unhide HA).mono ?_; rintro e w2 ⟨rfl, b2⟩)
            go_roundw
            case rel => exact ⟨n, r + 1, by go_num, by omega, by omega, HE, fin b2⟩
            case measure => simp [intOf]; omega
        · rw [if_neg (by intro e; exact hx e.2.1)] at hst
          have HE := hide hst
          have xz : (x == a) = false := by simpa using hx
          clear hst hx
          go_wp2_with (go_at_call 59; refine (unhide HA).mono ?_; rintro e w2 ⟨rfl, b2⟩)
          go_roundw
          case rel => exact ⟨n, r + 1, by go_num, by omega, by omega, HE, fin b2⟩
          case measure => simp [intOf]; omega
      · rw [if_neg (by intro e; exact hok e.1)] at hst
        have HE := hide hst
        obtain rfl : ok = false := by simpa using hok
        clear hst hok
        go_wp2_with (go_at_call 59; refine (unhide HA).mono ?_; rintro e w2 ⟨rfl, b2⟩)
        go_roundw
        case rel => exact ⟨n, r + 1, by go_num, by omega, by omega, HE, fin b2⟩
        case measure => simp [intOf]; omega
end Go.Proofs.YticgeabmhmojfaaGreatDoor
/- The document's Syllable and Apart. -/
namespace Go.Proofs.YticgeabmhmojfaaGreatDoor
set_option maxRecDepth 100000
open Go.RowKit

end Go.Proofs.YticgeabmhmojfaaGreatDoor
