/- The landed appendValue, appendPieces of layer 24. (By gen_sv.py.) -/
import Derived.Test.YthbldkkjjjmegaaGreatDoorM10
import Derived.Test.YthbldkkjjjmegaaGreatDoorM37
import Derived.Test.YthbldkkjjjmegaaGreatDoorM16
import Derived.Deep.RegionHeld3
namespace Go.Proofs.YthbldkkjjjmegaaGreatDoor
set_option maxRecDepth 100000
open Go.RowKit

/-- A row of bytes that grew: what lay below stays, and each box. -/
structure Ap (B : Nat) (w : World) (v : Value) (Y : List Int) (w2 : World) : Prop where
  own : Ob B v Y w2
  bel : Below B w w2
  kp : ∀ (b : Nat) (cs : Array Value) (T : TypeId), w.heap[b]? = some (Obj.cells cs T) → T ≠ 5 → w2.heap[b]? = some (Obj.cells cs T)
theorem Ap.start {B : Nat} {w : World} {v : Value} {Y : List Int} (h : Ob B v Y w) : Ap B w v Y w := ⟨h, Below.refl _ _, fun _ _ _ h _ => h⟩
theorem Ap.big {B : Nat} {w w2 : World} {v : Value} {Y : List Int} (h : Ap B w v Y w2) (hB : B ≤ w.heap.size) : B ≤ w2.heap.size := Nat.le_trans hB h.bel.size
theorem Ap.step {B : Nat} {w w2 w3 : World} {v v3 : Value} {Y Z : List Int} (h : Ap B w v Y w2) (hB : B ≤ w.heap.size) (g : w2.grownBy w3 v.ownBlock) (o : Ob B v3 Z w3) : Ap B w v3 Z w3 := by
  refine ⟨o, h.bel.trans (below_own g (h.big hB) (own_block h.own)), fun b cs T hb hT => ?_⟩
  have h1 := h.kp b cs T hb hT
  obtain ⟨_, _, _, _, hk⟩ := g
  exact (hk b (blk_lt h1) (fun e => h.own.ne h1 hT e.symm)).trans h1
theorem Ap.trans {B : Nat} {w w2 w3 : World} {v v3 : Value} {Y Z : List Int} (h : Ap B w v Y w2) (k : Ap B w2 v3 Z w3) : Ap B w v3 Z w3 := ⟨k.own, h.bel.trans k.bel, fun b cs T hb hT => k.kp b cs T (h.kp b cs T hb hT) hT⟩
theorem Ap.grow {B : Nat} {w w2 w3 : World} {v : Value} {Y : List Int} (h : Ap B w v Y w2) (hB : B ≤ w.heap.size) (g : Below w2.heap.size w2 w3) : Ap B w v Y w3 :=
  ⟨h.own.below g, h.bel.trans (g.mono (h.big hB)), fun b cs T hb hT => (g.block b (blk_lt (h.kp b cs T hb hT))).trans (h.kp b cs T hb hT)⟩
/-- Behind a box of the call's own. -/
theorem Ap.off {B : Nat} {w w1 w2 : World} {v : Value} {Y : List Int} (h : Ap B w1 v Y w2) (hB : B ≤ w.heap.size) (g : Below w.heap.size w w1) : Ap B w v Y w2 :=
  ⟨h.own, (g.mono hB).trans h.bel, fun b cs T hb hT => h.kp b cs T ((g.block b (blk_lt hb)).trans hb) hT⟩
theorem ix_v24 (c : Int) (h0 : 0 ≤ c) (h1 : c < 256) : decide (0 ≤ Lib.indexByte [40, 41, 42, 92] c.toNat.toUInt8) = decide ((40 ≤ c ∧ c ≤ 42) ∨ c = 92) := by
  have h : ∀ c : Fin 256, decide (0 ≤ Lib.indexByte [40, 41, 42, 92] (c.val : Int).toNat.toUInt8) = decide ((40 ≤ (c.val : Int) ∧ (c.val : Int) ≤ 42) ∨ (c.val : Int) = 92) := by decide +kernel
  have := h ⟨c.toNat, by omega⟩
  simpa [Int.toNat_of_nonneg h0] using this
theorem u8_and15 (c : Int) (h0 : 0 ≤ c) (h1 : c < 256) : bits .and .u8 c 15 = c % 16 := by
  have h : ∀ c : Fin 256, bits .and .u8 (c.val : Int) 15 = (c.val : Int) % 16 := by decide +kernel
  have := h ⟨c.toNat, by omega⟩
  simpa [Int.toNat_of_nonneg h0] using this
theorem hexT_at (a : Nat) (h : a < 16) : (((⟨#[48, 49, 50, 51, 52, 53, 54, 55, 56, 57, 97, 98, 99, 100, 101, 102]⟩ : ByteArray)[a]'(by exact h)).toNat : Int) = hexD (a : Int) := by
  have h' : ∀ a : Fin 16, (((⟨#[48, 49, 50, 51, 52, 53, 54, 55, 56, 57, 97, 98, 99, 100, 101, 102]⟩ : ByteArray)[a.val]'(by exact a.isLt)).toNat : Int) = hexD (a.val : Int) := by decide +kernel
  exact h' ⟨a, h⟩
theorem grown_drew {w w2 : World} {row : Option Nat} {o : Obj} (h : (w.alloc o).drew.grownBy w2 row) : w.grownBy w2 row := ((Gr.one w o).drew.grown row).trans h
theorem vTxt_drop (l : List Int) (k : Nat) (h : k < l.length) : vTxt (l.drop k) = vByte (l.getD k 0) ++ vTxt (l.drop (k + 1)) := by rw [drop_consI l k h, vTxt]
theorem vByte_le (c : Int) : (vByte c).length ≤ 3 := by unfold vByte; split <;> simp

set_option maxHeartbeats 6400000 in
/-- The landed appendValue. -/
theorem appv_any (B : Nat) (Y : List Int) (v : Value) (s : ByteArray) (w : World) (hO : Ob B v Y w) (hB : B ≤ w.heap.size) (hl : Y.length + 3 * s.size ≤ 100000000) :
    Calls Tryz.prog 50 #[v, .string s] w fun e w' => ∃ v2, e = .returned v2 ∧ Ap B w v2 (Y ++ vTxt (nums s)) w' := by
  obtain ⟨i0, hi, hz0, hz1, hz2⟩ := info_parts u8_info
  have A0 := Ap.start hO
  clear hO
  go_enter Tryz.func50, Tryz.ntmps50
  go_wp2
  go_loopw [0, 9] (fun vo vi ws => ∃ (k : Nat) (D : List Int), k ≤ s.size ∧ vi = .int .i64 (k : Int) ∧ Hid (D ++ vTxt ((nums s).drop k) = vTxt (nums s)) ∧ D.length ≤ 3 * k ∧ Ap B w vo (Y ++ D) ws) (fun _ i _ => s.size - (intOf i).toNat)
  case atStart => exact ⟨0, [], Nat.zero_le _, rfl, rfl, Nat.le_refl _, by rw [List.append_nil]; exact A0⟩
  case round =>
    obtain ⟨k, D, hk, rfl, HD, hD, hL⟩ := hrel

    have LL := hide hL
    have hBs := hL.big hB
    clear hL A0
    by_cases hlt : k < s.size
    · have yzl : (k : Int) < (s.size : Int) := by omega
      have yz0 : (0 : Int) ≤ (k : Int) := by omega
      obtain ⟨c, hc⟩ : ∃ c : Int, (s[k].toNat : Int) = c := ⟨_, rfl⟩
      have hat := nums_at s k hlt
      rw [hc] at hat
      have cb := getD_nums s k
      rw [hat] at cb
      obtain ⟨c0, c1⟩ := cb
      have HS0 := hide (vTxt_drop (nums s) k (by rw [nums_length]; exact hlt))
      rw [hat] at HS0
      have hx := ix_v24 c c0 c1
      have CI := hide (ixb_any ⟨#[40, 41, 42, 92]⟩ c)
      obtain ⟨N, hN⟩ : ∃ N, N = (Y ++ D).length := ⟨_, rfl⟩
      have hNl : N + 3 ≤ 100000000 := by rw [hN, List.length_append]; omega
      have HN := hide hN
      clear hN hat
      have HO := hide (Ob.own (unhide HN) (unhide LL).own)
      by_cases he : escV c = true
      · have HV : Hid (vByte c = [92, hexD (c / 16), hexD (c % 16)]) := by show _ = _; unfold vByte; rw [if_pos he]
        have hm1 : N + 3 ≤ maxLen := by unfold maxLen; omega
        have hm2 : (N + 3) * 1 ≤ 140737488355328 := by omega
        obtain ⟨a, ha⟩ : ∃ a : Nat, c / 16 = (a : Int) := ⟨(c / 16).toNat, by omega⟩
        obtain ⟨b, hb⟩ : ∃ b : Nat, c % 16 = (b : Int) := ⟨(c % 16).toNat, by omega⟩
        have hand := u8_and15 c c0 c1
        rw [hb] at hand
        have ha1 : a < 16 := by omega
        have hb1 : b < 16 := by omega
        have xa := hexT_at a ha1
        have xb := hexT_at b hb1
        have za0 : (0 : Int) ≤ (a : Int) := by omega
        have zal : (a : Int) < 16 := by omega
        have zb0 : (0 : Int) ≤ (b : Int) := by omega
        have zbl : (b : Int) < 16 := by omega
        rw [ha, hb] at HV
        generalize hexD (a : Int) = z1 at *
        generalize hexD (b : Int) = z2 at *
        have HS : Hid ((D ++ [92, z1, z2]) ++ vTxt ((nums s).drop (k + 1)) = vTxt (nums s)) := by
          show _ = _
          rw [← unhide HD, unhide HS0, unhide HV, List.append_assoc]
        have hH1 := hide (heap_new wr (.cells #[.int .u8 92, .int .u8 z1, .int .u8 z2] 5))
        have hcs : c < 32 ∨ (¬ c < 32 ∧ c = 127) ∨ (¬ c < 32 ∧ ¬ c = 127 ∧ ((40 ≤ c ∧ c ≤ 42) ∨ c = 92)) := by
          unfold escV at he
          rw [decide_eq_true_eq] at he
          omega
        clear HS0 HD HV hb he c0 c1
        rcases hcs with t1 | ⟨t1, t2⟩ | ⟨t1, t2, t3⟩
        · clear hx CI
          go_wp2
          go_region_held3 (fun _ => True) (trivial)
            (first
              | (refine step_append_lies _ (by rfl) _ _ 44 (by rfl) B 5 i0 _ 1 1 Tryz.underlying44 hi hz0 hz1 hz2 rfl (by omega) _ N _ (by rfl) (((unhide HO).alloc _).drew) ⟨wr.heap.size, 0, none⟩ 3 3 [.int .u8 92, .int .u8 z1, .int .u8 z2] (by rfl) (by rfl) (World.news_of_block (cs := #[.int .u8 92, .int .u8 z1, .int .u8 z2]) (t := 5) (fr := (0, 0)) (unhide hH1)) (by simp [Value.oneCell']) (by omega) hm1 hm2 (by simp; omega) (wr.heap.size + 1) (by simp) ?_; intro g1 cap1 w1 hown1 hgrow hat hlt1))
          all_goals
            go_wp2
            go_roundw
            case rel => exact ⟨k + 1, D ++ [92, z1, z2], by omega, by go_num, unhide HS, by rw [List.length_append]; simp; omega, by rw [← List.append_assoc]; exact (unhide LL).step hB (grown_drew hgrow) (Ob.push (unhide HN) (Z := [92, z1, z2]) rfl hown1)⟩
            case measure => simp [intOf]; omega
        · clear hx CI
          have t3 : (c == 127) = true := by rw [beq_iff_eq]; exact t2
          clear t2
          go_wp2
          go_region_held3 (fun _ => True) (trivial)
            (first
              | (refine step_append_lies _ (by rfl) _ _ 44 (by rfl) B 5 i0 _ 1 1 Tryz.underlying44 hi hz0 hz1 hz2 rfl (by omega) _ N _ (by rfl) (((unhide HO).alloc _).drew) ⟨wr.heap.size, 0, none⟩ 3 3 [.int .u8 92, .int .u8 z1, .int .u8 z2] (by rfl) (by rfl) (World.news_of_block (cs := #[.int .u8 92, .int .u8 z1, .int .u8 z2]) (t := 5) (fr := (0, 0)) (unhide hH1)) (by simp [Value.oneCell']) (by omega) hm1 hm2 (by simp; omega) (wr.heap.size + 1) (by simp) ?_; intro g1 cap1 w1 hown1 hgrow hat hlt1))
          all_goals
            go_wp2
            go_roundw
            case rel => exact ⟨k + 1, D ++ [92, z1, z2], by omega, by go_num, unhide HS, by rw [List.length_append]; simp; omega, by rw [← List.append_assoc]; exact (unhide LL).step hB (grown_drew hgrow) (Ob.push (unhide HN) (Z := [92, z1, z2]) rfl hown1)⟩
            case measure => simp [intOf]; omega
        · rw [decide_eq_true t3, decide_eq_true_eq] at hx
          have t4 : (c == 127) = false := by rw [beq_eq_false_iff_ne]; exact t2
          clear t3 t2
          generalize Lib.indexByte _ _ = q at *
          go_wp2_with (first
            | (go_at_call 42; refine (unhide CI _).mono ?_; rintro e w3 ⟨rfl, rfl⟩))
          go_region_held3 (fun _ => True) (trivial)
            (first
              | (refine step_append_lies _ (by rfl) _ _ 44 (by rfl) B 5 i0 _ 1 1 Tryz.underlying44 hi hz0 hz1 hz2 rfl (by omega) _ N _ (by rfl) (((unhide HO).alloc _).drew) ⟨wr.heap.size, 0, none⟩ 3 3 [.int .u8 92, .int .u8 z1, .int .u8 z2] (by rfl) (by rfl) (World.news_of_block (cs := #[.int .u8 92, .int .u8 z1, .int .u8 z2]) (t := 5) (fr := (0, 0)) (unhide hH1)) (by simp [Value.oneCell']) (by omega) hm1 hm2 (by simp; omega) (wr.heap.size + 1) (by simp) ?_; intro g1 cap1 w1 hown1 hgrow hat hlt1))
          all_goals
            go_wp2
            go_roundw
            case rel => exact ⟨k + 1, D ++ [92, z1, z2], by omega, by go_num, unhide HS, by rw [List.length_append]; simp; omega, by rw [← List.append_assoc]; exact (unhide LL).step hB (grown_drew hgrow) (Ob.push (unhide HN) (Z := [92, z1, z2]) rfl hown1)⟩
            case measure => simp [intOf]; omega
      · have HV : Hid (vByte c = [c]) := by show _ = _; unfold vByte; rw [if_neg he]
        have hm1 : N + 1 ≤ maxLen := by unfold maxLen; omega
        have hm2 : (N + 1) * 1 ≤ 140737488355328 := by omega
        have HS : Hid ((D ++ [c]) ++ vTxt ((nums s).drop (k + 1)) = vTxt (nums s)) := by
          show _ = _
          rw [← unhide HD, unhide HS0, unhide HV, List.append_assoc]
        have hcs : ¬ c < 32 ∧ ¬ c = 127 ∧ ¬ ((40 ≤ c ∧ c ≤ 42) ∨ c = 92) := by
          unfold escV at he
          rw [decide_eq_true_eq] at he
          omega
        obtain ⟨t1, t2, t3⟩ := hcs
        rw [decide_eq_false t3, decide_eq_false_iff_not] at hx
        have t4 : (c == 127) = false := by rw [beq_eq_false_iff_ne]; exact t2
        clear HS0 HD HV he t3 t2 c0 c1
        generalize Lib.indexByte _ _ = q at *
        go_wp2_with (first
          | (at_builtin; refine wpList_append_lies _ rfl _ _ 44 rfl B 5 i0 _ 1 1 Tryz.underlying44 hi hz0 hz1 hz2 rfl (by omega) _ N _ rfl (World.ownsRow.alloc (unhide HO) _) ⟨wr.heap.size, 0, none⟩ 1 1 [.int .u8 c] rfl rfl (World.news_of_block (cs := #[.int .u8 c]) (t := 5) (fr := (0, 0)) (heap_new wr _)) (by simp [Value.oneCell']) (by omega) hm1 hm2 (by simp; omega) (wr.heap.size + 1) (by simp) ?_; intro g9 cap9 w9 hown9 hgrow9 hat9 hlt9)
          | (go_at_call 42; refine (unhide CI _).mono ?_; rintro e w3 ⟨rfl, rfl⟩))
        go_roundw
        case rel => exact ⟨k + 1, D ++ [c], by omega, by go_num, unhide HS, by rw [List.length_append]; simp; omega, by rw [← List.append_assoc]; exact (unhide LL).step hB (grown_new hgrow9) (Ob.push (unhide HN) (Z := [c]) rfl hown9)⟩
        case measure => simp [intOf]; omega
    · have yzl : ¬ (k : Int) < (s.size : Int) := by omega
      have HE : Hid (D = vTxt (nums s)) := by
        show _ = _
        have := unhide HD
        rw [List.drop_eq_nil_of_le (by rw [nums_length]; omega)] at this
        simpa [vTxt] using this
      go_wp2
      go_ret
      exact ⟨_, rfl, by rw [← unhide HE]; exact unhide LL⟩

end Go.Proofs.YthbldkkjjjmegaaGreatDoor
