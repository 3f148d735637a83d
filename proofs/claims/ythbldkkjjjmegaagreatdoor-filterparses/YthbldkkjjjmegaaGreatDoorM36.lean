/- The document's hex and Value of layer 24. (By gen_rv.py.) -/
import Derived.Test.YthbldkkjjjmegaaGreatDoorM10
import Derived.Test.YthbldkkjjjmegaaGreatDoorM11
import Derived.Test.YthbldkkjjjmegaaGreatDoorM06
import Derived.Test.YthbldkkjjjmegaaGreatDoorM09
namespace Go.Proofs.YthbldkkjjjmegaaGreatDoor
set_option maxRecDepth 100000
open Go.RowKit

theorem vTxt_step (l : List Int) (k : Nat) (h : k < l.length) : vTxt (l.drop k) = vByte (l.getD k 0) ++ vTxt (l.drop (k + 1)) := by
  rw [List.drop_eq_getElem_cons h, vTxt]
  simp [List.getD, h]
set_option maxHeartbeats 800000 in
theorem rhex24_any (n : Int) (w : World) (h0 : 0 ≤ n) (h1 : n < 16) : Calls Tryz.prog 51 #[.int .u8 n] w fun e w' => e = .returned (.int .u8 (hexD n)) ∧ w = w' := by
  by_cases h : n < 10
  · have e : hexD n = 48 + n := by unfold hexD; rw [if_pos h]
    have wr : IntKind.u8.wrap (48 + n) = 48 + n := by simp [IntKind.wrap, IntKind.bits, IntKind.signed]; omega
    rw [e]
    clear e
    go_enter Tryz.func51, Tryz.ntmps51
    go_wp2
    go_ret
    exact ⟨rfl, rfl⟩
  · have e : hexD n = 87 + n := by unfold hexD; rw [if_neg h]
    have wr : IntKind.u8.wrap (87 + n) = 87 + n := by simp [IntKind.wrap, IntKind.bits, IntKind.signed]; omega
    rw [e]
    clear e
    go_enter Tryz.func51, Tryz.ntmps51
    go_wp2
    go_ret
    exact ⟨rfl, rfl⟩
set_option maxHeartbeats 6400000 in
theorem rvalue24_any (s : ByteArray) (w : World) (hs : s.size ≤ 1000000000) : Calls Tryz.prog 34 #[.string s] w fun e w' => e = .returned (.string (strOfNums (vTxt (nums s)))) ∧ Below w.heap.size w w' := by
  obtain ⟨i0, hi, hz0, hz1, hz2⟩ := info_parts u8_info
  go_enter Tryz.func34, Tryz.ntmps34
  go_wp2
  go_loopw [3, 4] (fun vo vi wr => ∃ (k : Nat) (D : List Int), k ≤ s.size ∧ vi = .int .i64 (k : Int) ∧ D.length ≤ 3 * k ∧ Hid (D ++ vTxt ((nums s).drop k) = vTxt (nums s)) ∧ Ob w.heap.size vo D wr ∧ Below w.heap.size w wr) (fun _ i _ => s.size - (intOf i).toNat)
  case atStart => exact ⟨0, [], Nat.zero_le _, rfl, Nat.le_refl _, rfl, ⟨rfl, .inl ⟨rfl, rfl⟩⟩, Below.refl _ _⟩
  case round =>
    obtain ⟨k, D, hk, rfl, hD, HD, hO, hb⟩ := hrel
    have HO := hide hO
    have hsz := hb.size
    clear hO
    by_cases hlt : k < s.size
    · have hzl : (k : Int) < (s.size : Int) := by omega
      have hz0' : (0 : Int) ≤ (k : Int) := by omega
      have cb := getD_nums s k
      obtain ⟨c, hc⟩ : ∃ c : Int, (s[k].toNat : Int) = c := ⟨_, rfl⟩
      rw [nums_at s k hlt, hc] at cb
      obtain ⟨cb0, cb1⟩ := cb
      have HST : Hid ((D ++ vByte c) ++ vTxt ((nums s).drop (k + 1)) = vTxt (nums s)) := by
        show _ = _
        have h1 := vTxt_step (nums s) k (by rw [nums_length]; exact hlt)
        rw [nums_at s k hlt, hc] at h1
        rw [List.append_assoc, ← h1]
        exact unhide HD
      clear HD
      obtain ⟨N, hN⟩ : ∃ N, N = D.length := ⟨_, rfl⟩
      have HN := hide hN
      rw [← hN] at hD
      clear hN
      have hm1 : N + 1 ≤ maxLen := by unfold maxLen; omega
      have hb1 : (N + 1) * 1 ≤ 140737488355328 := by omega
      have hm3 : N + 3 ≤ maxLen := by unfold maxLen; omega
      have hb3 : (N + 3) * 1 ≤ 140737488355328 := by omega
      by_cases h : escV c = true
      · have HE : Hid (vByte c = [92, hexD (c / 16), hexD (c % 16)]) := by show _ = _; unfold vByte; rw [if_pos h]
        have q1 : Int.tdiv c 16 = c / 16 := Int.tdiv_eq_ediv_of_nonneg cb0
        have q2 : Int.tmod c 16 = c % 16 := Int.tmod_eq_emod_of_nonneg cb0
        have C1 := hide (fun W => rhex24_any (c / 16) W (by omega) (by omega))
        have C2 := hide (fun W => rhex24_any (c % 16) W (by omega) (by omega))
        generalize hexD (c / 16) = z1 at *
        generalize hexD (c % 16) = z2 at *
        have ht : c < 32 ∨ c = 127 ∨ (¬ c < 32 ∧ 40 ≤ c ∧ c ≤ 42) ∨ c = 92 := by
          unfold escV at h
          simp only [decide_eq_true_eq] at h
          omega
        clear h
        rcases ht with ht | rfl | ⟨ht, ht2, ht3⟩ | rfl
        · have u1 := ht
          go_wp2_with (first
            | (at_builtin; refine wpList_append_lies _ rfl _ _ 44 rfl w.heap.size 5 i0 _ 1 1 Tryz.underlying44 hi hz0 hz1 hz2 rfl (by omega) _ N _ rfl (World.ownsRow.alloc (Ob.own (unhide HN) (unhide HO)) _) ⟨wr.heap.size, 0, none⟩ 3 3 [.int .u8 92, .int .u8 z1, .int .u8 z2] rfl rfl (World.news_of_block (cs := #[.int .u8 92, .int .u8 z1, .int .u8 z2]) (t := 5) (fr := (0, 0)) (heap_new wr _)) (by simp [Value.oneCell']) (by omega) hm3 hb3 (by simp; omega) (wr.heap.size + 1) (by simp) ?_; intro g9 cap9 w9 hown9 hgrow9 hat9 hlt9)
            | (go_at_call 51; have M2 := F1; refine (unhide C2 _).mono ?_; rintro e w4 ⟨rfl, rfl⟩)
            | (go_at_call 51; refine (unhide C1 _).mono ?_; rintro e w3 ⟨rfl, rfl⟩; have F1 := trivial))
          go_roundw
          case rel =>
            refine ⟨k + 1, D ++ [92, z1, z2], by omega, by go_num, ?_, ?_, Ob.push (unhide HN) (Z := [92, z1, z2]) rfl hown9, hb.trans (below_own (grown_new hgrow9) hsz (own_block (Ob.own (unhide HN) (unhide HO))))⟩
            · rw [List.length_append, ← unhide HN]; simp; omega
            · have h := unhide HST
              rw [unhide HE] at h
              exact h
          case measure => simp [intOf]; omega
        · have u1 := trivial
          go_wp2_with (first
            | (at_builtin; refine wpList_append_lies _ rfl _ _ 44 rfl w.heap.size 5 i0 _ 1 1 Tryz.underlying44 hi hz0 hz1 hz2 rfl (by omega) _ N _ rfl (World.ownsRow.alloc (Ob.own (unhide HN) (unhide HO)) _) ⟨wr.heap.size, 0, none⟩ 3 3 [.int .u8 92, .int .u8 z1, .int .u8 z2] rfl rfl (World.news_of_block (cs := #[.int .u8 92, .int .u8 z1, .int .u8 z2]) (t := 5) (fr := (0, 0)) (heap_new wr _)) (by simp [Value.oneCell']) (by omega) hm3 hb3 (by simp; omega) (wr.heap.size + 1) (by simp) ?_; intro g9 cap9 w9 hown9 hgrow9 hat9 hlt9)
            | (go_at_call 51; have M2 := F1; refine (unhide C2 _).mono ?_; rintro e w4 ⟨rfl, rfl⟩)
            | (go_at_call 51; refine (unhide C1 _).mono ?_; rintro e w3 ⟨rfl, rfl⟩; have F1 := trivial))
          go_roundw
          case rel =>
            refine ⟨k + 1, D ++ [92, z1, z2], by omega, by go_num, ?_, ?_, Ob.push (unhide HN) (Z := [92, z1, z2]) rfl hown9, hb.trans (below_own (grown_new hgrow9) hsz (own_block (Ob.own (unhide HN) (unhide HO))))⟩
            · rw [List.length_append, ← unhide HN]; simp; omega
            · have h := unhide HST
              rw [unhide HE] at h
              exact h
          case measure => simp [intOf]; omega
        · have g1 : (c == 127) = false := by rw [beq_eq_false_iff_ne]; omega
          go_wp2_with (first
            | (at_builtin; refine wpList_append_lies _ rfl _ _ 44 rfl w.heap.size 5 i0 _ 1 1 Tryz.underlying44 hi hz0 hz1 hz2 rfl (by omega) _ N _ rfl (World.ownsRow.alloc (Ob.own (unhide HN) (unhide HO)) _) ⟨wr.heap.size, 0, none⟩ 3 3 [.int .u8 92, .int .u8 z1, .int .u8 z2] rfl rfl (World.news_of_block (cs := #[.int .u8 92, .int .u8 z1, .int .u8 z2]) (t := 5) (fr := (0, 0)) (heap_new wr _)) (by simp [Value.oneCell']) (by omega) hm3 hb3 (by simp; omega) (wr.heap.size + 1) (by simp) ?_; intro g9 cap9 w9 hown9 hgrow9 hat9 hlt9)
            | (go_at_call 51; have M2 := F1; refine (unhide C2 _).mono ?_; rintro e w4 ⟨rfl, rfl⟩)
            | (go_at_call 51; refine (unhide C1 _).mono ?_; rintro e w3 ⟨rfl, rfl⟩; have F1 := trivial))
          go_roundw
          case rel =>
            refine ⟨k + 1, D ++ [92, z1, z2], by omega, by go_num, ?_, ?_, Ob.push (unhide HN) (Z := [92, z1, z2]) rfl hown9, hb.trans (below_own (grown_new hgrow9) hsz (own_block (Ob.own (unhide HN) (unhide HO))))⟩
            · rw [List.length_append, ← unhide HN]; simp; omega
            · have h := unhide HST
              rw [unhide HE] at h
              exact h
          case measure => simp [intOf]; omega
        · have u1 := trivial
          go_wp2_with (first
            | (at_builtin; refine wpList_append_lies _ rfl _ _ 44 rfl w.heap.size 5 i0 _ 1 1 Tryz.underlying44 hi hz0 hz1 hz2 rfl (by omega) _ N _ rfl (World.ownsRow.alloc (Ob.own (unhide HN) (unhide HO)) _) ⟨wr.heap.size, 0, none⟩ 3 3 [.int .u8 92, .int .u8 z1, .int .u8 z2] rfl rfl (World.news_of_block (cs := #[.int .u8 92, .int .u8 z1, .int .u8 z2]) (t := 5) (fr := (0, 0)) (heap_new wr _)) (by simp [Value.oneCell']) (by omega) hm3 hb3 (by simp; omega) (wr.heap.size + 1) (by simp) ?_; intro g9 cap9 w9 hown9 hgrow9 hat9 hlt9)
            | (go_at_call 51; have M2 := F1; refine (unhide C2 _).mono ?_; rintro e w4 ⟨rfl, rfl⟩)
            | (go_at_call 51; refine (unhide C1 _).mono ?_; rintro e w3 ⟨rfl, rfl⟩; have F1 := trivial))
          go_roundw
          case rel =>
            refine ⟨k + 1, D ++ [92, z1, z2], by omega, by go_num, ?_, ?_, Ob.push (unhide HN) (Z := [92, z1, z2]) rfl hown9, hb.trans (below_own (grown_new hgrow9) hsz (own_block (Ob.own (unhide HN) (unhide HO))))⟩
            · rw [List.length_append, ← unhide HN]; simp; omega
            · have h := unhide HST
              rw [unhide HE] at h
              exact h
          case measure => simp [intOf]; omega
      · rw [Bool.not_eq_true] at h
        have HE : Hid (vByte c = [c]) := by show _ = _; unfold vByte; rw [h]; rfl
        unfold escV at h
        rw [decide_eq_false_iff_not] at h
        have g1 : ¬ c < 32 := by omega
        have g2 : (c == 127) = false := by rw [beq_eq_false_iff_ne]; omega
        have g3 : (c == 92) = false := by rw [beq_eq_false_iff_ne]; omega
        have ht : c < 40 ∨ (40 ≤ c ∧ ¬ c ≤ 42) := by omega
        clear h
        rcases ht with ht | ⟨ht, ht2⟩
        · have g4 : ¬ 40 ≤ c := by omega
          go_wp2_with (at_builtin; refine wpList_append_lies _ rfl _ _ 44 rfl w.heap.size 5 i0 _ 1 1 Tryz.underlying44 hi hz0 hz1 hz2 rfl (by omega) _ N _ rfl (World.ownsRow.alloc (Ob.own (unhide HN) (unhide HO)) _) ⟨wr.heap.size, 0, none⟩ 1 1 [.int .u8 c] rfl rfl (World.news_of_block (cs := #[.int .u8 c]) (t := 5) (fr := (0, 0)) (heap_new wr _)) (by simp [Value.oneCell']) (by omega) hm1 hb1 (by simp; omega) (wr.heap.size + 1) (by simp) ?_; intro g9 cap9 w9 hown9 hgrow9 hat9 hlt9)
          go_roundw
          case rel =>
            refine ⟨k + 1, D ++ [c], by omega, by go_num, ?_, ?_, Ob.push (unhide HN) (Z := [c]) rfl hown9, hb.trans (below_own (grown_new hgrow9) hsz (own_block (Ob.own (unhide HN) (unhide HO))))⟩
            · rw [List.length_append, ← unhide HN]; simp; omega
            · have h := unhide HST
              rw [unhide HE] at h
              exact h
          case measure => simp [intOf]; omega
        · have u1 := trivial
          go_wp2_with (at_builtin; refine wpList_append_lies _ rfl _ _ 44 rfl w.heap.size 5 i0 _ 1 1 Tryz.underlying44 hi hz0 hz1 hz2 rfl (by omega) _ N _ rfl (World.ownsRow.alloc (Ob.own (unhide HN) (unhide HO)) _) ⟨wr.heap.size, 0, none⟩ 1 1 [.int .u8 c] rfl rfl (World.news_of_block (cs := #[.int .u8 c]) (t := 5) (fr := (0, 0)) (heap_new wr _)) (by simp [Value.oneCell']) (by omega) hm1 hb1 (by simp; omega) (wr.heap.size + 1) (by simp) ?_; intro g9 cap9 w9 hown9 hgrow9 hat9 hlt9)
          go_roundw
          case rel =>
            refine ⟨k + 1, D ++ [c], by omega, by go_num, ?_, ?_, Ob.push (unhide HN) (Z := [c]) rfl hown9, hb.trans (below_own (grown_new hgrow9) hsz (own_block (Ob.own (unhide HN) (unhide HO))))⟩
            · rw [List.length_append, ← unhide HN]; simp; omega
            · have h := unhide HST
              rw [unhide HE] at h
              exact h
          case measure => simp [intOf]; omega
    · have hzl : ¬ (k : Int) < (s.size : Int) := by omega
      have HE : Hid (D = vTxt (nums s)) := by
        show _ = _
        have := unhide HD
        rw [List.drop_eq_nil_of_le (by rw [nums_length]; omega)] at this
        simpa [vTxt] using this
      have cv := (unhide HO).conv
      rw [unhide HE] at cv
      go_wp2
      go_ret
      exact ⟨rfl, hb⟩
end Go.Proofs.YthbldkkjjjmegaaGreatDoor
/- The document's starry, text and Show of layer 24. (By gen_rt.py.) -/
namespace Go.Proofs.YthbldkkjjjmegaaGreatDoor
set_option maxRecDepth 100000
open Go.RowKit

theorem app_as (a b c : ByteArray) : a ++ b ++ c = a ++ (b ++ c) := ByteArray.append_assoc
theorem sn_app (a b : List Int) : strOfNums (a ++ b) = strOfNums a ++ strOfNums b := (strOfNums_app a b).symm
theorem sn_cons (c : Int) (b : List Int) : strOfNums (c :: b) = strOfNums [c] ++ strOfNums b := sn_app [c] b
theorem sn_size (l : List Int) : (strOfNums l).size = l.length := by unfold strOfNums; show (List.toArray _).size = _; simp
theorem vTxt_size (l : List Int) : l.length ≤ (vTxt l).length := by
  induction l with
  | nil => simp [vTxt]
  | cons c t ih =>
    rw [vTxt, List.length_append, List.length_cons]
    have : 1 ≤ (vByte c).length := by unfold vByte; split <;> simp
    omega
theorem sn_emp (b : ByteArray) : strOfNums [] ++ b = b := by rw [← strOfNums_nums b, strOfNums_app]; rfl
theorem ret_st {a b : ByteArray} (h : a = b) : Ending.returned (.string a) = .returned (.string b) := by rw [h]
theorem keep5 {W : World} {B : Nat} {a0 a1 a2 a3 a4 : Value} {T : TypeId} (h : W.heap[B]? = some (.cells #[a0, a1, a2, a3, a4] T)) : W.cell? ⟨B, 0, none⟩ = some a0 ∧ W.cell? ⟨B, 1, none⟩ = some a1 ∧ W.cell? ⟨B, 2, none⟩ = some a2 ∧ W.cell? ⟨B, 3, none⟩ = some a3 ∧ W.cell? ⟨B, 4, none⟩ = some a4 := by
  refine ⟨?_, ?_, ?_, ?_, ?_⟩ <;> simp [World.cell?, h]
theorem any_len : ∀ a : List ByteArray, a.length ≤ (anyT a).length
  | [] => Nat.le_refl _
  | x :: t => by have := any_len t; rw [anyT, List.length_append, List.length_cons, List.length_cons]; omega
theorem any_drop (a : List ByteArray) (j : Nat) (h : j < a.length) : anyT (a.drop j) = vTxt (nums (a.getD j ⟨#[]⟩)) ++ 42 :: anyT (a.drop (j + 1)) := by
  rw [List.drop_eq_getElem_cons h, anyT]
  simp [List.getD, h]
set_option maxHeartbeats 3200000 in
theorem rstarry_any (i f : ByteArray) (hi hf : Bool) (a : List ByteArray) (a1 : Option Addr) (c1 : Nat) (w : World) (ht : TxC w a1 a) (hsz : (starT i a f).length ≤ 1000000000) : Calls Tryz.prog 33 #[.agg #[.string i, .slice a1 a.length c1, .string f, .bool hi, .bool hf]] w fun e w' => e = .returned (.string (strOfNums (starT i a f))) ∧ Below w.heap.size w w' := by
  have hl : ∀ s : ByteArray, (vTxt (nums s)).length ≤ 1000000000 → s.size ≤ 1000000000 := fun s h => by have := vTxt_size (nums s); rw [nums_length] at this; omega
  have hst : starT i a f = vTxt (nums i) ++ 42 :: (anyT a ++ vTxt (nums f)) := rfl
  have hlen : (vTxt (nums i)).length + (1 + ((anyT a).length + (vTxt (nums f)).length)) ≤ 1000000000 := by rw [hst] at hsz; simp at hsz; omega
  obtain ⟨vi, hvi⟩ : ∃ vi, vi = strOfNums (vTxt (nums i)) := ⟨_, rfl⟩
  obtain ⟨vf, hvf⟩ : ∃ vf, vf = strOfNums (vTxt (nums f)) := ⟨_, rfl⟩
  have si : vi.size = (vTxt (nums i)).length := by rw [hvi, sn_size]
  have sf : vf.size = (vTxt (nums f)).length := by rw [hvf, sn_size]
  have CI := hide (fun W => rvalue24_any i W (hl i (by omega)))
  have CF := hide (fun W => rvalue24_any f W (hl f (by omega)))
  rw [← hvi] at CI
  rw [← hvf] at CF
  have HB0 := heap_new w (.cells #[.string i, .slice a1 a.length c1, .string f, .bool hi, .bool hf] 24)
  have b0 := Below.one w (.cells #[.string i, .slice a1 a.length c1, .string f, .bool hi, .bool hf] 24)
  have HT := hide ht
  have HST : Hid ((vi ++ ⟨#[42]⟩) ++ strOfNums (anyT a ++ vTxt (nums f)) = strOfNums (starT i a f)) := by
    show _ = _
    rw [hst, sn_app (vTxt (nums i)), sn_cons 42, hvi, app_as]
    rfl
  have hlA := hlen
  have hal : (a.length : Int) ≤ 1000000000 := by have := any_len a; omega
  rw [← si, ← sf] at hlen
  have zi : vi.size + 1 ≤ 9223372036854775807 := by omega
  have HLEN := hide hlen
  have HLA := hide hlA
  clear ht hst hsz hvi hlen hlA
  go_enter Tryz.func33, Tryz.ntmps33
  go_wp2_with (go_at_call 34; refine (unhide CI _).mono ?_; rintro e w1 ⟨rfl, b1⟩; have t1 := b0.trans (b1.mono b0.size); have HB1 := keep_blk HB0 b1)
  go_loopw [3, 4] (fun vo vj wr => ∃ (j : Nat) (d : ByteArray), j ≤ a.length ∧ vj = .int .i64 (j : Int) ∧ vo = .string d ∧ Hid (d ++ strOfNums (anyT (a.drop j) ++ vTxt (nums f)) = strOfNums (starT i a f)) ∧ Below w.heap.size w wr ∧ Hid (wr.heap[w.heap.size]? = some (.cells #[.string i, .slice a1 a.length c1, .string f, .bool hi, .bool hf] 24))) (fun _ j _ => a.length - (intOf j).toNat)
  case atStart => exact ⟨0, _, Nat.zero_le _, rfl, rfl, by rw [List.drop_zero]; exact unhide HST, t1, HB1⟩
  case round =>
    obtain ⟨j, d, hj, rfl, rfl, HD, hb, HB⟩ := hrel
    obtain ⟨k0, k1, k2, k3, k4⟩ := keep5 (unhide HB)
    have hds : d.size + ((anyT (a.drop j)).length + (vTxt (nums f)).length) ≤ 1000000000 := by
      have h1 := congrArg ByteArray.size (unhide HD)
      rw [ByteArray.size_append, sn_size, sn_size, List.length_append] at h1
      have h2 : (starT i a f).length = (vTxt (nums i)).length + (1 + ((anyT a).length + (vTxt (nums f)).length)) := by unfold starT; simp; omega
      have := unhide HLA
      omega
    by_cases hlt : j < a.length
    · have hzl : (j : Int) < (a.length : Int) := by omega
      have hz0 : (0 : Int) ≤ (j : Int) := by omega
      obtain ⟨g, off, rfl, hc⟩ := (unhide HT).at hlt
      replace hc := (hb.cell (cell_lt hc)).trans hc
      have had := any_drop a j hlt
      rw [had] at hds
      obtain ⟨t, htt⟩ : ∃ t, t = a.getD j ⟨#[]⟩ := ⟨_, rfl⟩
      rw [← htt] at hc had hds
      simp only [List.length_append, List.length_cons] at hds
      obtain ⟨vt, hvt⟩ : ∃ vt, vt = strOfNums (vTxt (nums t)) := ⟨_, rfl⟩
      have CT := hide (fun W => rvalue24_any t W (hl t (by omega)))
      rw [← hvt] at CT
      have st : vt.size = (vTxt (nums t)).length := by rw [hvt, sn_size]
      have z1 : d.size + vt.size ≤ 9223372036854775807 := by omega
      have z2 : d.size + vt.size + 1 ≤ 9223372036854775807 := by omega
      have HN : Hid ((d ++ vt ++ ⟨#[42]⟩) ++ strOfNums (anyT (a.drop (j + 1)) ++ vTxt (nums f)) = strOfNums (starT i a f)) := by
        show _ = _
        rw [← unhide HD, had, hvt, List.append_assoc, sn_app (vTxt (nums t)), List.cons_append, sn_cons 42, app_as, app_as]
        rfl
      clear had hds HD hvt st htt zi
      go_wp2_with (go_at_call 34; refine (unhide CT _).mono ?_; rintro e w2 ⟨rfl, b2⟩)
      go_roundw
      case rel => exact ⟨j + 1, _, by omega, by go_num, rfl, unhide HN, hb.trans (b2.mono hb.size), keep_blk (unhide HB) b2⟩
      case measure => simp [intOf]; omega
    · have hzl : ¬ (j : Int) < (a.length : Int) := by omega
      have HE : Hid (d ++ vf = strOfNums (starT i a f)) := by
        show _ = _
        rw [← unhide HD, List.drop_eq_nil_of_le (by omega), hvf]
        rfl
      have z1 : d.size + vf.size ≤ 9223372036854775807 := by omega
      clear HD hds zi sf hvf
      go_wp2_with (go_at_call 34; refine (unhide CF _).mono ?_; rintro e w2 ⟨rfl, b2⟩)
      go_ret
      exact ⟨ret_st (unhide HE), hb.trans (b2.mono hb.size)⟩

theorem textL_drop (l : List Fl) (j : Nat) (h : j < l.length) : textF.L (l.drop j) = textF (l.getD j fl0) ++ textF.L (l.drop (j + 1)) := by rw [drop_consF l j h]; simp only [textF.L]
set_option maxHeartbeats 12800000 in
theorem rtext24_any (e : Fl) : ∀ (x : Value) (w : World), FlV w e x → allF e = true → (textF e).length ≤ 1000000000 → Calls Tryz.prog 20 #[x] w fun y w' => y = .returned (.string (strOfNums (textF e))) ∧ Below w.heap.size w w' := by
  induction e using Fl.ind with
  | h k n v i a f hi hf r d kids ih =>
    intro x w hV hA hL
    simp only [FlV] at hV
    obtain ⟨a1, c1, a2, c2, rfl, ht, hn, hc⟩ := hV
    have hT : textF (.mk k n v i a f hi hf r d kids) = 40 :: (headF k n i a f r d ++ (textF.L kids ++ (vTxt (nums v) ++ [41]))) := by simp only [textF]
    rw [hT] at hL ⊢
    have hl : 1 + ((headF k n i a f r d).length + ((textF.L kids).length + ((vTxt (nums v)).length + 1))) ≤ 1000000000 := by simp at hL; omega
    have hkn := textL_len kids
    have hal : (kids.length : Int) ≤ 1000000000 := by omega
    have hA2 : oneF k n v i a f hi hf r d kids.length = true := by simp only [allF, Bool.and_eq_true] at hA; exact hA.2
    have hAK := allL_mem kids (by simp only [allF, Bool.and_eq_true] at hA; exact hA.1)
    have HIH := hide ih
    have HC := hide hc
    have HAK := hide hAK
    have b0 := Below.one w (.cells (cFl k n v i a1 a.length c1 f hi hf r d a2 kids.length c2) 27)
    have HB0 := hide (heap_new w (.cells (cFl k n v i a1 a.length c1 f hi hf r d a2 kids.length c2) 27))
    obtain ⟨k0, k1, k2, k3, k4, k5, k6, k7, k8, k9, k10⟩ := cells11 (unhide HB0)
    obtain ⟨vv, hvv⟩ : ∃ vv, vv = strOfNums (vTxt (nums v)) := ⟨_, rfl⟩
    have sv : vv.size = (vTxt (nums v)).length := by rw [hvv, sn_size]
    have CV := hide (fun W => rvalue24_any v W (by have := vTxt_size (nums v); rw [nums_length] at this; omega))
    rw [← hvv] at CV
    obtain ⟨T, hTT⟩ : ∃ T, T = textF.L kids ++ (vTxt (nums v) ++ [41]) := ⟨_, rfl⟩
    rw [← hTT]
    obtain ⟨total, htot⟩ : ∃ t, t = strOfNums (40 :: (headF k n i a f r d ++ T)) := ⟨_, rfl⟩
    rw [← htot]
    have HTOT := hide htot
    have hts : total.size = 1 + ((headF k n i a f r d).length + ((textF.L kids).length + ((vTxt (nums v)).length + 1))) := by rw [htot, sn_size, hTT]; simp; omega
    have HTT := hide hTT
    have HVV := hide hvv
    have hns : n.size ≤ 1000000000 := by
      by_cases hk : k = 0 ∨ k = 1 ∨ k = 2
      · have hb : barF n v i a f hi hf r d true true true true = true := by
          unfold oneF oneQ at hA2
          rcases hk with rfl | rfl | rfl
          · rw [if_pos (.inl rfl)] at hA2; exact hA2
          · rw [if_pos (.inr rfl)] at hA2; exact hA2
          · rw [if_neg (by decide), if_pos rfl, Bool.and_eq_true] at hA2; exact hA2.1
        rw [(bar_parts hb).1 rfl]
        decide
      · have : n.size ≤ (headF k n i a f r d).length := by
          unfold headF
          rw [if_neg (fun h => hk (.inl h)), if_neg (fun h => hk (.inr (.inl h))), if_neg (fun h => hk (.inr (.inr h))), List.length_append, nums_length]
          omega
        omega
    have z0 : 1 + n.size ≤ 9223372036854775807 := by omega
    have HL := hide (And.intro hl hts)
    clear hn hT hL hl hkn hA hA2 hAK ih hc hvv hTT htot hts
    by_cases h0 : k = 0
    · have hh : headF k n i a f r d = [38] := by unfold headF; rw [if_pos h0]
      have HST : Hid (⟨#[40, 38]⟩ ++ strOfNums T = total) := by
        show _ = _
        rw [unhide HTOT, hh, sn_cons 40, List.singleton_append, sn_cons 38 T, ← app_as]
        rfl
      clear hh
      subst h0
      have HS := HB0
      have tS := b0
      go_enter Tryz.func20, Tryz.ntmps20
      go_wp2
      go_loopw [3, 4] (fun vo vj wr => ∃ (j : Nat) (dd : ByteArray), j ≤ kids.length ∧ vj = .int .i64 (j : Int) ∧ vo = .string dd ∧ Hid (dd ++ strOfNums (textF.L (kids.drop j) ++ (vTxt (nums v) ++ [41])) = total) ∧ Below w.heap.size w wr ∧ Hid (wr.heap[w.heap.size]? = some (.cells (cFl 0 n v i a1 a.length c1 f hi hf r d a2 kids.length c2) 27))) (fun _ j _ => kids.length - (intOf j).toNat)
      case atStart => exact ⟨0, _, Nat.zero_le _, rfl, rfl, by rw [List.drop_zero, ← unhide HTT]; exact unhide HST, tS, HS⟩
      case round =>
        obtain ⟨j, dd, hj, rfl, rfl, HD, hb, HB⟩ := hrel
        clear HST tS HS
        obtain ⟨k0, k1, k2, k3, k4, k5, k6, k7, k8, k9, k10⟩ := cells11 (unhide HB)
        obtain ⟨hl, hts⟩ := unhide HL
        have hds : dd.size + ((textF.L (kids.drop j)).length + ((vTxt (nums v)).length + 1)) ≤ 1000000000 := by
          have h1 := congrArg ByteArray.size (unhide HD)
          rw [ByteArray.size_append, sn_size, List.length_append, List.length_append] at h1
          simp only [List.length_cons, List.length_nil] at h1
          omega
        clear hts
        by_cases hlt : j < kids.length
        · have hzl : (j : Int) < (kids.length : Int) := by omega
          have hz0 : (0 : Int) ≤ (j : Int) := by omega
          obtain ⟨g, off, rfl, hq⟩ := (unhide HC).resolve_left (by omega)
          obtain ⟨x_0, x_1, x_2, x_3, x_4, x_5, x_6, x_7, x_8, x_9, x_10, q0, q1, q2, q3, q4, q5, q6, q7, q8, q9, q10, hv⟩ := hq.get j hlt
          replace q0 := (hb.cell (cell_lt q0)).trans q0
          replace q1 := (hb.cell (cell_lt q1)).trans q1
          replace q2 := (hb.cell (cell_lt q2)).trans q2
          replace q3 := (hb.cell (cell_lt q3)).trans q3
          replace q4 := (hb.cell (cell_lt q4)).trans q4
          replace q5 := (hb.cell (cell_lt q5)).trans q5
          replace q6 := (hb.cell (cell_lt q6)).trans q6
          replace q7 := (hb.cell (cell_lt q7)).trans q7
          replace q8 := (hb.cell (cell_lt q8)).trans q8
          replace q9 := (hb.cell (cell_lt q9)).trans q9
          replace q10 := (hb.cell (cell_lt q10)).trans q10
          have had := textL_drop kids j hlt
          rw [had, List.length_append] at hds
          have CI := hide (unhide HIH _ (getD_memF kids j hlt) _ wr (hv.grow hb) (unhide HAK _ (getD_memF kids j hlt)) (by omega))
          obtain ⟨tt, htt⟩ : ∃ tt, tt = strOfNums (textF (kids.getD j fl0)) := ⟨_, rfl⟩
          rw [← htt] at CI
          have st : tt.size = (textF (kids.getD j fl0)).length := by rw [htt, sn_size]
          have z1 : dd.size + tt.size ≤ 9223372036854775807 := by omega
          have HN : Hid ((dd ++ tt) ++ strOfNums (textF.L (kids.drop (j + 1)) ++ (vTxt (nums v) ++ [41])) = total) := by
            show _ = _
            rw [← unhide HD, had, htt, List.append_assoc, sn_app (textF (kids.getD j fl0)), app_as]
          clear had hds HD htt st hq hv hl sv
          go_wp2_with (go_at_call 20; refine (unhide CI).mono ?_; rintro e w2 ⟨rfl, b2⟩)
          go_roundw
          case rel => exact ⟨j + 1, _, by omega, by go_num, rfl, unhide HN, hb.trans (b2.mono hb.size), keep_blk (unhide HB) b2⟩
          case measure => simp [intOf]; omega
        · have hzl : ¬ (j : Int) < (kids.length : Int) := by omega
          have HE : Hid (dd ++ vv ++ ⟨#[41]⟩ = total) := by
            show _ = _
            rw [← unhide HD, List.drop_eq_nil_of_le (by omega), unhide HVV, app_as, sn_app, sn_app (vTxt (nums v))]
            rfl
          have z1 : dd.size + vv.size ≤ 9223372036854775807 := by omega
          have z2 : dd.size + vv.size + 1 ≤ 9223372036854775807 := by omega
          clear HD hds sv hl
          go_wp2_with (go_at_call 34; refine (unhide CV _).mono ?_; rintro e w2 ⟨rfl, b2⟩)
          go_ret
          exact ⟨ret_st (unhide HE), hb.trans (b2.mono hb.size)⟩
    by_cases h1 : k = 1
    · have hh : headF k n i a f r d = [124] := by unfold headF; rw [if_neg h0]; rw [if_pos h1]
      have HST : Hid (⟨#[40, 124]⟩ ++ strOfNums T = total) := by
        show _ = _
        rw [unhide HTOT, hh, sn_cons 40, List.singleton_append, sn_cons 124 T, ← app_as]
        rfl
      clear hh
      have g0 : (k == 0) = false := by rw [beq_eq_false_iff_ne]; exact h0
      clear h0
      subst h1
      have HS := HB0
      have tS := b0
      go_enter Tryz.func20, Tryz.ntmps20
      go_wp2
      go_loopw [3, 4] (fun vo vj wr => ∃ (j : Nat) (dd : ByteArray), j ≤ kids.length ∧ vj = .int .i64 (j : Int) ∧ vo = .string dd ∧ Hid (dd ++ strOfNums (textF.L (kids.drop j) ++ (vTxt (nums v) ++ [41])) = total) ∧ Below w.heap.size w wr ∧ Hid (wr.heap[w.heap.size]? = some (.cells (cFl 1 n v i a1 a.length c1 f hi hf r d a2 kids.length c2) 27))) (fun _ j _ => kids.length - (intOf j).toNat)
      case atStart => exact ⟨0, _, Nat.zero_le _, rfl, rfl, by rw [List.drop_zero, ← unhide HTT]; exact unhide HST, tS, HS⟩
      case round =>
        obtain ⟨j, dd, hj, rfl, rfl, HD, hb, HB⟩ := hrel
        clear HST tS HS
        obtain ⟨k0, k1, k2, k3, k4, k5, k6, k7, k8, k9, k10⟩ := cells11 (unhide HB)
        obtain ⟨hl, hts⟩ := unhide HL
        have hds : dd.size + ((textF.L (kids.drop j)).length + ((vTxt (nums v)).length + 1)) ≤ 1000000000 := by
          have h1 := congrArg ByteArray.size (unhide HD)
          rw [ByteArray.size_append, sn_size, List.length_append, List.length_append] at h1
          simp only [List.length_cons, List.length_nil] at h1
          omega
        clear hts
        by_cases hlt : j < kids.length
        · have hzl : (j : Int) < (kids.length : Int) := by omega
          have hz0 : (0 : Int) ≤ (j : Int) := by omega
          obtain ⟨g, off, rfl, hq⟩ := (unhide HC).resolve_left (by omega)
          obtain ⟨x_0, x_1, x_2, x_3, x_4, x_5, x_6, x_7, x_8, x_9, x_10, q0, q1, q2, q3, q4, q5, q6, q7, q8, q9, q10, hv⟩ := hq.get j hlt
          replace q0 := (hb.cell (cell_lt q0)).trans q0
          replace q1 := (hb.cell (cell_lt q1)).trans q1
          replace q2 := (hb.cell (cell_lt q2)).trans q2
          replace q3 := (hb.cell (cell_lt q3)).trans q3
          replace q4 := (hb.cell (cell_lt q4)).trans q4
          replace q5 := (hb.cell (cell_lt q5)).trans q5
          replace q6 := (hb.cell (cell_lt q6)).trans q6
          replace q7 := (hb.cell (cell_lt q7)).trans q7
          replace q8 := (hb.cell (cell_lt q8)).trans q8
          replace q9 := (hb.cell (cell_lt q9)).trans q9
          replace q10 := (hb.cell (cell_lt q10)).trans q10
          have had := textL_drop kids j hlt
          rw [had, List.length_append] at hds
          have CI := hide (unhide HIH _ (getD_memF kids j hlt) _ wr (hv.grow hb) (unhide HAK _ (getD_memF kids j hlt)) (by omega))
          obtain ⟨tt, htt⟩ : ∃ tt, tt = strOfNums (textF (kids.getD j fl0)) := ⟨_, rfl⟩
          rw [← htt] at CI
          have st : tt.size = (textF (kids.getD j fl0)).length := by rw [htt, sn_size]
          have z1 : dd.size + tt.size ≤ 9223372036854775807 := by omega
          have HN : Hid ((dd ++ tt) ++ strOfNums (textF.L (kids.drop (j + 1)) ++ (vTxt (nums v) ++ [41])) = total) := by
            show _ = _
            rw [← unhide HD, had, htt, List.append_assoc, sn_app (textF (kids.getD j fl0)), app_as]
          clear had hds HD htt st hq hv hl sv
          go_wp2_with (go_at_call 20; refine (unhide CI).mono ?_; rintro e w2 ⟨rfl, b2⟩)
          go_roundw
          case rel => exact ⟨j + 1, _, by omega, by go_num, rfl, unhide HN, hb.trans (b2.mono hb.size), keep_blk (unhide HB) b2⟩
          case measure => simp [intOf]; omega
        · have hzl : ¬ (j : Int) < (kids.length : Int) := by omega
          have HE : Hid (dd ++ vv ++ ⟨#[41]⟩ = total) := by
            show _ = _
            rw [← unhide HD, List.drop_eq_nil_of_le (by omega), unhide HVV, app_as, sn_app, sn_app (vTxt (nums v))]
            rfl
          have z1 : dd.size + vv.size ≤ 9223372036854775807 := by omega
          have z2 : dd.size + vv.size + 1 ≤ 9223372036854775807 := by omega
          clear HD hds sv hl
          go_wp2_with (go_at_call 34; refine (unhide CV _).mono ?_; rintro e w2 ⟨rfl, b2⟩)
          go_ret
          exact ⟨ret_st (unhide HE), hb.trans (b2.mono hb.size)⟩
    by_cases h2 : k = 2
    · have hh : headF k n i a f r d = [33] := by unfold headF; rw [if_neg h0]; rw [if_neg h1]; rw [if_pos h2]
      have HST : Hid (⟨#[40, 33]⟩ ++ strOfNums T = total) := by
        show _ = _
        rw [unhide HTOT, hh, sn_cons 40, List.singleton_append, sn_cons 33 T, ← app_as]
        rfl
      clear hh
      have g0 : (k == 0) = false := by rw [beq_eq_false_iff_ne]; exact h0
      have g1 : (k == 1) = false := by rw [beq_eq_false_iff_ne]; exact h1
      clear h0 h1
      subst h2
      have HS := HB0
      have tS := b0
      go_enter Tryz.func20, Tryz.ntmps20
      go_wp2
      go_loopw [3, 4] (fun vo vj wr => ∃ (j : Nat) (dd : ByteArray), j ≤ kids.length ∧ vj = .int .i64 (j : Int) ∧ vo = .string dd ∧ Hid (dd ++ strOfNums (textF.L (kids.drop j) ++ (vTxt (nums v) ++ [41])) = total) ∧ Below w.heap.size w wr ∧ Hid (wr.heap[w.heap.size]? = some (.cells (cFl 2 n v i a1 a.length c1 f hi hf r d a2 kids.length c2) 27))) (fun _ j _ => kids.length - (intOf j).toNat)
      case atStart => exact ⟨0, _, Nat.zero_le _, rfl, rfl, by rw [List.drop_zero, ← unhide HTT]; exact unhide HST, tS, HS⟩
      case round =>
        obtain ⟨j, dd, hj, rfl, rfl, HD, hb, HB⟩ := hrel
        clear HST tS HS
        obtain ⟨k0, k1, k2, k3, k4, k5, k6, k7, k8, k9, k10⟩ := cells11 (unhide HB)
        obtain ⟨hl, hts⟩ := unhide HL
        have hds : dd.size + ((textF.L (kids.drop j)).length + ((vTxt (nums v)).length + 1)) ≤ 1000000000 := by
          have h1 := congrArg ByteArray.size (unhide HD)
          rw [ByteArray.size_append, sn_size, List.length_append, List.length_append] at h1
          simp only [List.length_cons, List.length_nil] at h1
          omega
        clear hts
        by_cases hlt : j < kids.length
        · have hzl : (j : Int) < (kids.length : Int) := by omega
          have hz0 : (0 : Int) ≤ (j : Int) := by omega
          obtain ⟨g, off, rfl, hq⟩ := (unhide HC).resolve_left (by omega)
          obtain ⟨x_0, x_1, x_2, x_3, x_4, x_5, x_6, x_7, x_8, x_9, x_10, q0, q1, q2, q3, q4, q5, q6, q7, q8, q9, q10, hv⟩ := hq.get j hlt
          replace q0 := (hb.cell (cell_lt q0)).trans q0
          replace q1 := (hb.cell (cell_lt q1)).trans q1
          replace q2 := (hb.cell (cell_lt q2)).trans q2
          replace q3 := (hb.cell (cell_lt q3)).trans q3
          replace q4 := (hb.cell (cell_lt q4)).trans q4
          replace q5 := (hb.cell (cell_lt q5)).trans q5
          replace q6 := (hb.cell (cell_lt q6)).trans q6
          replace q7 := (hb.cell (cell_lt q7)).trans q7
          replace q8 := (hb.cell (cell_lt q8)).trans q8
          replace q9 := (hb.cell (cell_lt q9)).trans q9
          replace q10 := (hb.cell (cell_lt q10)).trans q10
          have had := textL_drop kids j hlt
          rw [had, List.length_append] at hds
          have CI := hide (unhide HIH _ (getD_memF kids j hlt) _ wr (hv.grow hb) (unhide HAK _ (getD_memF kids j hlt)) (by omega))
          obtain ⟨tt, htt⟩ : ∃ tt, tt = strOfNums (textF (kids.getD j fl0)) := ⟨_, rfl⟩
          rw [← htt] at CI
          have st : tt.size = (textF (kids.getD j fl0)).length := by rw [htt, sn_size]
          have z1 : dd.size + tt.size ≤ 9223372036854775807 := by omega
          have HN : Hid ((dd ++ tt) ++ strOfNums (textF.L (kids.drop (j + 1)) ++ (vTxt (nums v) ++ [41])) = total) := by
            show _ = _
            rw [← unhide HD, had, htt, List.append_assoc, sn_app (textF (kids.getD j fl0)), app_as]
          clear had hds HD htt st hq hv hl sv
          go_wp2_with (go_at_call 20; refine (unhide CI).mono ?_; rintro e w2 ⟨rfl, b2⟩)
          go_roundw
          case rel => exact ⟨j + 1, _, by omega, by go_num, rfl, unhide HN, hb.trans (b2.mono hb.size), keep_blk (unhide HB) b2⟩
          case measure => simp [intOf]; omega
        · have hzl : ¬ (j : Int) < (kids.length : Int) := by omega
          have HE : Hid (dd ++ vv ++ ⟨#[41]⟩ = total) := by
            show _ = _
            rw [← unhide HD, List.drop_eq_nil_of_le (by omega), unhide HVV, app_as, sn_app, sn_app (vTxt (nums v))]
            rfl
          have z1 : dd.size + vv.size ≤ 9223372036854775807 := by omega
          have z2 : dd.size + vv.size + 1 ≤ 9223372036854775807 := by omega
          clear HD hds sv hl
          go_wp2_with (go_at_call 34; refine (unhide CV _).mono ?_; rintro e w2 ⟨rfl, b2⟩)
          go_ret
          exact ⟨ret_st (unhide HE), hb.trans (b2.mono hb.size)⟩
    by_cases h3 : k = 3
    · have hh : headF k n i a f r d = nums n ++ [61] := by unfold headF; rw [if_neg h0, if_neg h1, if_neg h2, if_pos h3]
      have HST : Hid ((⟨#[40]⟩ ++ n ++ ⟨#[61]⟩) ++ strOfNums T = total) := by
        show _ = _
        rw [unhide HTOT, hh, sn_cons 40, sn_app (nums n ++ [61]), sn_app (nums n), strOfNums_nums]
        simp only [app_as]
        rfl
      have zs : 1 + n.size + 1 ≤ 9223372036854775807 := by omega
      clear hh
      have g0 : (k == 0) = false := by rw [beq_eq_false_iff_ne]; exact h0
      have g1 : (k == 1) = false := by rw [beq_eq_false_iff_ne]; exact h1
      have g2 : (k == 2) = false := by rw [beq_eq_false_iff_ne]; exact h2
      clear h0 h1 h2
      subst h3
      have HS := HB0
      have tS := b0
      go_enter Tryz.func20, Tryz.ntmps20
      go_wp2
      go_loopw [3, 4] (fun vo vj wr => ∃ (j : Nat) (dd : ByteArray), j ≤ kids.length ∧ vj = .int .i64 (j : Int) ∧ vo = .string dd ∧ Hid (dd ++ strOfNums (textF.L (kids.drop j) ++ (vTxt (nums v) ++ [41])) = total) ∧ Below w.heap.size w wr ∧ Hid (wr.heap[w.heap.size]? = some (.cells (cFl 3 n v i a1 a.length c1 f hi hf r d a2 kids.length c2) 27))) (fun _ j _ => kids.length - (intOf j).toNat)
      case atStart => exact ⟨0, _, Nat.zero_le _, rfl, rfl, by rw [List.drop_zero, ← unhide HTT]; exact unhide HST, tS, HS⟩
      case round =>
        obtain ⟨j, dd, hj, rfl, rfl, HD, hb, HB⟩ := hrel
        clear HST tS HS
        obtain ⟨k0, k1, k2, k3, k4, k5, k6, k7, k8, k9, k10⟩ := cells11 (unhide HB)
        obtain ⟨hl, hts⟩ := unhide HL
        have hds : dd.size + ((textF.L (kids.drop j)).length + ((vTxt (nums v)).length + 1)) ≤ 1000000000 := by
          have h1 := congrArg ByteArray.size (unhide HD)
          rw [ByteArray.size_append, sn_size, List.length_append, List.length_append] at h1
          simp only [List.length_cons, List.length_nil] at h1
          omega
        clear hts
        by_cases hlt : j < kids.length
        · have hzl : (j : Int) < (kids.length : Int) := by omega
          have hz0 : (0 : Int) ≤ (j : Int) := by omega
          obtain ⟨g, off, rfl, hq⟩ := (unhide HC).resolve_left (by omega)
          obtain ⟨x_0, x_1, x_2, x_3, x_4, x_5, x_6, x_7, x_8, x_9, x_10, q0, q1, q2, q3, q4, q5, q6, q7, q8, q9, q10, hv⟩ := hq.get j hlt
          replace q0 := (hb.cell (cell_lt q0)).trans q0
          replace q1 := (hb.cell (cell_lt q1)).trans q1
          replace q2 := (hb.cell (cell_lt q2)).trans q2
          replace q3 := (hb.cell (cell_lt q3)).trans q3
          replace q4 := (hb.cell (cell_lt q4)).trans q4
          replace q5 := (hb.cell (cell_lt q5)).trans q5
          replace q6 := (hb.cell (cell_lt q6)).trans q6
          replace q7 := (hb.cell (cell_lt q7)).trans q7
          replace q8 := (hb.cell (cell_lt q8)).trans q8
          replace q9 := (hb.cell (cell_lt q9)).trans q9
          replace q10 := (hb.cell (cell_lt q10)).trans q10
          have had := textL_drop kids j hlt
          rw [had, List.length_append] at hds
          have CI := hide (unhide HIH _ (getD_memF kids j hlt) _ wr (hv.grow hb) (unhide HAK _ (getD_memF kids j hlt)) (by omega))
          obtain ⟨tt, htt⟩ : ∃ tt, tt = strOfNums (textF (kids.getD j fl0)) := ⟨_, rfl⟩
          rw [← htt] at CI
          have st : tt.size = (textF (kids.getD j fl0)).length := by rw [htt, sn_size]
          have z1 : dd.size + tt.size ≤ 9223372036854775807 := by omega
          have HN : Hid ((dd ++ tt) ++ strOfNums (textF.L (kids.drop (j + 1)) ++ (vTxt (nums v) ++ [41])) = total) := by
            show _ = _
            rw [← unhide HD, had, htt, List.append_assoc, sn_app (textF (kids.getD j fl0)), app_as]
          clear had hds HD htt st hq hv hl sv
          go_wp2_with (go_at_call 20; refine (unhide CI).mono ?_; rintro e w2 ⟨rfl, b2⟩)
          go_roundw
          case rel => exact ⟨j + 1, _, by omega, by go_num, rfl, unhide HN, hb.trans (b2.mono hb.size), keep_blk (unhide HB) b2⟩
          case measure => simp [intOf]; omega
        · have hzl : ¬ (j : Int) < (kids.length : Int) := by omega
          have HE : Hid (dd ++ vv ++ ⟨#[41]⟩ = total) := by
            show _ = _
            rw [← unhide HD, List.drop_eq_nil_of_le (by omega), unhide HVV, app_as, sn_app, sn_app (vTxt (nums v))]
            rfl
          have z1 : dd.size + vv.size ≤ 9223372036854775807 := by omega
          have z2 : dd.size + vv.size + 1 ≤ 9223372036854775807 := by omega
          clear HD hds sv hl
          go_wp2_with (go_at_call 34; refine (unhide CV _).mono ?_; rintro e w2 ⟨rfl, b2⟩)
          go_ret
          exact ⟨ret_st (unhide HE), hb.trans (b2.mono hb.size)⟩
    by_cases h5 : k = 5
    · have hh : headF k n i a f r d = nums n ++ [62, 61] := by unfold headF; rw [if_neg h0, if_neg h1, if_neg h2, if_neg h3, if_pos h5]
      have HST : Hid ((⟨#[40]⟩ ++ n ++ ⟨#[62, 61]⟩) ++ strOfNums T = total) := by
        show _ = _
        rw [unhide HTOT, hh, sn_cons 40, sn_app (nums n ++ [62, 61]), sn_app (nums n), strOfNums_nums]
        simp only [app_as]
        rfl
      have zs : 1 + n.size + 2 ≤ 9223372036854775807 := by omega
      clear hh
      have g0 : (k == 0) = false := by rw [beq_eq_false_iff_ne]; exact h0
      have g1 : (k == 1) = false := by rw [beq_eq_false_iff_ne]; exact h1
      have g2 : (k == 2) = false := by rw [beq_eq_false_iff_ne]; exact h2
      have g3 : (k == 3) = false := by rw [beq_eq_false_iff_ne]; exact h3
      clear h0 h1 h2 h3
      subst h5
      have HS := HB0
      have tS := b0
      go_enter Tryz.func20, Tryz.ntmps20
      go_wp2
      go_loopw [3, 4] (fun vo vj wr => ∃ (j : Nat) (dd : ByteArray), j ≤ kids.length ∧ vj = .int .i64 (j : Int) ∧ vo = .string dd ∧ Hid (dd ++ strOfNums (textF.L (kids.drop j) ++ (vTxt (nums v) ++ [41])) = total) ∧ Below w.heap.size w wr ∧ Hid (wr.heap[w.heap.size]? = some (.cells (cFl 5 n v i a1 a.length c1 f hi hf r d a2 kids.length c2) 27))) (fun _ j _ => kids.length - (intOf j).toNat)
      case atStart => exact ⟨0, _, Nat.zero_le _, rfl, rfl, by rw [List.drop_zero, ← unhide HTT]; exact unhide HST, tS, HS⟩
      case round =>
        obtain ⟨j, dd, hj, rfl, rfl, HD, hb, HB⟩ := hrel
        clear HST tS HS
        obtain ⟨k0, k1, k2, k3, k4, k5, k6, k7, k8, k9, k10⟩ := cells11 (unhide HB)
        obtain ⟨hl, hts⟩ := unhide HL
        have hds : dd.size + ((textF.L (kids.drop j)).length + ((vTxt (nums v)).length + 1)) ≤ 1000000000 := by
          have h1 := congrArg ByteArray.size (unhide HD)
          rw [ByteArray.size_append, sn_size, List.length_append, List.length_append] at h1
          simp only [List.length_cons, List.length_nil] at h1
          omega
        clear hts
        by_cases hlt : j < kids.length
        · have hzl : (j : Int) < (kids.length : Int) := by omega
          have hz0 : (0 : Int) ≤ (j : Int) := by omega
          obtain ⟨g, off, rfl, hq⟩ := (unhide HC).resolve_left (by omega)
          obtain ⟨x_0, x_1, x_2, x_3, x_4, x_5, x_6, x_7, x_8, x_9, x_10, q0, q1, q2, q3, q4, q5, q6, q7, q8, q9, q10, hv⟩ := hq.get j hlt
          replace q0 := (hb.cell (cell_lt q0)).trans q0
          replace q1 := (hb.cell (cell_lt q1)).trans q1
          replace q2 := (hb.cell (cell_lt q2)).trans q2
          replace q3 := (hb.cell (cell_lt q3)).trans q3
          replace q4 := (hb.cell (cell_lt q4)).trans q4
          replace q5 := (hb.cell (cell_lt q5)).trans q5
          replace q6 := (hb.cell (cell_lt q6)).trans q6
          replace q7 := (hb.cell (cell_lt q7)).trans q7
          replace q8 := (hb.cell (cell_lt q8)).trans q8
          replace q9 := (hb.cell (cell_lt q9)).trans q9
          replace q10 := (hb.cell (cell_lt q10)).trans q10
          have had := textL_drop kids j hlt
          rw [had, List.length_append] at hds
          have CI := hide (unhide HIH _ (getD_memF kids j hlt) _ wr (hv.grow hb) (unhide HAK _ (getD_memF kids j hlt)) (by omega))
          obtain ⟨tt, htt⟩ : ∃ tt, tt = strOfNums (textF (kids.getD j fl0)) := ⟨_, rfl⟩
          rw [← htt] at CI
          have st : tt.size = (textF (kids.getD j fl0)).length := by rw [htt, sn_size]
          have z1 : dd.size + tt.size ≤ 9223372036854775807 := by omega
          have HN : Hid ((dd ++ tt) ++ strOfNums (textF.L (kids.drop (j + 1)) ++ (vTxt (nums v) ++ [41])) = total) := by
            show _ = _
            rw [← unhide HD, had, htt, List.append_assoc, sn_app (textF (kids.getD j fl0)), app_as]
          clear had hds HD htt st hq hv hl sv
          go_wp2_with (go_at_call 20; refine (unhide CI).mono ?_; rintro e w2 ⟨rfl, b2⟩)
          go_roundw
          case rel => exact ⟨j + 1, _, by omega, by go_num, rfl, unhide HN, hb.trans (b2.mono hb.size), keep_blk (unhide HB) b2⟩
          case measure => simp [intOf]; omega
        · have hzl : ¬ (j : Int) < (kids.length : Int) := by omega
          have HE : Hid (dd ++ vv ++ ⟨#[41]⟩ = total) := by
            show _ = _
            rw [← unhide HD, List.drop_eq_nil_of_le (by omega), unhide HVV, app_as, sn_app, sn_app (vTxt (nums v))]
            rfl
          have z1 : dd.size + vv.size ≤ 9223372036854775807 := by omega
          have z2 : dd.size + vv.size + 1 ≤ 9223372036854775807 := by omega
          clear HD hds sv hl
          go_wp2_with (go_at_call 34; refine (unhide CV _).mono ?_; rintro e w2 ⟨rfl, b2⟩)
          go_ret
          exact ⟨ret_st (unhide HE), hb.trans (b2.mono hb.size)⟩
    by_cases h6 : k = 6
    · have hh : headF k n i a f r d = nums n ++ [60, 61] := by unfold headF; rw [if_neg h0, if_neg h1, if_neg h2, if_neg h3, if_neg h5, if_pos h6]
      have HST : Hid ((⟨#[40]⟩ ++ n ++ ⟨#[60, 61]⟩) ++ strOfNums T = total) := by
        show _ = _
        rw [unhide HTOT, hh, sn_cons 40, sn_app (nums n ++ [60, 61]), sn_app (nums n), strOfNums_nums]
        simp only [app_as]
        rfl
      have zs : 1 + n.size + 2 ≤ 9223372036854775807 := by omega
      clear hh
      have g0 : (k == 0) = false := by rw [beq_eq_false_iff_ne]; exact h0
      have g1 : (k == 1) = false := by rw [beq_eq_false_iff_ne]; exact h1
      have g2 : (k == 2) = false := by rw [beq_eq_false_iff_ne]; exact h2
      have g3 : (k == 3) = false := by rw [beq_eq_false_iff_ne]; exact h3
      have g5 : (k == 5) = false := by rw [beq_eq_false_iff_ne]; exact h5
      clear h0 h1 h2 h3 h5
      subst h6
      have HS := HB0
      have tS := b0
      go_enter Tryz.func20, Tryz.ntmps20
      go_wp2
      go_loopw [3, 4] (fun vo vj wr => ∃ (j : Nat) (dd : ByteArray), j ≤ kids.length ∧ vj = .int .i64 (j : Int) ∧ vo = .string dd ∧ Hid (dd ++ strOfNums (textF.L (kids.drop j) ++ (vTxt (nums v) ++ [41])) = total) ∧ Below w.heap.size w wr ∧ Hid (wr.heap[w.heap.size]? = some (.cells (cFl 6 n v i a1 a.length c1 f hi hf r d a2 kids.length c2) 27))) (fun _ j _ => kids.length - (intOf j).toNat)
      case atStart => exact ⟨0, _, Nat.zero_le _, rfl, rfl, by rw [List.drop_zero, ← unhide HTT]; exact unhide HST, tS, HS⟩
      case round =>
        obtain ⟨j, dd, hj, rfl, rfl, HD, hb, HB⟩ := hrel
        clear HST tS HS
        obtain ⟨k0, k1, k2, k3, k4, k5, k6, k7, k8, k9, k10⟩ := cells11 (unhide HB)
        obtain ⟨hl, hts⟩ := unhide HL
        have hds : dd.size + ((textF.L (kids.drop j)).length + ((vTxt (nums v)).length + 1)) ≤ 1000000000 := by
          have h1 := congrArg ByteArray.size (unhide HD)
          rw [ByteArray.size_append, sn_size, List.length_append, List.length_append] at h1
          simp only [List.length_cons, List.length_nil] at h1
          omega
        clear hts
        by_cases hlt : j < kids.length
        · have hzl : (j : Int) < (kids.length : Int) := by omega
          have hz0 : (0 : Int) ≤ (j : Int) := by omega
          obtain ⟨g, off, rfl, hq⟩ := (unhide HC).resolve_left (by omega)
          obtain ⟨x_0, x_1, x_2, x_3, x_4, x_5, x_6, x_7, x_8, x_9, x_10, q0, q1, q2, q3, q4, q5, q6, q7, q8, q9, q10, hv⟩ := hq.get j hlt
          replace q0 := (hb.cell (cell_lt q0)).trans q0
          replace q1 := (hb.cell (cell_lt q1)).trans q1
          replace q2 := (hb.cell (cell_lt q2)).trans q2
          replace q3 := (hb.cell (cell_lt q3)).trans q3
          replace q4 := (hb.cell (cell_lt q4)).trans q4
          replace q5 := (hb.cell (cell_lt q5)).trans q5
          replace q6 := (hb.cell (cell_lt q6)).trans q6
          replace q7 := (hb.cell (cell_lt q7)).trans q7
          replace q8 := (hb.cell (cell_lt q8)).trans q8
          replace q9 := (hb.cell (cell_lt q9)).trans q9
          replace q10 := (hb.cell (cell_lt q10)).trans q10
          have had := textL_drop kids j hlt
          rw [had, List.length_append] at hds
          have CI := hide (unhide HIH _ (getD_memF kids j hlt) _ wr (hv.grow hb) (unhide HAK _ (getD_memF kids j hlt)) (by omega))
          obtain ⟨tt, htt⟩ : ∃ tt, tt = strOfNums (textF (kids.getD j fl0)) := ⟨_, rfl⟩
          rw [← htt] at CI
          have st : tt.size = (textF (kids.getD j fl0)).length := by rw [htt, sn_size]
          have z1 : dd.size + tt.size ≤ 9223372036854775807 := by omega
          have HN : Hid ((dd ++ tt) ++ strOfNums (textF.L (kids.drop (j + 1)) ++ (vTxt (nums v) ++ [41])) = total) := by
            show _ = _
            rw [← unhide HD, had, htt, List.append_assoc, sn_app (textF (kids.getD j fl0)), app_as]
          clear had hds HD htt st hq hv hl sv
          go_wp2_with (go_at_call 20; refine (unhide CI).mono ?_; rintro e w2 ⟨rfl, b2⟩)
          go_roundw
          case rel => exact ⟨j + 1, _, by omega, by go_num, rfl, unhide HN, hb.trans (b2.mono hb.size), keep_blk (unhide HB) b2⟩
          case measure => simp [intOf]; omega
        · have hzl : ¬ (j : Int) < (kids.length : Int) := by omega
          have HE : Hid (dd ++ vv ++ ⟨#[41]⟩ = total) := by
            show _ = _
            rw [← unhide HD, List.drop_eq_nil_of_le (by omega), unhide HVV, app_as, sn_app, sn_app (vTxt (nums v))]
            rfl
          have z1 : dd.size + vv.size ≤ 9223372036854775807 := by omega
          have z2 : dd.size + vv.size + 1 ≤ 9223372036854775807 := by omega
          clear HD hds sv hl
          go_wp2_with (go_at_call 34; refine (unhide CV _).mono ?_; rintro e w2 ⟨rfl, b2⟩)
          go_ret
          exact ⟨ret_st (unhide HE), hb.trans (b2.mono hb.size)⟩
    by_cases h8 : k = 8
    · have hh : headF k n i a f r d = nums n ++ [126, 61] := by unfold headF; rw [if_neg h0, if_neg h1, if_neg h2, if_neg h3, if_neg h5, if_neg h6, if_pos h8]
      have HST : Hid ((⟨#[40]⟩ ++ n ++ ⟨#[126, 61]⟩) ++ strOfNums T = total) := by
        show _ = _
        rw [unhide HTOT, hh, sn_cons 40, sn_app (nums n ++ [126, 61]), sn_app (nums n), strOfNums_nums]
        simp only [app_as]
        rfl
      have zs : 1 + n.size + 2 ≤ 9223372036854775807 := by omega
      clear hh
      have g0 : (k == 0) = false := by rw [beq_eq_false_iff_ne]; exact h0
      have g1 : (k == 1) = false := by rw [beq_eq_false_iff_ne]; exact h1
      have g2 : (k == 2) = false := by rw [beq_eq_false_iff_ne]; exact h2
      have g3 : (k == 3) = false := by rw [beq_eq_false_iff_ne]; exact h3
      have g5 : (k == 5) = false := by rw [beq_eq_false_iff_ne]; exact h5
      have g6 : (k == 6) = false := by rw [beq_eq_false_iff_ne]; exact h6
      clear h0 h1 h2 h3 h5 h6
      subst h8
      have HS := HB0
      have tS := b0
      go_enter Tryz.func20, Tryz.ntmps20
      go_wp2
      go_loopw [3, 4] (fun vo vj wr => ∃ (j : Nat) (dd : ByteArray), j ≤ kids.length ∧ vj = .int .i64 (j : Int) ∧ vo = .string dd ∧ Hid (dd ++ strOfNums (textF.L (kids.drop j) ++ (vTxt (nums v) ++ [41])) = total) ∧ Below w.heap.size w wr ∧ Hid (wr.heap[w.heap.size]? = some (.cells (cFl 8 n v i a1 a.length c1 f hi hf r d a2 kids.length c2) 27))) (fun _ j _ => kids.length - (intOf j).toNat)
      case atStart => exact ⟨0, _, Nat.zero_le _, rfl, rfl, by rw [List.drop_zero, ← unhide HTT]; exact unhide HST, tS, HS⟩
      case round =>
        obtain ⟨j, dd, hj, rfl, rfl, HD, hb, HB⟩ := hrel
        clear HST tS HS
        obtain ⟨k0, k1, k2, k3, k4, k5, k6, k7, k8, k9, k10⟩ := cells11 (unhide HB)
        obtain ⟨hl, hts⟩ := unhide HL
        have hds : dd.size + ((textF.L (kids.drop j)).length + ((vTxt (nums v)).length + 1)) ≤ 1000000000 := by
          have h1 := congrArg ByteArray.size (unhide HD)
          rw [ByteArray.size_append, sn_size, List.length_append, List.length_append] at h1
          simp only [List.length_cons, List.length_nil] at h1
          omega
        clear hts
        by_cases hlt : j < kids.length
        · have hzl : (j : Int) < (kids.length : Int) := by omega
          have hz0 : (0 : Int) ≤ (j : Int) := by omega
          obtain ⟨g, off, rfl, hq⟩ := (unhide HC).resolve_left (by omega)
          obtain ⟨x_0, x_1, x_2, x_3, x_4, x_5, x_6, x_7, x_8, x_9, x_10, q0, q1, q2, q3, q4, q5, q6, q7, q8, q9, q10, hv⟩ := hq.get j hlt
          replace q0 := (hb.cell (cell_lt q0)).trans q0
          replace q1 := (hb.cell (cell_lt q1)).trans q1
          replace q2 := (hb.cell (cell_lt q2)).trans q2
          replace q3 := (hb.cell (cell_lt q3)).trans q3
          replace q4 := (hb.cell (cell_lt q4)).trans q4
          replace q5 := (hb.cell (cell_lt q5)).trans q5
          replace q6 := (hb.cell (cell_lt q6)).trans q6
          replace q7 := (hb.cell (cell_lt q7)).trans q7
          replace q8 := (hb.cell (cell_lt q8)).trans q8
          replace q9 := (hb.cell (cell_lt q9)).trans q9
          replace q10 := (hb.cell (cell_lt q10)).trans q10
          have had := textL_drop kids j hlt
          rw [had, List.length_append] at hds
          have CI := hide (unhide HIH _ (getD_memF kids j hlt) _ wr (hv.grow hb) (unhide HAK _ (getD_memF kids j hlt)) (by omega))
          obtain ⟨tt, htt⟩ : ∃ tt, tt = strOfNums (textF (kids.getD j fl0)) := ⟨_, rfl⟩
          rw [← htt] at CI
          have st : tt.size = (textF (kids.getD j fl0)).length := by rw [htt, sn_size]
          have z1 : dd.size + tt.size ≤ 9223372036854775807 := by omega
          have HN : Hid ((dd ++ tt) ++ strOfNums (textF.L (kids.drop (j + 1)) ++ (vTxt (nums v) ++ [41])) = total) := by
            show _ = _
            rw [← unhide HD, had, htt, List.append_assoc, sn_app (textF (kids.getD j fl0)), app_as]
          clear had hds HD htt st hq hv hl sv
          go_wp2_with (go_at_call 20; refine (unhide CI).mono ?_; rintro e w2 ⟨rfl, b2⟩)
          go_roundw
          case rel => exact ⟨j + 1, _, by omega, by go_num, rfl, unhide HN, hb.trans (b2.mono hb.size), keep_blk (unhide HB) b2⟩
          case measure => simp [intOf]; omega
        · have hzl : ¬ (j : Int) < (kids.length : Int) := by omega
          have HE : Hid (dd ++ vv ++ ⟨#[41]⟩ = total) := by
            show _ = _
            rw [← unhide HD, List.drop_eq_nil_of_le (by omega), unhide HVV, app_as, sn_app, sn_app (vTxt (nums v))]
            rfl
          have z1 : dd.size + vv.size ≤ 9223372036854775807 := by omega
          have z2 : dd.size + vv.size + 1 ≤ 9223372036854775807 := by omega
          clear HD hds sv hl
          go_wp2_with (go_at_call 34; refine (unhide CV _).mono ?_; rintro e w2 ⟨rfl, b2⟩)
          go_ret
          exact ⟨ret_st (unhide HE), hb.trans (b2.mono hb.size)⟩
    by_cases h7 : k = 7
    · have hh : headF k n i a f r d = nums n ++ [61, 42] := by unfold headF; rw [if_neg h0, if_neg h1, if_neg h2, if_neg h3, if_neg h5, if_neg h6, if_neg h8, if_pos h7]
      have HST : Hid ((⟨#[40]⟩ ++ n ++ ⟨#[61, 42]⟩) ++ strOfNums T = total) := by
        show _ = _
        rw [unhide HTOT, hh, sn_cons 40, sn_app (nums n ++ [61, 42]), sn_app (nums n), strOfNums_nums]
        simp only [app_as]
        rfl
      have zs : 1 + n.size + 2 ≤ 9223372036854775807 := by omega
      clear hh
      have g0 : (k == 0) = false := by rw [beq_eq_false_iff_ne]; exact h0
      have g1 : (k == 1) = false := by rw [beq_eq_false_iff_ne]; exact h1
      have g2 : (k == 2) = false := by rw [beq_eq_false_iff_ne]; exact h2
      have g3 : (k == 3) = false := by rw [beq_eq_false_iff_ne]; exact h3
      have g5 : (k == 5) = false := by rw [beq_eq_false_iff_ne]; exact h5
      have g6 : (k == 6) = false := by rw [beq_eq_false_iff_ne]; exact h6
      have g8 : (k == 8) = false := by rw [beq_eq_false_iff_ne]; exact h8
      clear h0 h1 h2 h3 h5 h6 h8
      subst h7
      have HS := HB0
      have tS := b0
      go_enter Tryz.func20, Tryz.ntmps20
      go_wp2
      go_loopw [3, 4] (fun vo vj wr => ∃ (j : Nat) (dd : ByteArray), j ≤ kids.length ∧ vj = .int .i64 (j : Int) ∧ vo = .string dd ∧ Hid (dd ++ strOfNums (textF.L (kids.drop j) ++ (vTxt (nums v) ++ [41])) = total) ∧ Below w.heap.size w wr ∧ Hid (wr.heap[w.heap.size]? = some (.cells (cFl 7 n v i a1 a.length c1 f hi hf r d a2 kids.length c2) 27))) (fun _ j _ => kids.length - (intOf j).toNat)
      case atStart => exact ⟨0, _, Nat.zero_le _, rfl, rfl, by rw [List.drop_zero, ← unhide HTT]; exact unhide HST, tS, HS⟩
      case round =>
        obtain ⟨j, dd, hj, rfl, rfl, HD, hb, HB⟩ := hrel
        clear HST tS HS
        obtain ⟨k0, k1, k2, k3, k4, k5, k6, k7, k8, k9, k10⟩ := cells11 (unhide HB)
        obtain ⟨hl, hts⟩ := unhide HL
        have hds : dd.size + ((textF.L (kids.drop j)).length + ((vTxt (nums v)).length + 1)) ≤ 1000000000 := by
          have h1 := congrArg ByteArray.size (unhide HD)
          rw [ByteArray.size_append, sn_size, List.length_append, List.length_append] at h1
          simp only [List.length_cons, List.length_nil] at h1
          omega
        clear hts
        by_cases hlt : j < kids.length
        · have hzl : (j : Int) < (kids.length : Int) := by omega
          have hz0 : (0 : Int) ≤ (j : Int) := by omega
          obtain ⟨g, off, rfl, hq⟩ := (unhide HC).resolve_left (by omega)
          obtain ⟨x_0, x_1, x_2, x_3, x_4, x_5, x_6, x_7, x_8, x_9, x_10, q0, q1, q2, q3, q4, q5, q6, q7, q8, q9, q10, hv⟩ := hq.get j hlt
          replace q0 := (hb.cell (cell_lt q0)).trans q0
          replace q1 := (hb.cell (cell_lt q1)).trans q1
          replace q2 := (hb.cell (cell_lt q2)).trans q2
          replace q3 := (hb.cell (cell_lt q3)).trans q3
          replace q4 := (hb.cell (cell_lt q4)).trans q4
          replace q5 := (hb.cell (cell_lt q5)).trans q5
          replace q6 := (hb.cell (cell_lt q6)).trans q6
          replace q7 := (hb.cell (cell_lt q7)).trans q7
          replace q8 := (hb.cell (cell_lt q8)).trans q8
          replace q9 := (hb.cell (cell_lt q9)).trans q9
          replace q10 := (hb.cell (cell_lt q10)).trans q10
          have had := textL_drop kids j hlt
          rw [had, List.length_append] at hds
          have CI := hide (unhide HIH _ (getD_memF kids j hlt) _ wr (hv.grow hb) (unhide HAK _ (getD_memF kids j hlt)) (by omega))
          obtain ⟨tt, htt⟩ : ∃ tt, tt = strOfNums (textF (kids.getD j fl0)) := ⟨_, rfl⟩
          rw [← htt] at CI
          have st : tt.size = (textF (kids.getD j fl0)).length := by rw [htt, sn_size]
          have z1 : dd.size + tt.size ≤ 9223372036854775807 := by omega
          have HN : Hid ((dd ++ tt) ++ strOfNums (textF.L (kids.drop (j + 1)) ++ (vTxt (nums v) ++ [41])) = total) := by
            show _ = _
            rw [← unhide HD, had, htt, List.append_assoc, sn_app (textF (kids.getD j fl0)), app_as]
          clear had hds HD htt st hq hv hl sv
          go_wp2_with (go_at_call 20; refine (unhide CI).mono ?_; rintro e w2 ⟨rfl, b2⟩)
          go_roundw
          case rel => exact ⟨j + 1, _, by omega, by go_num, rfl, unhide HN, hb.trans (b2.mono hb.size), keep_blk (unhide HB) b2⟩
          case measure => simp [intOf]; omega
        · have hzl : ¬ (j : Int) < (kids.length : Int) := by omega
          have HE : Hid (dd ++ vv ++ ⟨#[41]⟩ = total) := by
            show _ = _
            rw [← unhide HD, List.drop_eq_nil_of_le (by omega), unhide HVV, app_as, sn_app, sn_app (vTxt (nums v))]
            rfl
          have z1 : dd.size + vv.size ≤ 9223372036854775807 := by omega
          have z2 : dd.size + vv.size + 1 ≤ 9223372036854775807 := by omega
          clear HD hds sv hl
          go_wp2_with (go_at_call 34; refine (unhide CV _).mono ?_; rintro e w2 ⟨rfl, b2⟩)
          go_ret
          exact ⟨ret_st (unhide HE), hb.trans (b2.mono hb.size)⟩
    by_cases h4 : k = 4
    · have hh : headF k n i a f r d = nums n ++ 61 :: starT i a f := by unfold headF; rw [if_neg h0, if_neg h1, if_neg h2, if_neg h3, if_neg h5, if_neg h6, if_neg h8, if_neg h7, if_pos h4]
      obtain ⟨ss, hss⟩ : ∃ ss, ss = strOfNums (starT i a f) := ⟨_, rfl⟩
      have hsl : (starT i a f).length ≤ 1000000000 ∧ 1 + n.size + 1 + (starT i a f).length ≤ 1000000000 := by have := (unhide HL).1; rw [hh, List.length_append, List.length_cons, nums_length] at this; omega
      have sss : ss.size = (starT i a f).length := by rw [hss, sn_size]
      have HST : Hid ((⟨#[40]⟩ ++ n ++ ⟨#[61]⟩ ++ ss) ++ strOfNums T = total) := by
        show _ = _
        rw [unhide HTOT, hh, sn_cons 40, sn_app (nums n ++ 61 :: starT i a f), sn_app (nums n), sn_cons 61 (starT i a f), strOfNums_nums, hss]
        simp only [app_as]
        rfl
      have CS := hide (fun W (b : Below w.heap.size w W) => rstarry_any i f hi hf a a1 c1 W (ht.below b) hsl.1)
      rw [← hss] at CS
      have zs : 1 + n.size + 1 ≤ 9223372036854775807 := by omega
      have zs2 : 1 + n.size + 1 + ss.size ≤ 9223372036854775807 := by omega
      clear hsl sss hss
      clear hh
      have g0 : (k == 0) = false := by rw [beq_eq_false_iff_ne]; exact h0
      have g1 : (k == 1) = false := by rw [beq_eq_false_iff_ne]; exact h1
      have g2 : (k == 2) = false := by rw [beq_eq_false_iff_ne]; exact h2
      have g3 : (k == 3) = false := by rw [beq_eq_false_iff_ne]; exact h3
      have g5 : (k == 5) = false := by rw [beq_eq_false_iff_ne]; exact h5
      have g6 : (k == 6) = false := by rw [beq_eq_false_iff_ne]; exact h6
      have g8 : (k == 8) = false := by rw [beq_eq_false_iff_ne]; exact h8
      have g7 : (k == 7) = false := by rw [beq_eq_false_iff_ne]; exact h7
      clear h0 h1 h2 h3 h5 h6 h8 h7
      subst h4
      go_enter Tryz.func20, Tryz.ntmps20
      go_wp2_with (go_at_call 33; refine (unhide CS _ b0).mono ?_; rintro e w1 ⟨rfl, b1⟩; have tS := b0.trans (b1.mono b0.size); have HS := keep_blk (unhide HB0) b1)
      go_loopw [3, 4] (fun vo vj wr => ∃ (j : Nat) (dd : ByteArray), j ≤ kids.length ∧ vj = .int .i64 (j : Int) ∧ vo = .string dd ∧ Hid (dd ++ strOfNums (textF.L (kids.drop j) ++ (vTxt (nums v) ++ [41])) = total) ∧ Below w.heap.size w wr ∧ Hid (wr.heap[w.heap.size]? = some (.cells (cFl 4 n v i a1 a.length c1 f hi hf r d a2 kids.length c2) 27))) (fun _ j _ => kids.length - (intOf j).toNat)
      case atStart => exact ⟨0, _, Nat.zero_le _, rfl, rfl, by rw [List.drop_zero, ← unhide HTT]; exact unhide HST, tS, HS⟩
      case round =>
        obtain ⟨j, dd, hj, rfl, rfl, HD, hb, HB⟩ := hrel
        clear HST tS HS
        obtain ⟨k0, k1, k2, k3, k4, k5, k6, k7, k8, k9, k10⟩ := cells11 (unhide HB)
        obtain ⟨hl, hts⟩ := unhide HL
        have hds : dd.size + ((textF.L (kids.drop j)).length + ((vTxt (nums v)).length + 1)) ≤ 1000000000 := by
          have h1 := congrArg ByteArray.size (unhide HD)
          rw [ByteArray.size_append, sn_size, List.length_append, List.length_append] at h1
          simp only [List.length_cons, List.length_nil] at h1
          omega
        clear hts
        by_cases hlt : j < kids.length
        · have hzl : (j : Int) < (kids.length : Int) := by omega
          have hz0 : (0 : Int) ≤ (j : Int) := by omega
          obtain ⟨g, off, rfl, hq⟩ := (unhide HC).resolve_left (by omega)
          obtain ⟨x_0, x_1, x_2, x_3, x_4, x_5, x_6, x_7, x_8, x_9, x_10, q0, q1, q2, q3, q4, q5, q6, q7, q8, q9, q10, hv⟩ := hq.get j hlt
          replace q0 := (hb.cell (cell_lt q0)).trans q0
          replace q1 := (hb.cell (cell_lt q1)).trans q1
          replace q2 := (hb.cell (cell_lt q2)).trans q2
          replace q3 := (hb.cell (cell_lt q3)).trans q3
          replace q4 := (hb.cell (cell_lt q4)).trans q4
          replace q5 := (hb.cell (cell_lt q5)).trans q5
          replace q6 := (hb.cell (cell_lt q6)).trans q6
          replace q7 := (hb.cell (cell_lt q7)).trans q7
          replace q8 := (hb.cell (cell_lt q8)).trans q8
          replace q9 := (hb.cell (cell_lt q9)).trans q9
          replace q10 := (hb.cell (cell_lt q10)).trans q10
          have had := textL_drop kids j hlt
          rw [had, List.length_append] at hds
          have CI := hide (unhide HIH _ (getD_memF kids j hlt) _ wr (hv.grow hb) (unhide HAK _ (getD_memF kids j hlt)) (by omega))
          obtain ⟨tt, htt⟩ : ∃ tt, tt = strOfNums (textF (kids.getD j fl0)) := ⟨_, rfl⟩
          rw [← htt] at CI
          have st : tt.size = (textF (kids.getD j fl0)).length := by rw [htt, sn_size]
          have z1 : dd.size + tt.size ≤ 9223372036854775807 := by omega
          have HN : Hid ((dd ++ tt) ++ strOfNums (textF.L (kids.drop (j + 1)) ++ (vTxt (nums v) ++ [41])) = total) := by
            show _ = _
            rw [← unhide HD, had, htt, List.append_assoc, sn_app (textF (kids.getD j fl0)), app_as]
          clear had hds HD htt st hq hv hl sv
          go_wp2_with (go_at_call 20; refine (unhide CI).mono ?_; rintro e w2 ⟨rfl, b2⟩)
          go_roundw
          case rel => exact ⟨j + 1, _, by omega, by go_num, rfl, unhide HN, hb.trans (b2.mono hb.size), keep_blk (unhide HB) b2⟩
          case measure => simp [intOf]; omega
        · have hzl : ¬ (j : Int) < (kids.length : Int) := by omega
          have HE : Hid (dd ++ vv ++ ⟨#[41]⟩ = total) := by
            show _ = _
            rw [← unhide HD, List.drop_eq_nil_of_le (by omega), unhide HVV, app_as, sn_app, sn_app (vTxt (nums v))]
            rfl
          have z1 : dd.size + vv.size ≤ 9223372036854775807 := by omega
          have z2 : dd.size + vv.size + 1 ≤ 9223372036854775807 := by omega
          clear HD hds sv hl
          go_wp2_with (go_at_call 34; refine (unhide CV _).mono ?_; rintro e w2 ⟨rfl, b2⟩)
          go_ret
          exact ⟨ret_st (unhide HE), hb.trans (b2.mono hb.size)⟩
    have hh : headF k n i a f r d = nums n ++ extT r d := by unfold headF; rw [if_neg h0, if_neg h1, if_neg h2, if_neg h3, if_neg h5, if_neg h6, if_neg h8, if_neg h7, if_neg h4]
    have g0 : (k == 0) = false := by rw [beq_eq_false_iff_ne]; exact h0
    have g1 : (k == 1) = false := by rw [beq_eq_false_iff_ne]; exact h1
    have g2 : (k == 2) = false := by rw [beq_eq_false_iff_ne]; exact h2
    have g3 : (k == 3) = false := by rw [beq_eq_false_iff_ne]; exact h3
    have g5 : (k == 5) = false := by rw [beq_eq_false_iff_ne]; exact h5
    have g6 : (k == 6) = false := by rw [beq_eq_false_iff_ne]; exact h6
    have g8 : (k == 8) = false := by rw [beq_eq_false_iff_ne]; exact h8
    have g7 : (k == 7) = false := by rw [beq_eq_false_iff_ne]; exact h7
    have g4 : (k == 4) = false := by rw [beq_eq_false_iff_ne]; exact h4
    clear h0 h1 h2 h3 h5 h6 h8 h7 h4
    cases d
    · by_cases hr0 : r = ⟨#[]⟩
      · have hx : extT r false = [] ++ ([] ++ [58, 61]) := by
          unfold extT
          rw [if_neg (by decide), if_pos hr0]
        rw [hx] at hh
        have hrl : 1 + n.size + 3 + 1 + r.size + 2 ≤ 2000000000 := by 
          have := (unhide HL).1
          rw [hh] at this
          have hrz : r.size = 0 := by rw [hr0]; rfl
          simp [nums_length] at this; omega
        have HST : Hid ((⟨#[40]⟩ ++ n ++ ⟨#[58, 61]⟩) ++ strOfNums T = total) := by
          show _ = _
          rw [unhide HTOT, hh, List.nil_append, sn_cons 40, sn_app (nums n ++ ([] ++ [58, 61])), sn_app (nums n), sn_app [] [58, 61], strOfNums_nums]
          simp only [app_as, sn_emp]
          rfl
        have zs4 : 1 + n.size + 2 ≤ 9223372036854775807 := by omega
        clear hx hh hrl
        have hre := hr0
        subst hre
        clear hr0
        have HS := HB0
        have tS := b0
        go_enter Tryz.func20, Tryz.ntmps20
        go_wp2
        go_loopw [3, 4] (fun vo vj wr => ∃ (j : Nat) (dd : ByteArray), j ≤ kids.length ∧ vj = .int .i64 (j : Int) ∧ vo = .string dd ∧ Hid (dd ++ strOfNums (textF.L (kids.drop j) ++ (vTxt (nums v) ++ [41])) = total) ∧ Below w.heap.size w wr ∧ Hid (wr.heap[w.heap.size]? = some (.cells (cFl k n v i a1 a.length c1 f hi hf ⟨#[]⟩ false a2 kids.length c2) 27))) (fun _ j _ => kids.length - (intOf j).toNat)
        case atStart => exact ⟨0, _, Nat.zero_le _, rfl, rfl, by rw [List.drop_zero, ← unhide HTT]; exact unhide HST, tS, HS⟩
        case round =>
          obtain ⟨j, dd, hj, rfl, rfl, HD, hb, HB⟩ := hrel
          clear HST tS HS
          obtain ⟨k0, k1, k2, k3, k4, k5, k6, k7, k8, k9, k10⟩ := cells11 (unhide HB)
          obtain ⟨hl, hts⟩ := unhide HL
          have hds : dd.size + ((textF.L (kids.drop j)).length + ((vTxt (nums v)).length + 1)) ≤ 1000000000 := by
            have h1 := congrArg ByteArray.size (unhide HD)
            rw [ByteArray.size_append, sn_size, List.length_append, List.length_append] at h1
            simp only [List.length_cons, List.length_nil] at h1
            omega
          clear hts
          by_cases hlt : j < kids.length
          · have hzl : (j : Int) < (kids.length : Int) := by omega
            have hz0 : (0 : Int) ≤ (j : Int) := by omega
            obtain ⟨g, off, rfl, hq⟩ := (unhide HC).resolve_left (by omega)
            obtain ⟨x_0, x_1, x_2, x_3, x_4, x_5, x_6, x_7, x_8, x_9, x_10, q0, q1, q2, q3, q4, q5, q6, q7, q8, q9, q10, hv⟩ := hq.get j hlt
            replace q0 := (hb.cell (cell_lt q0)).trans q0
            replace q1 := (hb.cell (cell_lt q1)).trans q1
            replace q2 := (hb.cell (cell_lt q2)).trans q2
            replace q3 := (hb.cell (cell_lt q3)).trans q3
            replace q4 := (hb.cell (cell_lt q4)).trans q4
            replace q5 := (hb.cell (cell_lt q5)).trans q5
            replace q6 := (hb.cell (cell_lt q6)).trans q6
            replace q7 := (hb.cell (cell_lt q7)).trans q7
            replace q8 := (hb.cell (cell_lt q8)).trans q8
            replace q9 := (hb.cell (cell_lt q9)).trans q9
            replace q10 := (hb.cell (cell_lt q10)).trans q10
            have had := textL_drop kids j hlt
            rw [had, List.length_append] at hds
            have CI := hide (unhide HIH _ (getD_memF kids j hlt) _ wr (hv.grow hb) (unhide HAK _ (getD_memF kids j hlt)) (by omega))
            obtain ⟨tt, htt⟩ : ∃ tt, tt = strOfNums (textF (kids.getD j fl0)) := ⟨_, rfl⟩
            rw [← htt] at CI
            have st : tt.size = (textF (kids.getD j fl0)).length := by rw [htt, sn_size]
            have z1 : dd.size + tt.size ≤ 9223372036854775807 := by omega
            have HN : Hid ((dd ++ tt) ++ strOfNums (textF.L (kids.drop (j + 1)) ++ (vTxt (nums v) ++ [41])) = total) := by
              show _ = _
              rw [← unhide HD, had, htt, List.append_assoc, sn_app (textF (kids.getD j fl0)), app_as]
            clear had hds HD htt st hq hv hl sv
            go_wp2_with (go_at_call 20; refine (unhide CI).mono ?_; rintro e w2 ⟨rfl, b2⟩)
            go_roundw
            case rel => exact ⟨j + 1, _, by omega, by go_num, rfl, unhide HN, hb.trans (b2.mono hb.size), keep_blk (unhide HB) b2⟩
            case measure => simp [intOf]; omega
          · have hzl : ¬ (j : Int) < (kids.length : Int) := by omega
            have HE : Hid (dd ++ vv ++ ⟨#[41]⟩ = total) := by
              show _ = _
              rw [← unhide HD, List.drop_eq_nil_of_le (by omega), unhide HVV, app_as, sn_app, sn_app (vTxt (nums v))]
              rfl
            have z1 : dd.size + vv.size ≤ 9223372036854775807 := by omega
            have z2 : dd.size + vv.size + 1 ≤ 9223372036854775807 := by omega
            clear HD hds sv hl
            go_wp2_with (go_at_call 34; refine (unhide CV _).mono ?_; rintro e w2 ⟨rfl, b2⟩)
            go_ret
            exact ⟨ret_st (unhide HE), hb.trans (b2.mono hb.size)⟩
      · have hx : extT r false = [] ++ (58 :: nums r ++ [58, 61]) := by
          unfold extT
          rw [if_neg (by decide), if_neg hr0]
        rw [hx] at hh
        have hrl : 1 + n.size + 3 + 1 + r.size + 2 ≤ 2000000000 := by 
          have := (unhide HL).1
          rw [hh] at this
          simp [nums_length] at this; omega
        have HST : Hid ((⟨#[40]⟩ ++ n ++ ⟨#[58]⟩ ++ r ++ ⟨#[58, 61]⟩) ++ strOfNums T = total) := by
          show _ = _
          rw [unhide HTOT, hh, sn_cons 40, sn_app (nums n ++ ([] ++ (58 :: nums r ++ [58, 61]))), sn_app (nums n), sn_app [] (58 :: nums r ++ [58, 61]), sn_app (58 :: nums r), sn_cons 58 (nums r), strOfNums_nums, strOfNums_nums]
          simp only [app_as, sn_emp]
          rfl
        have zs2 : 1 + n.size + 1 ≤ 9223372036854775807 := by omega
        have zs3 : 1 + n.size + 1 + r.size ≤ 9223372036854775807 := by omega
        have zs4 : 1 + n.size + 1 + r.size + 2 ≤ 9223372036854775807 := by omega
        clear hx hh hrl
        obtain ⟨re1, re2, re3⟩ := emp_no (show ¬ r = ByteArray.empty from hr0)
        clear hr0
        have HS := HB0
        have tS := b0
        go_enter Tryz.func20, Tryz.ntmps20
        go_wp2
        go_loopw [3, 4] (fun vo vj wr => ∃ (j : Nat) (dd : ByteArray), j ≤ kids.length ∧ vj = .int .i64 (j : Int) ∧ vo = .string dd ∧ Hid (dd ++ strOfNums (textF.L (kids.drop j) ++ (vTxt (nums v) ++ [41])) = total) ∧ Below w.heap.size w wr ∧ Hid (wr.heap[w.heap.size]? = some (.cells (cFl k n v i a1 a.length c1 f hi hf r false a2 kids.length c2) 27))) (fun _ j _ => kids.length - (intOf j).toNat)
        case atStart => exact ⟨0, _, Nat.zero_le _, rfl, rfl, by rw [List.drop_zero, ← unhide HTT]; exact unhide HST, tS, HS⟩
        case round =>
          obtain ⟨j, dd, hj, rfl, rfl, HD, hb, HB⟩ := hrel
          clear HST tS HS
          obtain ⟨k0, k1, k2, k3, k4, k5, k6, k7, k8, k9, k10⟩ := cells11 (unhide HB)
          obtain ⟨hl, hts⟩ := unhide HL
          have hds : dd.size + ((textF.L (kids.drop j)).length + ((vTxt (nums v)).length + 1)) ≤ 1000000000 := by
            have h1 := congrArg ByteArray.size (unhide HD)
            rw [ByteArray.size_append, sn_size, List.length_append, List.length_append] at h1
            simp only [List.length_cons, List.length_nil] at h1
            omega
          clear hts
          by_cases hlt : j < kids.length
          · have hzl : (j : Int) < (kids.length : Int) := by omega
            have hz0 : (0 : Int) ≤ (j : Int) := by omega
            obtain ⟨g, off, rfl, hq⟩ := (unhide HC).resolve_left (by omega)
            obtain ⟨x_0, x_1, x_2, x_3, x_4, x_5, x_6, x_7, x_8, x_9, x_10, q0, q1, q2, q3, q4, q5, q6, q7, q8, q9, q10, hv⟩ := hq.get j hlt
            replace q0 := (hb.cell (cell_lt q0)).trans q0
            replace q1 := (hb.cell (cell_lt q1)).trans q1
            replace q2 := (hb.cell (cell_lt q2)).trans q2
            replace q3 := (hb.cell (cell_lt q3)).trans q3
            replace q4 := (hb.cell (cell_lt q4)).trans q4
            replace q5 := (hb.cell (cell_lt q5)).trans q5
            replace q6 := (hb.cell (cell_lt q6)).trans q6
            replace q7 := (hb.cell (cell_lt q7)).trans q7
            replace q8 := (hb.cell (cell_lt q8)).trans q8
            replace q9 := (hb.cell (cell_lt q9)).trans q9
            replace q10 := (hb.cell (cell_lt q10)).trans q10
            have had := textL_drop kids j hlt
            rw [had, List.length_append] at hds
            have CI := hide (unhide HIH _ (getD_memF kids j hlt) _ wr (hv.grow hb) (unhide HAK _ (getD_memF kids j hlt)) (by omega))
            obtain ⟨tt, htt⟩ : ∃ tt, tt = strOfNums (textF (kids.getD j fl0)) := ⟨_, rfl⟩
            rw [← htt] at CI
            have st : tt.size = (textF (kids.getD j fl0)).length := by rw [htt, sn_size]
            have z1 : dd.size + tt.size ≤ 9223372036854775807 := by omega
            have HN : Hid ((dd ++ tt) ++ strOfNums (textF.L (kids.drop (j + 1)) ++ (vTxt (nums v) ++ [41])) = total) := by
              show _ = _
              rw [← unhide HD, had, htt, List.append_assoc, sn_app (textF (kids.getD j fl0)), app_as]
            clear had hds HD htt st hq hv hl sv
            go_wp2_with (go_at_call 20; refine (unhide CI).mono ?_; rintro e w2 ⟨rfl, b2⟩)
            go_roundw
            case rel => exact ⟨j + 1, _, by omega, by go_num, rfl, unhide HN, hb.trans (b2.mono hb.size), keep_blk (unhide HB) b2⟩
            case measure => simp [intOf]; omega
          · have hzl : ¬ (j : Int) < (kids.length : Int) := by omega
            have HE : Hid (dd ++ vv ++ ⟨#[41]⟩ = total) := by
              show _ = _
              rw [← unhide HD, List.drop_eq_nil_of_le (by omega), unhide HVV, app_as, sn_app, sn_app (vTxt (nums v))]
              rfl
            have z1 : dd.size + vv.size ≤ 9223372036854775807 := by omega
            have z2 : dd.size + vv.size + 1 ≤ 9223372036854775807 := by omega
            clear HD hds sv hl
            go_wp2_with (go_at_call 34; refine (unhide CV _).mono ?_; rintro e w2 ⟨rfl, b2⟩)
            go_ret
            exact ⟨ret_st (unhide HE), hb.trans (b2.mono hb.size)⟩
    · by_cases hr0 : r = ⟨#[]⟩
      · have hx : extT r true = [58, 100, 110] ++ ([] ++ [58, 61]) := by
          unfold extT
          rw [if_pos rfl, if_pos hr0]
        rw [hx] at hh
        have hrl : 1 + n.size + 3 + 1 + r.size + 2 ≤ 2000000000 := by 
          have := (unhide HL).1
          rw [hh] at this
          have hrz : r.size = 0 := by rw [hr0]; rfl
          simp [nums_length] at this; omega
        have HST : Hid ((⟨#[40]⟩ ++ n ++ ⟨#[58, 100, 110]⟩ ++ ⟨#[58, 61]⟩) ++ strOfNums T = total) := by
          show _ = _
          rw [unhide HTOT, hh, List.nil_append, sn_cons 40, sn_app (nums n ++ ([58, 100, 110] ++ [58, 61])), sn_app (nums n), sn_app [58, 100, 110] [58, 61], strOfNums_nums]
          simp only [app_as]
          rfl
        have zs1 : 1 + n.size + 3 ≤ 9223372036854775807 := by omega
        have zs4 : 1 + n.size + 3 + 2 ≤ 9223372036854775807 := by omega
        clear hx hh hrl
        have hre := hr0
        subst hre
        clear hr0
        have HS := HB0
        have tS := b0
        go_enter Tryz.func20, Tryz.ntmps20
        go_wp2
        go_loopw [3, 4] (fun vo vj wr => ∃ (j : Nat) (dd : ByteArray), j ≤ kids.length ∧ vj = .int .i64 (j : Int) ∧ vo = .string dd ∧ Hid (dd ++ strOfNums (textF.L (kids.drop j) ++ (vTxt (nums v) ++ [41])) = total) ∧ Below w.heap.size w wr ∧ Hid (wr.heap[w.heap.size]? = some (.cells (cFl k n v i a1 a.length c1 f hi hf ⟨#[]⟩ true a2 kids.length c2) 27))) (fun _ j _ => kids.length - (intOf j).toNat)
        case atStart => exact ⟨0, _, Nat.zero_le _, rfl, rfl, by rw [List.drop_zero, ← unhide HTT]; exact unhide HST, tS, HS⟩
        case round =>
          obtain ⟨j, dd, hj, rfl, rfl, HD, hb, HB⟩ := hrel
          clear HST tS HS
          obtain ⟨k0, k1, k2, k3, k4, k5, k6, k7, k8, k9, k10⟩ := cells11 (unhide HB)
          obtain ⟨hl, hts⟩ := unhide HL
          have hds : dd.size + ((textF.L (kids.drop j)).length + ((vTxt (nums v)).length + 1)) ≤ 1000000000 := by
            have h1 := congrArg ByteArray.size (unhide HD)
            rw [ByteArray.size_append, sn_size, List.length_append, List.length_append] at h1
            simp only [List.length_cons, List.length_nil] at h1
            omega
          clear hts
          by_cases hlt : j < kids.length
          · have hzl : (j : Int) < (kids.length : Int) := by omega
            have hz0 : (0 : Int) ≤ (j : Int) := by omega
            obtain ⟨g, off, rfl, hq⟩ := (unhide HC).resolve_left (by omega)
            obtain ⟨x_0, x_1, x_2, x_3, x_4, x_5, x_6, x_7, x_8, x_9, x_10, q0, q1, q2, q3, q4, q5, q6, q7, q8, q9, q10, hv⟩ := hq.get j hlt
            replace q0 := (hb.cell (cell_lt q0)).trans q0
            replace q1 := (hb.cell (cell_lt q1)).trans q1
            replace q2 := (hb.cell (cell_lt q2)).trans q2
            replace q3 := (hb.cell (cell_lt q3)).trans q3
            replace q4 := (hb.cell (cell_lt q4)).trans q4
            replace q5 := (hb.cell (cell_lt q5)).trans q5
            replace q6 := (hb.cell (cell_lt q6)).trans q6
            replace q7 := (hb.cell (cell_lt q7)).trans q7
            replace q8 := (hb.cell (cell_lt q8)).trans q8
            replace q9 := (hb.cell (cell_lt q9)).trans q9
            replace q10 := (hb.cell (cell_lt q10)).trans q10
            have had := textL_drop kids j hlt
            rw [had, List.length_append] at hds
            have CI := hide (unhide HIH _ (getD_memF kids j hlt) _ wr (hv.grow hb) (unhide HAK _ (getD_memF kids j hlt)) (by omega))
            obtain ⟨tt, htt⟩ : ∃ tt, tt = strOfNums (textF (kids.getD j fl0)) := ⟨_, rfl⟩
            rw [← htt] at CI
            have st : tt.size = (textF (kids.getD j fl0)).length := by rw [htt, sn_size]
            have z1 : dd.size + tt.size ≤ 9223372036854775807 := by omega
            have HN : Hid ((dd ++ tt) ++ strOfNums (textF.L (kids.drop (j + 1)) ++ (vTxt (nums v) ++ [41])) = total) := by
              show _ = _
              rw [← unhide HD, had, htt, List.append_assoc, sn_app (textF (kids.getD j fl0)), app_as]
            clear had hds HD htt st hq hv hl sv
            go_wp2_with (go_at_call 20; refine (unhide CI).mono ?_; rintro e w2 ⟨rfl, b2⟩)
            go_roundw
            case rel => exact ⟨j + 1, _, by omega, by go_num, rfl, unhide HN, hb.trans (b2.mono hb.size), keep_blk (unhide HB) b2⟩
            case measure => simp [intOf]; omega
          · have hzl : ¬ (j : Int) < (kids.length : Int) := by omega
            have HE : Hid (dd ++ vv ++ ⟨#[41]⟩ = total) := by
              show _ = _
              rw [← unhide HD, List.drop_eq_nil_of_le (by omega), unhide HVV, app_as, sn_app, sn_app (vTxt (nums v))]
              rfl
            have z1 : dd.size + vv.size ≤ 9223372036854775807 := by omega
            have z2 : dd.size + vv.size + 1 ≤ 9223372036854775807 := by omega
            clear HD hds sv hl
            go_wp2_with (go_at_call 34; refine (unhide CV _).mono ?_; rintro e w2 ⟨rfl, b2⟩)
            go_ret
            exact ⟨ret_st (unhide HE), hb.trans (b2.mono hb.size)⟩
      · have hx : extT r true = [58, 100, 110] ++ (58 :: nums r ++ [58, 61]) := by
          unfold extT
          rw [if_pos rfl, if_neg hr0]
        rw [hx] at hh
        have hrl : 1 + n.size + 3 + 1 + r.size + 2 ≤ 2000000000 := by 
          have := (unhide HL).1
          rw [hh] at this
          simp [nums_length] at this; omega
        have HST : Hid ((⟨#[40]⟩ ++ n ++ ⟨#[58, 100, 110]⟩ ++ ⟨#[58]⟩ ++ r ++ ⟨#[58, 61]⟩) ++ strOfNums T = total) := by
          show _ = _
          rw [unhide HTOT, hh, sn_cons 40, sn_app (nums n ++ ([58, 100, 110] ++ (58 :: nums r ++ [58, 61]))), sn_app (nums n), sn_app [58, 100, 110] (58 :: nums r ++ [58, 61]), sn_app (58 :: nums r), sn_cons 58 (nums r), strOfNums_nums, strOfNums_nums]
          simp only [app_as]
          rfl
        have zs1 : 1 + n.size + 3 ≤ 9223372036854775807 := by omega
        have zs2 : 1 + n.size + 3 + 1 ≤ 9223372036854775807 := by omega
        have zs3 : 1 + n.size + 3 + 1 + r.size ≤ 9223372036854775807 := by omega
        have zs4 : 1 + n.size + 3 + 1 + r.size + 2 ≤ 9223372036854775807 := by omega
        clear hx hh hrl
        obtain ⟨re1, re2, re3⟩ := emp_no (show ¬ r = ByteArray.empty from hr0)
        clear hr0
        have HS := HB0
        have tS := b0
        go_enter Tryz.func20, Tryz.ntmps20
        go_wp2
        go_loopw [3, 4] (fun vo vj wr => ∃ (j : Nat) (dd : ByteArray), j ≤ kids.length ∧ vj = .int .i64 (j : Int) ∧ vo = .string dd ∧ Hid (dd ++ strOfNums (textF.L (kids.drop j) ++ (vTxt (nums v) ++ [41])) = total) ∧ Below w.heap.size w wr ∧ Hid (wr.heap[w.heap.size]? = some (.cells (cFl k n v i a1 a.length c1 f hi hf r true a2 kids.length c2) 27))) (fun _ j _ => kids.length - (intOf j).toNat)
        case atStart => exact ⟨0, _, Nat.zero_le _, rfl, rfl, by rw [List.drop_zero, ← unhide HTT]; exact unhide HST, tS, HS⟩
        case round =>
          obtain ⟨j, dd, hj, rfl, rfl, HD, hb, HB⟩ := hrel
          clear HST tS HS
          obtain ⟨k0, k1, k2, k3, k4, k5, k6, k7, k8, k9, k10⟩ := cells11 (unhide HB)
          obtain ⟨hl, hts⟩ := unhide HL
          have hds : dd.size + ((textF.L (kids.drop j)).length + ((vTxt (nums v)).length + 1)) ≤ 1000000000 := by
            have h1 := congrArg ByteArray.size (unhide HD)
            rw [ByteArray.size_append, sn_size, List.length_append, List.length_append] at h1
            simp only [List.length_cons, List.length_nil] at h1
            omega
          clear hts
          by_cases hlt : j < kids.length
          · have hzl : (j : Int) < (kids.length : Int) := by omega
            have hz0 : (0 : Int) ≤ (j : Int) := by omega
            obtain ⟨g, off, rfl, hq⟩ := (unhide HC).resolve_left (by omega)
            obtain ⟨x_0, x_1, x_2, x_3, x_4, x_5, x_6, x_7, x_8, x_9, x_10, q0, q1, q2, q3, q4, q5, q6, q7, q8, q9, q10, hv⟩ := hq.get j hlt
            replace q0 := (hb.cell (cell_lt q0)).trans q0
            replace q1 := (hb.cell (cell_lt q1)).trans q1
            replace q2 := (hb.cell (cell_lt q2)).trans q2
            replace q3 := (hb.cell (cell_lt q3)).trans q3
            replace q4 := (hb.cell (cell_lt q4)).trans q4
            replace q5 := (hb.cell (cell_lt q5)).trans q5
            replace q6 := (hb.cell (cell_lt q6)).trans q6
            replace q7 := (hb.cell (cell_lt q7)).trans q7
            replace q8 := (hb.cell (cell_lt q8)).trans q8
            replace q9 := (hb.cell (cell_lt q9)).trans q9
            replace q10 := (hb.cell (cell_lt q10)).trans q10
            have had := textL_drop kids j hlt
            rw [had, List.length_append] at hds
            have CI := hide (unhide HIH _ (getD_memF kids j hlt) _ wr (hv.grow hb) (unhide HAK _ (getD_memF kids j hlt)) (by omega))
            obtain ⟨tt, htt⟩ : ∃ tt, tt = strOfNums (textF (kids.getD j fl0)) := ⟨_, rfl⟩
            rw [← htt] at CI
            have st : tt.size = (textF (kids.getD j fl0)).length := by rw [htt, sn_size]
            have z1 : dd.size + tt.size ≤ 9223372036854775807 := by omega
            have HN : Hid ((dd ++ tt) ++ strOfNums (textF.L (kids.drop (j + 1)) ++ (vTxt (nums v) ++ [41])) = total) := by
              show _ = _
              rw [← unhide HD, had, htt, List.append_assoc, sn_app (textF (kids.getD j fl0)), app_as]
            clear had hds HD htt st hq hv hl sv
            go_wp2_with (go_at_call 20; refine (unhide CI).mono ?_; rintro e w2 ⟨rfl, b2⟩)
            go_roundw
            case rel => exact ⟨j + 1, _, by omega, by go_num, rfl, unhide HN, hb.trans (b2.mono hb.size), keep_blk (unhide HB) b2⟩
            case measure => simp [intOf]; omega
          · have hzl : ¬ (j : Int) < (kids.length : Int) := by omega
            have HE : Hid (dd ++ vv ++ ⟨#[41]⟩ = total) := by
              show _ = _
              rw [← unhide HD, List.drop_eq_nil_of_le (by omega), unhide HVV, app_as, sn_app, sn_app (vTxt (nums v))]
              rfl
            have z1 : dd.size + vv.size ≤ 9223372036854775807 := by omega
            have z2 : dd.size + vv.size + 1 ≤ 9223372036854775807 := by omega
            clear HD hds sv hl
            go_wp2_with (go_at_call 34; refine (unhide CV _).mono ?_; rintro e w2 ⟨rfl, b2⟩)
            go_ret
            exact ⟨ret_st (unhide HE), hb.trans (b2.mono hb.size)⟩
end Go.Proofs.YthbldkkjjjmegaaGreatDoor
