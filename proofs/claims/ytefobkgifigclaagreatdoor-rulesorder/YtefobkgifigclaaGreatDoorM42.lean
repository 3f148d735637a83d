/- The landed escaped of layer 22: bytes 0, 1 and 2 of a key are two. -/
import Derived.Test.YtefobkgifigclaaGreatDoorM31
import Derived.Test.YtefobkgifigclaaGreatDoorM01
import Derived.Lib.Strings
namespace Go.Proofs.YtefobkgifigclaaGreatDoor
set_option maxRecDepth 100000
open Go.RowKit

/-- What stands for a byte of a key. -/
def escC (c : Int) : List Int := if 2 < c then [c] else [1, c + 3]
def escI : List Int → List Int
  | [] => []
  | c :: l => escC c ++ escI l
theorem escI_app : ∀ a b : List Int, escI (a ++ b) = escI a ++ escI b
  | [], b => rfl
  | c :: a, b => by rw [List.cons_append, escI, escI, escI_app a b, List.append_assoc]
theorem escC_len (c : Int) : (escC c).length ≤ 2 := by unfold escC; split <;> simp
theorem escI_len : ∀ l : List Int, (escI l).length ≤ 2 * l.length
  | [] => by simp [escI]
  | c :: l => by
    have h1 := escI_len l
    have h2 := escC_len c
    rw [escI, List.length_append, List.length_cons]
    omega
theorem escI_step {l : List Int} {k : Nat} (h : k < l.length) : escI (l.take (k + 1)) = escI (l.take k) ++ escC (l.getD k 0) := by
  have e : l.take (k + 1) = l.take k ++ [l.getD k 0] := by
    rw [List.take_add_one]
    simp [List.getD, h]
  rw [e, escI_app]
  simp [escI]
theorem keep22 {B : Nat} {v : Value} {X Y Z : List Int} {w : World} (h1 : X = Y) (h2 : Y = Z) (h : S18.Ob B v X w) : S18.Ob B v Z w := by rw [← h2, ← h1]; exact h
theorem ret_st' {a b : ByteArray} (h : a = b) : Ending.returned (.string a) = .returned (.string b) := by rw [h]
set_option maxHeartbeats 3200000 in
theorem escaped22 (s : ByteArray) (w : World) (hs : s.size ≤ 100000) : Calls Tryz.prog 64 #[.string s] w fun e w' => e = .returned (.string (strOfNums (escI (S18.nums s)))) ∧ Below w.heap.size w w' := by
  obtain ⟨i0, hi, hz0, hz1, hz2⟩ := info_parts S18.u8_info
  have hnl := S18.nums_length s
  have zl63 : (s.size : Int) ≤ 9223372036854775807 := by omega
  go_enter Tryz.func64, Tryz.ntmps64
  go_wp2
  go_loopw [3, 7] (fun v i wr => ∃ k : Nat, k ≤ s.size ∧ i = .int .i64 (k : Int) ∧ Hid (S18.Ob w.heap.size v (escI ((S18.nums s).take k)) wr) ∧ Below w.heap.size w wr) (fun _ i _ => s.size - (intOf i).toNat)
  case atStart => exact ⟨0, Nat.zero_le _, rfl, ⟨rfl, .inl ⟨rfl, rfl⟩⟩, Below.refl _ _⟩
  case round =>
    obtain ⟨k, hk, rfl, HO, hb⟩ := hrel
    have hsz := hb.size
    by_cases hlt : k < s.size
    · have hzl : (k : Int) < (s.size : Int) := by omega
      have zk0 : (0 : Int) ≤ (k : Int) := by omega
      obtain ⟨c, hc⟩ : ∃ c : Int, (s[k].toNat : Int) = c := ⟨_, rfl⟩
      have hcn : (S18.nums s).getD k 0 = c := by rw [S18.nums_at s k hlt]; exact hc
      have HP := hide (escI_step (l := S18.nums s) (k := k) (by rw [hnl]; exact hlt))
      have hlen := escI_len ((S18.nums s).take k)
      have htk : ((S18.nums s).take k).length ≤ k := by rw [List.length_take]; omega
      have hc0 : 0 ≤ c := by rw [← hc]; omega
      rw [hcn] at HP
      obtain ⟨Y, hY⟩ : ∃ Y, Y = escI ((S18.nums s).take (k + 1)) := ⟨_, rfl⟩
      rw [← hY] at HP
      have HY := hide hY
      clear hY
      generalize escI ((S18.nums s).take k) = X at *
      obtain ⟨N, hN⟩ : ∃ N, N = X.length := ⟨_, rfl⟩
      have HN := hide hN
      have hm1 : N + 1 ≤ maxLen := by unfold maxLen; omega
      have hm2 : (N + 1) * 1 ≤ 140737488355328 := by omega
      have hm3 : N + 2 ≤ maxLen := by unfold maxLen; omega
      have hm4 : (N + 2) * 1 ≤ 140737488355328 := by omega
      clear hcn hnl hlen htk hN
      by_cases h2 : 2 < c
      · have HE : Hid (X ++ [c] = Y) := by show _ = _; rw [unhide HP]; unfold escC; rw [if_pos h2]
        clear HP hm3 hm4 hc0
        go_wp2_with (at_builtin; refine wpList_append_lies _ rfl _ _ 84 rfl w.heap.size 5 i0 _ 1 1 Tryz.underlying84 hi hz0 hz1 hz2 rfl (by omega) _ N _ rfl (World.ownsRow.alloc (S18.Ob.own (unhide HN) (unhide HO)) _) ⟨wr.heap.size, 0, none⟩ 1 1 [.int .u8 c] rfl rfl (World.news_of_block (cs := #[.int .u8 c]) (t := 5) (fr := (0, 0)) (heap_new wr _)) (by simp [Value.oneCell']) (by omega) hm1 hm2 (by simp; omega) (wr.heap.size + 1) (by simp) ?_; intro g9 cap9 w9 hown9 hgrow9 hat9 hlt9)
        go_roundw
        case rel => exact ⟨k + 1, by omega, by go_num, keep22 (unhide HE) (unhide HY) (S18.Ob.push (unhide HN) (Z := [c]) rfl hown9), hb.trans (below_own (S18.grown_new hgrow9) hsz (own_block (S18.Ob.own (unhide HN) (unhide HO))))⟩
        case measure => simp [intOf]; omega
      · have HE : Hid (X ++ [1, c + 3] = Y) := by show _ = _; rw [unhide HP]; unfold escC; rw [if_neg h2]
        have hcc : c = 0 ∨ c = 1 ∨ c = 2 := by omega
        clear HP hm1 hm2 hc0 h2
        rcases hcc with rfl | rfl | rfl
        · go_wp2_with (at_builtin; refine wpList_append_lies _ rfl _ _ 84 rfl w.heap.size 5 i0 _ 1 1 Tryz.underlying84 hi hz0 hz1 hz2 rfl (by omega) _ N _ rfl (World.ownsRow.alloc (S18.Ob.own (unhide HN) (unhide HO)) _) ⟨wr.heap.size, 0, none⟩ 2 2 [.int .u8 1, .int .u8 3] rfl rfl (World.news_of_block (cs := #[.int .u8 1, .int .u8 3]) (t := 5) (fr := (0, 0)) (heap_new wr _)) (by simp [Value.oneCell']) (by omega) hm3 hm4 (by simp; omega) (wr.heap.size + 1) (by simp) ?_; intro g9 cap9 w9 hown9 hgrow9 hat9 hlt9)
          go_roundw
          case rel => exact ⟨k + 1, by omega, by go_num, keep22 (unhide HE) (unhide HY) (S18.Ob.push (unhide HN) (Z := [1, 3]) rfl hown9), hb.trans (below_own (S18.grown_new hgrow9) hsz (own_block (S18.Ob.own (unhide HN) (unhide HO))))⟩
          case measure => simp [intOf]; omega
        · go_wp2_with (at_builtin; refine wpList_append_lies _ rfl _ _ 84 rfl w.heap.size 5 i0 _ 1 1 Tryz.underlying84 hi hz0 hz1 hz2 rfl (by omega) _ N _ rfl (World.ownsRow.alloc (S18.Ob.own (unhide HN) (unhide HO)) _) ⟨wr.heap.size, 0, none⟩ 2 2 [.int .u8 1, .int .u8 4] rfl rfl (World.news_of_block (cs := #[.int .u8 1, .int .u8 4]) (t := 5) (fr := (0, 0)) (heap_new wr _)) (by simp [Value.oneCell']) (by omega) hm3 hm4 (by simp; omega) (wr.heap.size + 1) (by simp) ?_; intro g9 cap9 w9 hown9 hgrow9 hat9 hlt9)
          go_roundw
          case rel => exact ⟨k + 1, by omega, by go_num, keep22 (unhide HE) (unhide HY) (S18.Ob.push (unhide HN) (Z := [1, 4]) rfl hown9), hb.trans (below_own (S18.grown_new hgrow9) hsz (own_block (S18.Ob.own (unhide HN) (unhide HO))))⟩
          case measure => simp [intOf]; omega
        · go_wp2_with (at_builtin; refine wpList_append_lies _ rfl _ _ 84 rfl w.heap.size 5 i0 _ 1 1 Tryz.underlying84 hi hz0 hz1 hz2 rfl (by omega) _ N _ rfl (World.ownsRow.alloc (S18.Ob.own (unhide HN) (unhide HO)) _) ⟨wr.heap.size, 0, none⟩ 2 2 [.int .u8 1, .int .u8 5] rfl rfl (World.news_of_block (cs := #[.int .u8 1, .int .u8 5]) (t := 5) (fr := (0, 0)) (heap_new wr _)) (by simp [Value.oneCell']) (by omega) hm3 hm4 (by simp; omega) (wr.heap.size + 1) (by simp) ?_; intro g9 cap9 w9 hown9 hgrow9 hat9 hlt9)
          go_roundw
          case rel => exact ⟨k + 1, by omega, by go_num, keep22 (unhide HE) (unhide HY) (S18.Ob.push (unhide HN) (Z := [1, 5]) rfl hown9), hb.trans (below_own (S18.grown_new hgrow9) hsz (own_block (S18.Ob.own (unhide HN) (unhide HO))))⟩
          case measure => simp [intOf]; omega
    · have hzl : ¬ (k : Int) < (s.size : Int) := by omega
      obtain rfl : k = s.size := by omega
      have he : (S18.nums s).take s.size = S18.nums s := by rw [List.take_of_length_le (by rw [hnl]; omega)]
      rw [he] at HO
      have cv := (unhide HO).conv
      obtain ⟨X, hX⟩ : ∃ X, X = escI (S18.nums s) := ⟨_, rfl⟩
      rw [← hX] at cv
      have HX := hide hX
      clear he hnl hX
      go_wp2
      go_ret
      exact ⟨ret_st' (by rw [unhide HX]), hb⟩
end Go.Proofs.YtefobkgifigclaaGreatDoor
