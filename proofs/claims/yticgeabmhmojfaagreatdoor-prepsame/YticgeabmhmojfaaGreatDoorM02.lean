/- decomp.pairs, ahead, Pair: of numbers for which no search of theirs gives up. -/
import Derived.Test.YticgeabmhmojfaaGreatDoorM01
import Derived.Lib.OthersKept
import Derived.Laws.RangeAny
import Derived.Deep.AppendLies
import Derived.Laws.OwnMore
import Derived.Test.YticgeabmhmojfaaGreatDoorProg
import Derived.WalkKit
import Derived.WalkSpells
import Derived.WalkLawsBesides
namespace Go.Proofs.YticgeabmhmojfaaGreatDoor
set_option maxRecDepth 100000
open Go.RowKit

def txt0 : ByteArray := ⟨([65, 195, 128, 69, 195, 136, 73, 195, 140, 79, 195, 146, 85, 195, 153, 97, 195, 160, 101, 195, 168, 105, 195, 172, 111, 195, 178, 117, 195, 185] : List UInt8).toArray⟩
def txt1 : ByteArray := ⟨([65, 195, 129, 69, 195, 137, 73, 195, 141, 79, 195, 147, 85, 195, 154, 89, 195, 157, 97, 195, 161, 101, 195, 169, 105, 195, 173, 111, 195, 179] ++ [117, 195, 186, 121, 195, 189, 67, 196, 134, 99, 196, 135, 76, 196, 185, 108, 196, 186, 78, 197, 131, 110, 197, 132, 82, 197, 148, 114, 197, 149] ++ [83, 197, 154, 115, 197, 155, 90, 197, 185, 122, 197, 186, 206, 145, 206, 134, 206, 149, 206, 136, 206, 151, 206, 137, 206, 153, 206, 138, 206, 159] ++ [206, 140, 206, 165, 206, 142, 206, 169, 206, 143, 206, 177, 206, 172, 206, 181, 206, 173, 206, 183, 206, 174, 206, 185, 206, 175, 206, 191, 207, 140] ++ [207, 133, 207, 141, 207, 137, 207, 142, 207, 138, 206, 144, 207, 139, 206, 176] : List UInt8).toArray⟩
def txt2 : ByteArray := ⟨([65, 195, 130, 69, 195, 138, 73, 195, 142, 79, 195, 148, 85, 195, 155, 97, 195, 162, 101, 195, 170, 105, 195, 174, 111, 195, 180, 117, 195, 187] ++ [67, 196, 136, 99, 196, 137, 71, 196, 156, 103, 196, 157, 72, 196, 164, 104, 196, 165, 74, 196, 180, 106, 196, 181, 83, 197, 156, 115, 197, 157] ++ [87, 197, 180, 119, 197, 181, 89, 197, 182, 121, 197, 183] : List UInt8).toArray⟩
def txt3 : ByteArray := ⟨([65, 195, 131, 78, 195, 145, 79, 195, 149, 97, 195, 163, 110, 195, 177, 111, 195, 181, 73, 196, 168, 105, 196, 169, 85, 197, 168, 117, 197, 169] : List UInt8).toArray⟩
def txt4 : ByteArray := ⟨([65, 196, 128, 97, 196, 129, 69, 196, 146, 101, 196, 147, 73, 196, 170, 105, 196, 171, 79, 197, 140, 111, 197, 141, 85, 197, 170, 117, 197, 171] : List UInt8).toArray⟩
def txt5 : ByteArray := ⟨([65, 196, 130, 97, 196, 131, 69, 196, 148, 101, 196, 149, 71, 196, 158, 103, 196, 159, 73, 196, 172, 105, 196, 173, 79, 197, 142, 111, 197, 143] ++ [85, 197, 172, 117, 197, 173, 208, 152, 208, 153, 208, 184, 208, 185] : List UInt8).toArray⟩
def txt6 : ByteArray := ⟨([67, 196, 138, 99, 196, 139, 69, 196, 150, 101, 196, 151, 71, 196, 160, 103, 196, 161, 73, 196, 176, 90, 197, 187, 122, 197, 188] : List UInt8).toArray⟩
def txt7 : ByteArray := ⟨([65, 195, 132, 69, 195, 139, 73, 195, 143, 79, 195, 150, 85, 195, 156, 97, 195, 164, 101, 195, 171, 105, 195, 175, 111, 195, 182, 117, 195, 188] ++ [121, 195, 191, 89, 197, 184, 206, 153, 206, 170, 206, 165, 206, 171, 206, 185, 207, 138, 207, 133, 207, 139, 208, 149, 208, 129, 208, 181, 209, 145] : List UInt8).toArray⟩
def txt8 : ByteArray := ⟨([65, 195, 133, 97, 195, 165, 85, 197, 174, 117, 197, 175] : List UInt8).toArray⟩
def txt9 : ByteArray := ⟨([79, 197, 144, 111, 197, 145, 85, 197, 176, 117, 197, 177] : List UInt8).toArray⟩
def txt10 : ByteArray := ⟨([67, 196, 140, 99, 196, 141, 68, 196, 142, 100, 196, 143, 69, 196, 154, 101, 196, 155, 76, 196, 189, 108, 196, 190, 78, 197, 135, 110, 197, 136] ++ [82, 197, 152, 114, 197, 153, 83, 197, 160, 115, 197, 161, 84, 197, 164, 116, 197, 165, 90, 197, 189, 122, 197, 190] : List UInt8).toArray⟩
def txt11 : ByteArray := ⟨([67, 195, 135, 99, 195, 167, 71, 196, 162, 103, 196, 163, 75, 196, 182, 107, 196, 183, 76, 196, 187, 108, 196, 188, 78, 197, 133, 110, 197, 134] ++ [82, 197, 150, 114, 197, 151, 83, 197, 158, 115, 197, 159, 84, 197, 162, 116, 197, 163] : List UInt8).toArray⟩
def txt12 : ByteArray := ⟨([65, 196, 132, 97, 196, 133, 69, 196, 152, 101, 196, 153, 73, 196, 174, 105, 196, 175, 85, 197, 178, 117, 197, 179] : List UInt8).toArray⟩
def txt13 : ByteArray := ⟨([227, 129, 139, 227, 129, 140, 227, 129, 141, 227, 129, 142, 227, 129, 143, 227, 129, 144, 227, 129, 145, 227, 129, 146, 227, 129, 147, 227, 129, 148] ++ [227, 129, 149, 227, 129, 150, 227, 129, 151, 227, 129, 152, 227, 129, 153, 227, 129, 154, 227, 129, 155, 227, 129, 156, 227, 129, 157, 227, 129, 158] ++ [227, 129, 159, 227, 129, 160, 227, 129, 161, 227, 129, 162, 227, 129, 164, 227, 129, 165, 227, 129, 166, 227, 129, 167, 227, 129, 168, 227, 129, 169] ++ [227, 129, 175, 227, 129, 176, 227, 129, 178, 227, 129, 179, 227, 129, 181, 227, 129, 182, 227, 129, 184, 227, 129, 185, 227, 129, 187, 227, 129, 188] ++ [227, 129, 134, 227, 130, 148] : List UInt8).toArray⟩
def txt14 : ByteArray := ⟨([227, 129, 175, 227, 129, 177, 227, 129, 178, 227, 129, 180, 227, 129, 181, 227, 129, 183, 227, 129, 184, 227, 129, 186, 227, 129, 187, 227, 129, 189] : List UInt8).toArray⟩
/-- The rows of the pairs: a mark, and letters. -/
def rows12 : List (Int × ByteArray) := [(768, txt0), (769, txt1), (770, txt2), (771, txt3), (772, txt4), (774, txt5), (775, txt6), (776, txt7), (778, txt8), (779, txt9), (780, txt10), (807, txt11), (808, txt12), (12441, txt13), (12442, txt14)]
def row0 : Int × ByteArray := (0, ByteArray.empty)
def cells12 : Array Value := (rows12.flatMap fun p => [.int .i32 p.1, .string p.2]).toArray
def zeros12 : Array Value := ((List.replicate 15 row0).flatMap fun p => [.int .i32 p.1, .string p.2]).toArray
def aggs12 : List Value := rows12.map fun p => .agg #[.int .i32 p.1, .string p.2]
def frame12 (p : Value) : Act := { tmps := (p :: (aggs12 ++ [.agg cells12])).toArray, defers := [] }
theorem rows12_len : rows12.length = 15 := rfl
theorem rows12_le : (rows12.all fun p => decide (p.2.size ≤ 1000)) = true := by kernel_rfl
theorem rows12_get (n : Nat) (h : n < 15) : (rows12.getD n row0).2.size ≤ 1000 := by
  have hm : rows12.getD n row0 ∈ rows12 := by
    have h2 : n < rows12.length := h
    simp [List.getD, h2]
  simpa using List.all_eq_true.1 rows12_le _ hm

set_option maxRecDepth 1000000 in
set_option maxHeartbeats 4000000 in
theorem pairs_gr (w : World) : Calls Tryz.prog 74 #[] w fun e w' => e = .returned (.agg cells12) ∧ Gr w w' := by
  go_enter Tryz.func74, Tryz.ntmps74
  apply wp_seq_k; intro K0 hK0
  apply wp_region_lit
  refine Great.wpList_allocTo rfl (some 0) rfl (.pointer (some ⟨w.heap.size, 0, none⟩)) (.cells zeros12 101) (by kernel_rfl) ?_
  apply wpList_nil
  refine hK0 _ _ ?_
  clear hK0 K0
  apply wp_seq_k; intro K0 hK0
  apply wp_region_lit
  refine wpList_buildsN 16 (frame12 (.pointer (some ⟨w.heap.size, 0, none⟩))) _ (by kernel_rfl) rfl ?_
  simp only [List.append_eq, List.cons_append, List.nil_append, List.drop_succ_cons, List.drop_zero]
  refine wpList_store_rowTo rfl 101 (.tmp 0) (.tmp 16) rfl rfl w.heap.size cells12 (by kernel_rfl) (by kernel_rfl) 101 zeros12 (heap_alloc_last w _) (by kernel_rfl) (by kernel_rfl) (by kernel_rfl) ?_
  apply wpList_nil
  refine hK0 _ _ ?_
  clear hK0 K0
  rw [World.setRow_alloc_new]
  refine wp_ret ?_
  refine bodyPost_ret (results_cell_row (p := 0) (ty := 101) Tryz.results74 _ _ w.heap.size 101 cells12 (0, 0) _ (by kernel_rfl) (heap_alloc_last w _) Tryz.underlying101 rfl (by kernel_rfl)) rfl ⟨rfl, Gr.one _ _⟩

/-- Which letter stands ahead of r, plainly: none where none does. -/
def ahF (s : ByteArray) (r : Int) : Nat → Nat → Int → Option Int
  | 0, _, _ => none
  | n + 1, p, a =>
    if p < s.size then
      if a = 0 then ahF s r n (p + (Utf8.decode s p).2) (Utf8.decode s p).1
      else if ((Utf8.decode s p).1 : Int) = r then some a
      else ahF s r n (p + (Utf8.decode s p).2) 0
    else none
theorem dec_pos (s : ByteArray) (p : Nat) (h : p < s.size) : 1 ≤ (Utf8.decode s p).2 := by
  by_cases ha : (s[p]'h).toNat < 128
  · rw [decode_ascii s p h ha]
    exact Nat.le_refl _
  · exact (decode_high s p h (by omega)).2
theorem iterPos_at {w : World} {k : Nat} {s : ByteArray} {p : Nat} (h : w.heap[k]? = some (.stringIter s p)) : w.iterPos k = p := by
  unfold World.iterPos; rw [h]

theorem ret_rb12 {a a' : Int} {b b' : Bool} (h : a = a') (h' : b = b') : Ending.returned (.tuple #[.int .i32 a, .bool b]) = .returned (.tuple #[.int .i32 a', .bool b']) := by rw [h, h']
set_option maxHeartbeats 1000000 in
theorem ahead_no (s : ByteArray) (r R : Int) (w : World) (h0 : 128 ≤ r) (h1 : r ≤ 2047) (hs : s.size ≤ 1000) (hR : ixF s.data.toList (two1 r) (two2 r) 1000 1 0 = some R) (hn : R < 0) :
    Calls Tryz.prog 75 #[.string s, .int .i32 r] w fun e w' => e = .returned (.tuple #[.int .i32 0, .bool false]) ∧ Below w.heap.size w w' := by
  have H := ctr_any s r R w h0 h1 hs hR
  rw [show decide (R ≥ 0) = false by simp; omega] at H
  have HC := hide H
  clear H hR
  go_enter Tryz.func75, Tryz.ntmps75
  go_wp2_with (go_at_call 81; refine (unhide HC).mono ?_; rintro e w1 ⟨rfl, g1⟩)
  go_ret2
  exact ⟨rfl, g1.below⟩
set_option maxHeartbeats 2000000 in
theorem ahead_yes (s : ByteArray) (r R L : Int) (w : World) (h0 : 128 ≤ r) (h1 : r ≤ 2047) (hs : s.size ≤ 1000) (hR : ixF s.data.toList (two1 r) (two2 r) 1000 1 0 = some R) (hn : 0 ≤ R) (hL : ahF s r 1001 0 0 = some L) :
    Calls Tryz.prog 75 #[.string s, .int .i32 r] w fun e w' => e = .returned (.tuple #[.int .i32 L, .bool true]) ∧ Below w.heap.size w w' := by
  have H := ctr_any s r R w h0 h1 hs hR
  rw [show decide (R ≥ 0) = true by simp; omega] at H
  have HC := hide H
  have HL := hide hL
  clear H hR hL
  go_enter Tryz.func75, Tryz.ntmps75
  go_wp2_with (go_at_call 81; refine (unhide HC).mono ?_; rintro e w1 ⟨rfl, g1⟩; have hb1 := g1.below; have hs1 := hb1.size; clear g1)
  go_loopw [6] (fun v wr => ∃ (p n : Nat) (a : Int), v = .int .i32 a ∧ wr.heap[w1.heap.size]? = some (.stringIter s p) ∧ Hid (ahF s r n p a = some L) ∧ Below w.heap.size w wr) (fun _ wr => 1001 - wr.iterPos w1.heap.size)
  case atStart => exact ⟨0, 1001, 0, rfl, World.iter_heap w1 s 0, HL, hb1.alloc hs1 _⟩
  case round =>
    clear HL
    obtain ⟨p, n, a, rfl, hit, HA, hb⟩ := hrel
    obtain ⟨n, rfl⟩ : ∃ k, n = k + 1 := by cases n with
      | zero => cases unhide HA
      | succ n => exact ⟨n, rfl⟩
    have hpos0 := iterPos_at hit
    by_cases hp : p < s.size
    · have hnx : ∀ ty, (Instr.next (.pointer (some ⟨w1.heap.size, 0, none⟩)) true ty).run Tryz.prog wr = _ := fun ty => Lib.run_next_any_at wr w1.heap.size s p ty hit hp
      have hwd := dec_pos s p hp
      have hit2 := Lib.iterAt_heap wr w1.heap.size s p (p + (Utf8.decode s p).2) hit
      have hb2 := Lib.below_iterAt hb (k := w1.heap.size) hs1 s (p + (Utf8.decode s p).2)
      have hA := unhide HA
      rw [ahF, if_pos hp] at hA
      have HA2 := hide hA
      clear hA HA
      generalize (Utf8.decode s p).1 = x at *
      generalize (Utf8.decode s p).2 = d at *
      obtain ⟨W1, hW1⟩ : ∃ W1, W1 = wr.iterAt w1.heap.size s (p + d) := ⟨_, rfl⟩
      rw [← hW1] at hnx hit2 hb2
      have HIT := hide hit2
      have hpos1 := iterPos_at hit2
      clear hit2 hW1 hit
      by_cases ha : a = 0
      · have HN : Hid (ahF s r n (p + d) (x : Int) = some L) := by have := unhide HA2; rw [if_pos ha] at this; exact this
        subst ha
        clear HA2
        go_wp2
        go_roundw
        case rel => exact ⟨_, _, _, rfl, unhide HIT, HN, hb2⟩
        case measure => rw [hpos1, hpos0]; omega
      · have haz : (a == 0) = false := by simpa using ha
        by_cases hx : (x : Int) = r
        · have HN : Hid (a = L) := by have := unhide HA2; rw [if_neg ha, if_pos hx] at this; exact Option.some.inj this
          have hxz : ((x : Int) == r) = true := by simpa using hx
          clear HA2 hx
          go_wp2
          go_ret2
          exact ⟨ret_rb12 (unhide HN) rfl, hb2⟩
        · have HN : Hid (ahF s r n (p + d) 0 = some L) := by have := unhide HA2; rw [if_neg ha, if_neg hx] at this; exact this
          have hxz : ((x : Int) == r) = false := by simpa using hx
          clear HA2 hx
          go_wp2
          go_roundw
          case rel => exact ⟨_, _, _, rfl, unhide HIT, HN, hb2⟩
          case measure => rw [hpos1, hpos0]; omega
    · have := unhide HA
      rw [ahF, if_neg hp] at this
      cases this

theorem idx12_0 (W : World) : (Instr.index 101 (.agg cells12) (.int .i64 0)).run Tryz.prog W = .ok (.agg #[.int .i32 768, .string txt0]) W := by kernel_rfl
theorem idx12_1 (W : World) : (Instr.index 101 (.agg cells12) (.int .i64 1)).run Tryz.prog W = .ok (.agg #[.int .i32 769, .string txt1]) W := by kernel_rfl
theorem idx12_2 (W : World) : (Instr.index 101 (.agg cells12) (.int .i64 2)).run Tryz.prog W = .ok (.agg #[.int .i32 770, .string txt2]) W := by kernel_rfl
theorem idx12_3 (W : World) : (Instr.index 101 (.agg cells12) (.int .i64 3)).run Tryz.prog W = .ok (.agg #[.int .i32 771, .string txt3]) W := by kernel_rfl
theorem idx12_4 (W : World) : (Instr.index 101 (.agg cells12) (.int .i64 4)).run Tryz.prog W = .ok (.agg #[.int .i32 772, .string txt4]) W := by kernel_rfl
theorem idx12_5 (W : World) : (Instr.index 101 (.agg cells12) (.int .i64 5)).run Tryz.prog W = .ok (.agg #[.int .i32 774, .string txt5]) W := by kernel_rfl
theorem idx12_6 (W : World) : (Instr.index 101 (.agg cells12) (.int .i64 6)).run Tryz.prog W = .ok (.agg #[.int .i32 775, .string txt6]) W := by kernel_rfl
theorem idx12_7 (W : World) : (Instr.index 101 (.agg cells12) (.int .i64 7)).run Tryz.prog W = .ok (.agg #[.int .i32 776, .string txt7]) W := by kernel_rfl
theorem idx12_8 (W : World) : (Instr.index 101 (.agg cells12) (.int .i64 8)).run Tryz.prog W = .ok (.agg #[.int .i32 778, .string txt8]) W := by kernel_rfl
theorem idx12_9 (W : World) : (Instr.index 101 (.agg cells12) (.int .i64 9)).run Tryz.prog W = .ok (.agg #[.int .i32 779, .string txt9]) W := by kernel_rfl
theorem idx12_10 (W : World) : (Instr.index 101 (.agg cells12) (.int .i64 10)).run Tryz.prog W = .ok (.agg #[.int .i32 780, .string txt10]) W := by kernel_rfl
theorem idx12_11 (W : World) : (Instr.index 101 (.agg cells12) (.int .i64 11)).run Tryz.prog W = .ok (.agg #[.int .i32 807, .string txt11]) W := by kernel_rfl
theorem idx12_12 (W : World) : (Instr.index 101 (.agg cells12) (.int .i64 12)).run Tryz.prog W = .ok (.agg #[.int .i32 808, .string txt12]) W := by kernel_rfl
theorem idx12_13 (W : World) : (Instr.index 101 (.agg cells12) (.int .i64 13)).run Tryz.prog W = .ok (.agg #[.int .i32 12441, .string txt13]) W := by kernel_rfl
theorem idx12_14 (W : World) : (Instr.index 101 (.agg cells12) (.int .i64 14)).run Tryz.prog W = .ok (.agg #[.int .i32 12442, .string txt14]) W := by kernel_rfl
theorem idx12 (n : Nat) (h : n < 15) (W : World) : (Instr.index 101 (.agg cells12) (.int .i64 (n : Int))).run Tryz.prog W = .ok (.agg #[.int .i32 (rows12.getD n row0).1, .string (rows12.getD n row0).2]) W := by
  have hn : n = 0 ∨ n = 1 ∨ n = 2 ∨ n = 3 ∨ n = 4 ∨ n = 5 ∨ n = 6 ∨ n = 7 ∨ n = 8 ∨ n = 9 ∨ n = 10 ∨ n = 11 ∨ n = 12 ∨ n = 13 ∨ n = 14 := by omega
  clear h
  rcases hn with rfl | rfl | rfl | rfl | rfl | rfl | rfl | rfl | rfl | rfl | rfl | rfl | rfl | rfl | rfl
  · exact idx12_0 W
  · exact idx12_1 W
  · exact idx12_2 W
  · exact idx12_3 W
  · exact idx12_4 W
  · exact idx12_5 W
  · exact idx12_6 W
  · exact idx12_7 W
  · exact idx12_8 W
  · exact idx12_9 W
  · exact idx12_10 W
  · exact idx12_11 W
  · exact idx12_12 W
  · exact idx12_13 W
  · exact idx12_14 W

/-- What decomp.Pair tells, plainly: none where a search would give up. -/
def prL (r : Int) : List (Int × ByteArray) → Option (Int × Int × Bool)
  | [] => some (0, 0, false)
  | p :: l =>
    match ixF p.2.data.toList (two1 r) (two2 r) 1000 1 0 with
    | none => none
    | some R => if R < 0 then prL r l else
      match ahF p.2 r 1001 0 0 with
      | none => none
      | some a => some (a, p.1, true)
theorem drop_getD12 {α : Type} (l : List α) (d : α) (n : Nat) (h : n < l.length) : l.drop n = l.getD n d :: l.drop (n + 1) := by
  rw [List.drop_eq_getElem_cons h]; simp [List.getD, h]
theorem ret_iib {a a' m m' : Int} {b b' : Bool} (h1 : a = a') (h2 : m = m') (h3 : b = b') : Ending.returned (.tuple #[.int .i32 a, .int .i32 m, .bool b]) = .returned (.tuple #[.int .i32 a', .int .i32 m', .bool b']) := by rw [h1, h2, h3]

set_option maxHeartbeats 1000000 in
theorem pair_out (r : Int) (w : World) (h : r < 192 ∨ 12436 < r) : Calls Tryz.prog 59 #[.int .i32 r] w fun e w' => e = .returned (.tuple #[.int .i32 0, .int .i32 0, .bool false]) ∧ Below w.heap.size w w' := by
  by_cases h1 : r < 192
  · have z1 : decide (r < 192) = true := by simpa using h1
    go_enter Tryz.func59, Tryz.ntmps59
    go_wp2
    go_ret3
    exact ⟨rfl, Below.refl _ _⟩
  · have h2 : 12436 < r := by omega
    go_enter Tryz.func59, Tryz.ntmps59
    go_wp2
    go_ret3
    exact ⟨rfl, Below.refl _ _⟩
set_option maxHeartbeats 4000000 in
theorem pair_in (r a m : Int) (b : Bool) (w : World) (h0 : 192 ≤ r) (h1 : r ≤ 2047) (h : prL r rows12 = some (a, m, b)) :
    Calls Tryz.prog 59 #[.int .i32 r] w fun e w' => e = .returned (.tuple #[.int .i32 a, .int .i32 m, .bool b]) ∧ Below w.heap.size w w' := by
  have HP := hide pairs_gr
  have HI := hide idx12
  have HX := hide h
  have mx : Tryz.prog.follows .mixedOrders = true := by kernel_rfl
  clear h
  go_enter Tryz.func59, Tryz.ntmps59
  go_wp2_with (go_at_call 74; refine (unhide HP _).mono ?_; rintro e w1 ⟨rfl, g1⟩; have hb1 := g1.below; clear g1)
  go_loopw [16] (fun i wr => ∃ n : Nat, n ≤ 15 ∧ i = .int .i64 (n : Int) ∧ Hid (prL r (rows12.drop n) = some (a, m, b)) ∧ Below w.heap.size w wr) (fun i _ => 15 - (intOf i).toNat)
  case atStart => exact ⟨0, Nat.zero_le _, rfl, HX, hb1⟩
  case round =>
    clear HX
    obtain ⟨n, hn, rfl, HR, hb⟩ := hrel
    have hsz := hb.size
    by_cases hlt : n < 15
    · have hzl : (n : Int) < 15 := by omega
      have hz0 : (0 : Int) ≤ (n : Int) := by omega
      have x0 := unhide HI n hlt
      have hst := unhide HR
      have hle := rows12_get n hlt
      rw [drop_getD12 rows12 row0 n hlt] at hst
      generalize rows12.getD n row0 = p at *
      obtain ⟨mk, s⟩ := p
      dsimp only at x0 hst hle
      rw [prL] at hst
      dsimp only at hst
      cases hi : ixF s.data.toList (two1 r) (two2 r) 1000 1 0 with
      | none => rw [hi] at hst; cases hst
      | some R =>
        rw [hi] at hst
        dsimp only at hst
        have hbB : Below w.heap.size w (wr.alloc (.cells #[.int .i32 mk, .string s] 100)) := hb.alloc hsz _
        have c0 : (wr.alloc (.cells #[.int .i32 mk, .string s] 100)).cell? ⟨wr.heap.size, 0, none⟩ = some (.int .i32 mk) := by rw [World.cell?_alloc_mark]; rfl
        by_cases hneg : R < 0
        · rw [if_pos hneg] at hst
          have HN := hide hst
          have HA := hide (fun W => ahead_no s r R W (by omega) h1 hle hi hneg)
          clear hst HR hi
          go_wp2_with (go_at_call 75; refine (unhide HA _).mono ?_; rintro e w2 ⟨rfl, b2⟩; have hb2 := hbB.trans (b2.mono hbB.size))
          go_roundw
          case rel => exact ⟨n + 1, by omega, by go_num, HN, hb2⟩
          case measure => simp [intOf]; omega
        · rw [if_neg hneg] at hst
          cases ha : ahF s r 1001 0 0 with
          | none => rw [ha] at hst; cases hst
          | some A =>
            rw [ha] at hst
            have hst2 := Option.some.inj hst
            simp only [Prod.mk.injEq] at hst2
            obtain ⟨rfl, rfl, rfl⟩ := hst2
            have HA := hide (fun W => ahead_yes s r R A W (by omega) h1 hle hi (by omega) ha)
            clear hst HR hi ha
            go_wp2_with (go_at_call 75; refine (unhide HA _).mono ?_; rintro e w2 ⟨rfl, b2⟩; have hb2 := hbB.trans (b2.mono hbB.size); have c1 : w2.cell? ⟨wr.heap.size, 0, none⟩ = some (.int .i32 mk) := (b2.cell (by exact cell_lt c0)).trans c0)
            go_quiet (fail)
            go_wp2
            go_ret3
            exact ⟨rfl, below_drewN hb2 _⟩
    · have hzl : ¬ (n : Int) < 15 := by omega
      obtain rfl : n = 15 := by omega
      have hst := unhide HR
      rw [show rows12.drop 15 = [] from rfl, prL] at hst
      have hst2 := Option.some.inj hst
      simp only [Prod.mk.injEq] at hst2
      obtain ⟨rfl, rfl, rfl⟩ := hst2
      clear hst HR
      go_wp2
      go_ret3
      exact ⟨rfl, hb⟩
end Go.Proofs.YticgeabmhmojfaaGreatDoor
/- What is the call's own, and what only grows: plain facts on worlds. -/
namespace Go.Proofs.YticgeabmhmojfaaGreatDoor
set_option maxRecDepth 100000
open Go.RowKit

theorem Gr.grown {a b : World} (h : Gr a b) (row : Option Nat) : a.grownBy b row := ⟨h.below.os, h.below.tape, h.below.output, h.size, fun i hi _ => h.below.block i hi⟩
theorem below_own {w w' : World} {B : Nat} {row : Option Nat} (h : w.grownBy w' row) (hB : B ≤ w.heap.size) (hr : ∀ g, row = some g → B ≤ g) : Below B w w' :=
  (Below.refl _ _).grown h hB hr
theorem own_block {w : World} {B e size n : Nat} {v : Value} {xs : List Value} (h : w.ownsRow B e size v n xs) : ∀ g, v.ownBlock = some g → B ≤ g := fun g hg => (h.lt g hg).1
theorem own_below {B e size n : Nat} {v : Value} {xs : List Value} {w w2 : World} (h : w.ownsRow B e size v n xs) (hb : Below w.heap.size w w2) : w2.ownsRow B e size v n xs :=
  h.kept (row := none) ⟨hb.os, hb.tape, hb.output, hb.size, fun k hk _ => hb.block k hk⟩ (by cases hv : v.ownBlock <;> simp)
theorem heap_new (w : World) (o : Obj) : (w.alloc o).heap[w.heap.size]? = some o := by
  show (w.heap.push o)[w.heap.size]? = some o
  simp
theorem add_zero3 (g j : Nat) : (⟨g, 0, none⟩ : Addr).add j = ⟨g, j, none⟩ := by unfold Addr.add; split <;> simp_all
end Go.Proofs.YticgeabmhmojfaaGreatDoor
/- Rows of runes: handed in, or of the call's own; plain facts on worlds. -/
namespace Go.Proofs.YticgeabmhmojfaaGreatDoor
set_option maxRecDepth 100000
open Go.RowKit
open Go.Sort (grow)


/-- A slice that holds the runes l. -/
def Row (w : World) (v : Value) (l : List Int) : Prop :=
  ∃ a cap, v = .slice a l.length cap ∧ (0 < l.length → ∃ b off, a = some ⟨b, off, none⟩ ∧ ∀ j, j < l.length → w.cell? ⟨b, off + j, none⟩ = some (.int .i32 (l.getD j 0)))
theorem Row.below {w w2 : World} {v : Value} {l : List Int} (h : Row w v l) (hb : Below w.heap.size w w2) : Row w2 v l := by
  obtain ⟨a, cap, rfl, hc⟩ := h
  refine ⟨a, cap, rfl, fun hi => ?_⟩
  obtain ⟨b, off, rfl, hcc⟩ := hc hi
  exact ⟨b, off, rfl, fun j hj => (hb.cell (p := ⟨b, off + j, none⟩) (cell_lt (hcc j hj))).trans (hcc j hj)⟩
theorem Row.nil (w : World) (a : Option Addr) (c : Nat) : Row w (.slice a 0 c) [] := ⟨a, c, rfl, fun h => absurd h (Nat.lt_irrefl _)⟩
/-- A row of runes of the call's own. -/
def Rn (B : Nat) (v : Value) (l : List Int) (w : World) : Prop := w.ownsRow B 21 1 v l.length (l.map (Value.int .i32))
theorem Rn.nil (B : Nat) (w : World) : Rn B (.slice none 0 0) [] w := ⟨rfl, .inl ⟨rfl, rfl⟩⟩
theorem Rn.row {w : World} {B : Nat} {v : Value} {l : List Int} (h : Rn B v l w) : Row w v l := by
  rcases h.2 with ⟨hv, h0⟩ | ⟨g, cap, cur, hv, _⟩
  · exact ⟨none, 0, by rw [hv, h0], fun hi => by omega⟩
  · refine ⟨some ⟨g, 0, none⟩, cap, hv, fun hi => ⟨g, 0, rfl, fun j hj => ?_⟩⟩
    have := World.ownsRow.cells h (g := g) (by rw [hv]; rfl) j (.int .i32 (l.getD j 0)) (by simp [List.getD, hj])
    rw [add_zero3 g j] at this
    rw [Nat.zero_add]
    exact this
theorem Rn.shape {w : World} {B : Nat} {v : Value} {l : List Int} (h : Rn B v l w) : ∃ a c, v = .slice a l.length c := by
  rcases h.2 with ⟨hv, h0⟩ | ⟨g, cap, cur, hv, _⟩
  · exact ⟨none, 0, by rw [hv, h0]⟩
  · exact ⟨_, cap, hv⟩
theorem Rn.held {w : World} {B : Nat} {v : Value} {l : List Int} (h : Rn B v l w) (hl : 0 < l.length) : ∃ g c, v = .slice (some ⟨g, 0, none⟩) l.length c ∧ B ≤ g ∧ g < w.heap.size := by
  rcases h.2 with ⟨hv, h0⟩ | ⟨g, cap, cur, hv, hB, hg, _⟩
  · omega
  · exact ⟨g, cap, hv, hB, (Array.getElem?_eq_some_iff.1 hg).1⟩
theorem Rn.below {w w2 : World} {B : Nat} {v : Value} {l : List Int} (h : Rn B v l w) (hb : Below w.heap.size w w2) : Rn B v l w2 := own_below h hb
theorem Rn.base {w : World} {B C : Nat} {v : Value} {l : List Int} (h : Rn B v l w) (hc : C ≤ B) : Rn C v l w := by
  refine ⟨h.1, ?_⟩
  rcases h.2 with h' | ⟨g, cap, cur, hv, hB, rest⟩
  · exact .inl h'
  · exact .inr ⟨g, cap, cur, hv, Nat.le_trans hc hB, rest⟩
theorem elem_info : (Tryz.prog.info? 21).map (fun i => (i.zero, i.size, i.bytes)) = some (some (.int .i32 0), 1, 4) := by kernel_rfl
/-- A new block of runes. -/
theorem Rn.new (w : World) (B : Nat) (zs : List Int) (cs : Array Value) (hcs : cs.toList = zs.map (Value.int .i32)) (hB : B ≤ w.heap.size) (hm : zs.length ≤ 1000) : Rn B (.slice (.some ⟨w.heap.size, 0, none⟩) zs.length zs.length) zs (w.alloc (.cells cs 21)) := by
  refine ⟨by simp, .inr ⟨w.heap.size, zs.length, cs, rfl, hB, heap_new _ _, Nat.le_refl _, by unfold maxLen; omega, ?_, ?_⟩⟩
  · rw [← Array.length_toList, hcs]; simp
  · rw [hcs]; exact List.take_of_length_le (by simp)
theorem row_new (w : World) (zs : List Int) (cs : Array Value) (T : TypeId) (hcs : cs.toList = zs.map (Value.int .i32)) : Row (w.alloc (.cells cs T)) (.slice (some ⟨w.heap.size, 0, none⟩) zs.length zs.length) zs := by
  refine ⟨_, _, rfl, fun _ => ⟨w.heap.size, 0, rfl, fun j hj => ?_⟩⟩
  rw [World.cell?_alloc_mark, Nat.zero_add]
  have : cs.toList[j]? = some (.int .i32 (zs.getD j 0)) := by rw [hcs]; simp [List.getD, hj]
  simpa using this
theorem Rn.new1 (w : World) (x : Int) : Rn w.heap.size (.slice (.some ⟨w.heap.size, 0, none⟩) 1 1) [x] (w.alloc (.cells #[.int .i32 x] 21)) := Rn.new w _ [x] _ rfl (Nat.le_refl _) (by simp)
theorem Rn.new2 (w : World) (x y : Int) : Rn w.heap.size (.slice (.some ⟨w.heap.size, 0, none⟩) 2 2) [x, y] (w.alloc (.cells #[.int .i32 x, .int .i32 y] 21)) := Rn.new w _ [x, y] _ rfl (Nat.le_refl _) (by simp)
theorem Rn.new3 (w : World) (x y z : Int) : Rn w.heap.size (.slice (.some ⟨w.heap.size, 0, none⟩) 3 3) [x, y, z] (w.alloc (.cells #[.int .i32 x, .int .i32 y, .int .i32 z] 21)) := Rn.new w _ [x, y, z] _ rfl (Nat.le_refl _) (by simp)
theorem Below.one (w : World) (o : Obj) : Below w.heap.size w (w.alloc o) := (Gr.one w o).below
theorem take_snoc (l : List Int) (k : Nat) (h : k < l.length) : l.take (k + 1) = l.take k ++ [l.getD k 0] := by
  rw [List.take_succ_eq_append_getElem h]; simp [List.getD, h]
theorem Rn.push {w1 : World} {B g1 cap1 N : Nat} {es : List Int} {z : Int} (hN : N = es.length) (h : w1.ownsRow B 21 1 (.slice (.some ⟨g1, 0, none⟩) (N + 1) cap1) (N + 1) (es.map (Value.int .i32) ++ [.int .i32 z])) : Rn B (.slice (.some ⟨g1, 0, none⟩) (N + 1) cap1) (es ++ [z]) w1 := by
  unfold Rn
  subst hN
  simpa using h
theorem Rn.last {w : World} {B g N cap : Nat} {t : List Int} {y : Int} (h : Rn B (.slice (.some ⟨g, 0, none⟩) N cap) (t ++ [y]) w) : w.cell? ⟨g, t.length, none⟩ = some (.int .i32 y) := by
  have := World.ownsRow.cells h (g := g) rfl t.length (.int .i32 y) (by simp)
  rwa [add_zero3] at this
theorem Rn.free {w : World} {B g N cap : Nat} {l : List Int} (h : Rn B (.slice (.some ⟨g, 0, none⟩) N cap) l w) (hN : N = l.length) (m : Nat) : w.frozen? ⟨g, m, none⟩ = false := by
  subst hN
  exact World.ownsRow.frozenAt h m
theorem Rn.own {w : World} {B N : Nat} {v : Value} {l : List Int} (hN : N = l.length) (h : Rn B v l w) : w.ownsRow B 21 1 v N (l.map (Value.int .i32)) := by
  subst hN
  exact h
theorem Rn.put {w : World} {B g N cap m : Nat} {t : List Int} {y z : Int} (hN : N = t.length + 1) (hm : m = t.length) (h : Rn B (.slice (.some ⟨g, 0, none⟩) N cap) (t ++ [y]) w) :
    Rn B (.slice (.some ⟨g, 0, none⟩) N cap) (t ++ [z]) (w.setCell ⟨g, m, none⟩ (.int .i32 z)) ∧ w.grownBy (w.setCell ⟨g, m, none⟩ (.int .i32 z)) (.some g) := by
  subst hN hm
  have h2 : w.ownsRow B 21 1 (.slice (.some ⟨g, 0, none⟩) (t.length + 1) cap) (t.length + 1) ((t ++ [y]).map (Value.int .i32)) := by simpa [Rn] using h
  obtain ⟨h3, h4⟩ := h2.stored t.length (.int .i32 z)
  refine ⟨?_, h4⟩
  have e : ((t ++ [y]).map (Value.int .i32)).set t.length (.int .i32 z) = (t ++ [z]).map (Value.int .i32) := by
    rw [List.map_append, List.set_append_right _ _ (by simp)]
    simp
  rw [e] at h3
  unfold Rn
  simpa using h3
theorem own_nil (w : World) (B : Nat) (hB : B ≤ w.heap.size) : (w.alloc (.cells #[] 21)).ownsRow B 21 1 (.slice (some ⟨w.heap.size, 0, none⟩) 0 0) 0 [] :=
  ⟨rfl, .inr ⟨w.heap.size, 0, #[], rfl, hB, heap_new w _, Nat.le_refl _, Nat.zero_le _, rfl, rfl⟩⟩
theorem Rn.news {w : World} {B g N cap : Nat} {t u : List Int} (h : Rn B (.slice (.some ⟨g, 0, none⟩) N cap) (t ++ u) w) : ∀ j v, (t.map (Value.int .i32))[j]? = .some v → w.cell? ((⟨g, 0, none⟩ : Addr).add j) = .some v := fun j v hv => by
  refine World.ownsRow.cells h (g := g) rfl j v ?_
  rw [List.map_append, List.getElem?_append_left (List.getElem?_eq_some_iff.1 hv).1]
  exact hv
theorem ints_one (t : List Int) : ∀ u ∈ t.map (Value.int .i32), u.oneCell' = true := by
  intro u hu
  obtain ⟨x, _, rfl⟩ := List.mem_map.1 hu
  rfl
theorem Rn.all {w : World} {B g N cap : Nat} {t : List Int} (h : Rn B (.slice (.some ⟨g, 0, none⟩) N cap) t w) : ∀ j v, (t.map (Value.int .i32))[j]? = .some v → w.cell? ((⟨g, 0, none⟩ : Addr).add j) = .some v := fun j v hv => World.ownsRow.cells h (g := g) rfl j v hv
theorem Rn.kept {w w' : World} {B : Nat} {row : Option Nat} {v : Value} {l : List Int} (h : Rn B v l w) (hg : w.grownBy w' row) (hne : v.ownBlock ≠ row) : Rn B v l w' := World.ownsRow.kept h hg (.inr hne)
/-- What a later call made lies apart from what lay. -/
theorem apart_blocks {w : World} {B g n c : Nat} {v : Value} {l : List Int} (h : Rn B v l w) (hg : g < B) : v.ownBlock ≠ (Value.slice (some ⟨g, 0, none⟩) n c).ownBlock := by
  rcases h.2 with ⟨hv, _⟩ | ⟨g', cap, cur, hv, hB, _⟩
  · rw [hv]; simp [Value.ownBlock]
  · rw [hv]; simp [Value.ownBlock]; omega
theorem wrap_in {x : Int} (h1 : -2147483648 ≤ x) (h2 : x ≤ 2147483647) : IntKind.i32.wrap x = x := by
  simp [IntKind.wrap, IntKind.bits, IntKind.signed]; omega
end Go.Proofs.YticgeabmhmojfaaGreatDoor
/- The table of the leads, the vowels and the tails, as it lies. -/
namespace Go.Proofs.YticgeabmhmojfaaGreatDoor
set_option maxRecDepth 100000
open Go.RowKit

/-- The table of the leads, the vowels and the tails lies as the program's text lays it. -/
def Lay (w : World) : Prop :=
  w.cell? ⟨4, 0, none⟩ = some (.int .i32 4352) ∧ w.cell? ⟨4, 1, none⟩ = some (.int .i32 4370) ∧ w.cell? ⟨4, 2, none⟩ = some (.int .i32 4449) ∧ w.cell? ⟨4, 3, none⟩ = some (.int .i32 4469) ∧ w.cell? ⟨4, 4, none⟩ = some (.int .i32 4520) ∧ w.cell? ⟨4, 5, none⟩ = some (.int .i32 4546)
theorem Lay.below {w w2 : World} {B : Nat} (h : Lay w) (hb : Below B w w2) (hB : 4 < B) : Lay w2 := by
  obtain ⟨h0, h1, h2, h3, h4, h5⟩ := h
  exact ⟨(hb.cell (by exact hB)).trans h0, (hb.cell (by exact hB)).trans h1, (hb.cell (by exact hB)).trans h2, (hb.cell (by exact hB)).trans h3, (hb.cell (by exact hB)).trans h4, (hb.cell (by exact hB)).trans h5⟩
theorem Lay.pos {w : World} (h : Lay w) : 4 < w.heap.size := cell_lt h.1
theorem Lay.gr {w w2 : World} (h : Lay w) (g : Gr w w2) : Lay w2 := h.below g.below h.pos
end Go.Proofs.YticgeabmhmojfaaGreatDoor
/- Plain functions: which part a number is, what it is made of, what two make, what many make; and the laws between them. -/
namespace Go.Proofs.YticgeabmhmojfaaGreatDoor
set_option maxRecDepth 100000

/-- Is a number a syllable? -/
def isSyl (r : Int) : Bool := decide (44032 ≤ r ∧ r ≤ 55203)
theorem syl_iff (r : Int) : isSyl r = true ↔ 44032 ≤ r ∧ r ≤ 55203 := by unfold isSyl; simp
theorem syl_not (r : Int) : isSyl r = false ↔ ¬ (44032 ≤ r ∧ r ≤ 55203) := by unfold isSyl; rw [decide_eq_false_iff_not]
/-- Which part is it? -/
def part (r : Int) : Int :=
  if 4352 ≤ r ∧ r ≤ 4370 then 1 else if 4449 ≤ r ∧ r ≤ 4469 then 2 else if 4520 ≤ r ∧ r ≤ 4546 then 3
  else if 44032 ≤ r ∧ r ≤ 55203 then (if (r - 44032) % 28 = 0 then 4 else 5) else 0
/-- The parts of a number. -/
def apt (r : Int) : List Int :=
  if isSyl r then (if (r - 44032) % 28 = 0 then [4352 + (r - 44032) / 588, 4449 + (r - 44032) / 28 % 21] else [4352 + (r - 44032) / 588, 4449 + (r - 44032) / 28 % 21, 4519 + (r - 44032) % 28]) else [r]
/-- Do two make one? Which? -/
def jB (a b : Int) : Bool := decide ((part a = 1 ∧ part b = 2) ∨ (part a = 4 ∧ part b = 3))
def jR (a b : Int) : Int := if part a = 1 ∧ part b = 2 then 44032 + 588 * (a - 4352) + 28 * (b - 4449) else if part a = 4 ∧ part b = 3 then a + (b - 4519) else 0
/-- One more, behind those (the last one first). -/
def stp : List Int → Int → List Int
  | [], r => [r]
  | x :: t, r => if jB x r then jR x r :: t else r :: x :: t
def whlR (l : List Int) : List Int := l.foldl stp []
def whl (l : List Int) : List Int := (whlR l).reverse
/-- The parts of all. -/
def apts (l : List Int) : List Int := l.flatMap apt

theorem part_cases (r : Int) : (part r = 1 ∧ 4352 ≤ r ∧ r ≤ 4370) ∨ (part r = 2 ∧ 4449 ≤ r ∧ r ≤ 4469) ∨ (part r = 3 ∧ 4520 ≤ r ∧ r ≤ 4546) ∨ (part r = 4 ∧ 44032 ≤ r ∧ r ≤ 55203 ∧ (r - 44032) % 28 = 0) ∨
    (part r = 5 ∧ 44032 ≤ r ∧ r ≤ 55203 ∧ (r - 44032) % 28 ≠ 0) ∨ (part r = 0 ∧ ¬ (4352 ≤ r ∧ r ≤ 4370) ∧ ¬ (4449 ≤ r ∧ r ≤ 4469) ∧ ¬ (4520 ≤ r ∧ r ≤ 4546) ∧ ¬ (44032 ≤ r ∧ r ≤ 55203)) := by
  unfold part
  split
  · omega
  · split
    · omega
    · split
      · omega
      · split
        · split <;> omega
        · omega
theorem part_1 {r : Int} : part r = 1 ↔ 4352 ≤ r ∧ r ≤ 4370 := by have := part_cases r; omega
theorem part_2 {r : Int} : part r = 2 ↔ 4449 ≤ r ∧ r ≤ 4469 := by have := part_cases r; omega
theorem part_3 {r : Int} : part r = 3 ↔ 4520 ≤ r ∧ r ≤ 4546 := by have := part_cases r; omega
theorem part_4 {r : Int} : part r = 4 ↔ 44032 ≤ r ∧ r ≤ 55203 ∧ (r - 44032) % 28 = 0 := by have := part_cases r; omega
theorem jB_iff (a b : Int) : jB a b = true ↔ (part a = 1 ∧ part b = 2) ∨ (part a = 4 ∧ part b = 3) := by unfold jB; simp
theorem jB_not (a b : Int) : jB a b = false ↔ ¬ ((part a = 1 ∧ part b = 2) ∨ (part a = 4 ∧ part b = 3)) := by unfold jB; rw [decide_eq_false_iff_not]
theorem jR_lead {a b : Int} (h1 : part a = 1) (h2 : part b = 2) : jR a b = 44032 + 588 * (a - 4352) + 28 * (b - 4449) := by unfold jR; rw [if_pos ⟨h1, h2⟩]
theorem jR_open {a b : Int} (h1 : part a = 4) (h2 : part b = 3) : jR a b = a + (b - 4519) := by unfold jR; rw [if_neg (by omega), if_pos ⟨h1, h2⟩]
theorem jR_none {a b : Int} (h : jB a b = false) : jR a b = 0 := by rw [jB_not] at h; unfold jR; rw [if_neg (by omega), if_neg (by omega)]
theorem apt_open {r : Int} (h : isSyl r = true) (h0 : (r - 44032) % 28 = 0) : apt r = [4352 + (r - 44032) / 588, 4449 + (r - 44032) / 28 % 21] := by unfold apt; rw [if_pos h, if_pos h0]
theorem apt_closed {r : Int} (h : isSyl r = true) (h0 : (r - 44032) % 28 ≠ 0) : apt r = [4352 + (r - 44032) / 588, 4449 + (r - 44032) / 28 % 21, 4519 + (r - 44032) % 28] := by unfold apt; rw [if_pos h, if_neg h0]
theorem apt_none {r : Int} (h : isSyl r = false) : apt r = [r] := by unfold apt; rw [h]; rfl
theorem apt_len (r : Int) : (apt r).length ≤ 3 := by
  unfold apt
  split
  · split <;> simp
  · simp
theorem apt_one (r : Int) : isSyl r = decide (1 < (apt r).length) := by
  cases h : isSyl r
  · rw [apt_none h]; rfl
  · by_cases h0 : (r - 44032) % 28 = 0
    · rw [apt_open h h0]; rfl
    · rw [apt_closed h h0]; rfl
/-- What joins is a syllable, and is, apart, the parts of the first, and then the second. -/
theorem jR_syl {a b : Int} (h : jB a b = true) : isSyl (jR a b) = true := by
  rw [syl_iff]
  rcases (jB_iff a b).1 h with ⟨h1, h2⟩ | ⟨h1, h2⟩
  · rw [jR_lead h1 h2]; rw [part_1] at h1; rw [part_2] at h2; omega
  · rw [jR_open h1 h2]; rw [part_4] at h1; rw [part_3] at h2; omega
theorem apt_join {a b : Int} (h : jB a b = true) : apt (jR a b) = apt a ++ [b] := by
  have hs := jR_syl h
  rcases (jB_iff a b).1 h with ⟨h1, h2⟩ | ⟨h1, h2⟩
  · rw [jR_lead h1 h2] at hs ⊢
    rw [part_1] at h1
    rw [part_2] at h2
    rw [apt_open hs (by omega), apt_none (r := a) (by rw [syl_not]; omega)]
    have e1 : 4352 + (44032 + 588 * (a - 4352) + 28 * (b - 4449) - 44032) / 588 = a := by omega
    have e2 : 4449 + (44032 + 588 * (a - 4352) + 28 * (b - 4449) - 44032) / 28 % 21 = b := by omega
    rw [e1, e2]; rfl
  · rw [jR_open h1 h2] at hs ⊢
    rw [part_4] at h1
    rw [part_3] at h2
    rw [apt_closed hs (by omega), apt_open (r := a) (by rw [syl_iff]; omega) (by omega)]
    have e1 : 4352 + (a + (b - 4519) - 44032) / 588 = 4352 + (a - 44032) / 588 := by omega
    have e2 : 4449 + (a + (b - 4519) - 44032) / 28 % 21 = 4449 + (a - 44032) / 28 % 21 := by omega
    have e3 : 4519 + (a + (b - 4519) - 44032) % 28 = b := by omega
    rw [e1, e2, e3]; rfl
/-- What joins as the second is no syllable, and no syllable joins as the second. -/
theorem apt_second {a b : Int} (h : jB a b = true) : apt b = [b] := by
  apply apt_none
  rw [syl_not]
  rcases (jB_iff a b).1 h with ⟨_, h2⟩ | ⟨_, h2⟩
  · rw [part_2] at h2; omega
  · rw [part_3] at h2; omega
theorem jB_lead {a b : Int} (h : part b = 1) : jB a b = false := by rw [jB_not]; omega
theorem jB_syl {a b : Int} (h : isSyl b = true) : jB a b = false := by
  rw [jB_not]
  intro h2
  rw [syl_iff] at h
  rcases h2 with ⟨_, h2⟩ | ⟨_, h2⟩
  · rw [part_2] at h2; omega
  · rw [part_3] at h2; omega
theorem jR_second {a b x : Int} (h : jB a b = true) : jB x (jR a b) = false := jB_syl (jR_syl h)
/-- The parts of x, behind those that do not join with it, make x. -/
theorem stp_apt (t : List Int) (x : Int) (h : t = [] ∨ ∃ y s, t = y :: s ∧ jB y x = false) : (apt x).foldl stp t = x :: t := by
  have hpush : ∀ r, (t = [] ∨ ∃ y s, t = y :: s ∧ jB y r = false) → stp t r = r :: t := by
    intro r hr
    rcases hr with rfl | ⟨y, s, rfl, hj⟩
    · rfl
    · simp [stp, hj]
  cases hs : isSyl x
  · rw [apt_none hs]
    exact hpush x h
  · have hx := (syl_iff x).1 hs
    have p1 : part (4352 + (x - 44032) / 588) = 1 := by rw [part_1]; omega
    have p2 : part (4449 + (x - 44032) / 28 % 21) = 2 := by rw [part_2]; omega
    have f1 : stp t (4352 + (x - 44032) / 588) = (4352 + (x - 44032) / 588) :: t := by
      apply hpush
      rcases h with rfl | ⟨y, s, rfl, _⟩
      · exact .inl rfl
      · exact .inr ⟨y, s, rfl, jB_lead p1⟩
    have j2 : jB (4352 + (x - 44032) / 588) (4449 + (x - 44032) / 28 % 21) = true := by rw [jB_iff]; exact .inl ⟨p1, p2⟩
    have r2 : jR (4352 + (x - 44032) / 588) (4449 + (x - 44032) / 28 % 21) = x - (x - 44032) % 28 := by rw [jR_lead p1 p2]; omega
    by_cases h0 : (x - 44032) % 28 = 0
    · rw [apt_open hs h0]
      simp only [List.foldl_cons, List.foldl_nil]
      rw [f1]
      simp only [stp]
      rw [if_pos j2, r2, h0]
      simp
    · have p4 : part (x - (x - 44032) % 28) = 4 := by rw [part_4]; omega
      have p3 : part (4519 + (x - 44032) % 28) = 3 := by rw [part_3]; omega
      have j3 : jB (x - (x - 44032) % 28) (4519 + (x - 44032) % 28) = true := by rw [jB_iff]; exact .inr ⟨p4, p3⟩
      have r3 : jR (x - (x - 44032) % 28) (4519 + (x - 44032) % 28) = x := by rw [jR_open p4 p3]; omega
      rw [apt_closed hs h0]
      simp only [List.foldl_cons, List.foldl_nil]
      rw [f1]
      simp only [stp]
      rw [if_pos j2, r2]
      simp only
      rw [if_pos j3, r3]
theorem whl_apt (a : Int) : whl (apt a) = [a] := by
  unfold whl whlR
  rw [stp_apt [] a (.inl rfl)]
  rfl
/-- Of those (the last one first) no two that stand side by side join. -/
def firm : List Int → Bool
  | [] => true
  | [_] => true
  | y :: x :: t => !jB x y && firm (x :: t)
theorem firm_stp (t : List Int) (r : Int) (h : firm t = true) : firm (stp t r) = true := by
  match t, h with
  | [], _ => rfl
  | [x], _ =>
    simp only [stp]
    split
    · rfl
    · rename_i hj
      simp [firm, hj]
  | x :: y :: s, h =>
    simp only [stp]
    split
    · rename_i hj
      simp only [firm, Bool.and_eq_true] at h ⊢
      exact ⟨by rw [jR_second hj]; rfl, h.2⟩
    · rename_i hj
      simp only [firm, Bool.and_eq_true] at h ⊢
      exact ⟨by simpa using hj, h.1, h.2⟩
theorem firm_foldl (l t : List Int) (h : firm t = true) : firm (l.foldl stp t) = true := by
  induction l generalizing t with
  | nil => exact h
  | cons r l ih => exact ih _ (firm_stp t r h)
theorem firm_whlR (l : List Int) : firm (whlR l) = true := firm_foldl l [] rfl
theorem firm_head {y : Int} {t : List Int} (h : firm (y :: t) = true) : t = [] ∨ ∃ x s, t = x :: s ∧ jB x y = false := by
  cases t with
  | nil => exact .inl rfl
  | cons x s =>
    simp only [firm, Bool.and_eq_true, Bool.not_eq_true'] at h
    exact .inr ⟨x, s, rfl, h.1⟩
theorem firm_tail {y : Int} {t : List Int} (h : firm (y :: t) = true) : firm t = true := by
  cases t with
  | nil => rfl
  | cons x s => simp only [firm, Bool.and_eq_true] at h; exact h.2
/-- What is firm is whole, and so are its parts. -/
theorem firm_whole (t : List Int) (h : firm t = true) : whlR t.reverse = t := by
  induction t with
  | nil => rfl
  | cons y t ih =>
    unfold whlR at ih ⊢
    rw [List.reverse_cons, List.foldl_append, ih (firm_tail h)]
    simp only [List.foldl_cons, List.foldl_nil]
    rcases firm_head h with rfl | ⟨x, s, rfl, hj⟩
    · rfl
    · simp [stp, hj]
theorem firm_parts (t : List Int) (h : firm t = true) : whlR (apts t.reverse) = t := by
  induction t with
  | nil => rfl
  | cons y t ih =>
    unfold whlR apts at ih ⊢
    rw [List.reverse_cons, List.flatMap_append, List.foldl_append, ih (firm_tail h)]
    simp only [List.flatMap_cons, List.flatMap_nil, List.append_nil]
    exact stp_apt t y (firm_head h)
theorem whl_whole (l : List Int) : whl (whl l) = whl l := by
  unfold whl
  rw [firm_whole _ (firm_whlR l)]
theorem whl_parts (l : List Int) : whl (apts (whl l)) = whl l := by
  unfold whl
  rw [firm_parts _ (firm_whlR l)]
/-- Nothing is lost. -/
theorem apts_stp (t : List Int) (r : Int) : apts (stp t r).reverse = apts t.reverse ++ apt r := by
  cases t with
  | nil => simp [stp, apts]
  | cons x t =>
    simp only [stp]
    split
    · rename_i hj
      rw [List.reverse_cons, List.reverse_cons]
      unfold apts
      rw [List.flatMap_append, List.flatMap_append]
      simp only [List.flatMap_cons, List.flatMap_nil, List.append_nil]
      rw [apt_join hj, apt_second hj, List.append_assoc]
    · rw [List.reverse_cons]
      unfold apts
      rw [List.flatMap_append]
      simp
theorem apts_foldl (l t : List Int) : apts (l.foldl stp t).reverse = apts t.reverse ++ apts l := by
  induction l generalizing t with
  | nil => simp [apts]
  | cons r l ih =>
    rw [List.foldl_cons, ih, apts_stp, List.append_assoc]
    simp [apts]
theorem apts_whl (l : List Int) : apts (whl l) = apts l := by
  unfold whl whlR
  rw [apts_foldl]
  simp [apts]
theorem stp_len (t : List Int) (r : Int) : (stp t r).length ≤ t.length + 1 := by
  cases t with
  | nil => simp [stp]
  | cons x t =>
    simp only [stp]
    split <;> simp
theorem whlR_snoc (l : List Int) (r : Int) : whlR (l ++ [r]) = stp (whlR l) r := by unfold whlR; rw [List.foldl_append]; rfl
theorem whlR_len (l : List Int) : (whlR l).length ≤ l.length := by
  have : ∀ (l t : List Int), (l.foldl stp t).length ≤ t.length + l.length := by
    intro l
    induction l with
    | nil => intro t; simp
    | cons r l ih =>
      intro t
      have := ih (stp t r)
      have := stp_len t r
      simp only [List.foldl_cons, List.length_cons]
      omega
  have := this l []
  simpa [whlR] using this
theorem whl_len (l : List Int) : (whl l).length ≤ l.length := by unfold whl; rw [List.length_reverse]; exact whlR_len l
theorem apts_len (l : List Int) : (apts l).length ≤ 3 * l.length := by
  induction l with
  | nil => simp [apts]
  | cons r l ih =>
    have := apt_len r
    simp only [apts, List.flatMap_cons, List.length_append, List.length_cons] at ih ⊢
    omega
/-- All numbers are those of the type. -/
def In32 (x : Int) : Prop := -2147483648 ≤ x ∧ x ≤ 2147483647
theorem jR_in {a b : Int} (h : jB a b = true) : In32 (jR a b) := by
  have := (syl_iff _).1 (jR_syl h)
  unfold In32; omega
end Go.Proofs.YticgeabmhmojfaaGreatDoor
