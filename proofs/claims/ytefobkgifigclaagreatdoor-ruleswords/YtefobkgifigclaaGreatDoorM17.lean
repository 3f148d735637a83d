/- decomp.pairs, ahead, Pair: of numbers for which no search of theirs gives up. -/
import Derived.Test.YtefobkgifigclaaGreatDoorM16
import Derived.Test.YtefobkgifigclaaGreatDoorM02
import Derived.Lib.OthersKept
import Derived.Laws.RangeAny
import Derived.Test.YtefobkgifigclaaGreatDoorM15
import Derived.Test.YtefobkgifigclaaGreatDoorM06
namespace Go.Proofs.YtefobkgifigclaaGreatDoor
set_option maxRecDepth 100000
open Go.RowKit

def txt0 : ByteArray := ⟨([65, 195, 128, 69, 195, 136, 73, 195, 140, 79, 195, 146, 85, 195, 153, 97, 195, 160, 101, 195, 168, 105, 195, 172, 111, 195, 178, 117, 195, 185] : List UInt8).toArray⟩
def txt1 : ByteArray := ⟨([65, 195, 129, 69, 195, 137, 73, 195, 141, 79, 195, 147, 85, 195, 154, 89, 195, 157, 97, 195, 161, 101, 195, 169, 105, 195, 173, 111, 195, 179] ++ [117, 195, 186, 121, 195, 189, 67, 196, 134, 99, 196, 135, 76, 196, 185, 108, 196, 186, 78, 197, 131, 110, 197, 132, 82, 197, 148, 114, 197, 149] ++ [83, 197, 154, 115, 197, 155, 90, 197, 185, 122, 197, 186, 206, 145, 206, 134, 206, 149, 206, 136, 206, 151, 206, 137, 206, 153, 206, 138, 206, 159] ++ [206, 140, 206, 165, 206, 142, 206, 169, 206, 143, 206, 177, 206, 172, 206, 181, 206, 173, 206, 183, 206, 174, 206, 185, 206, 175, 206, 191, 207, 140] ++ [207, 133, 207, 141, 207, 137, 207, 142, 207, 138, 206, 144, 207, 139, 206, 176] : List UInt8).toArray⟩
def txt2 : ByteArray := ⟨([65, 195, 130, 69, 195, 138, 73, 195, 142, 79, 195, 148, 85, 195, 155, 97, 195, 162, 101, 195, 170, 105, 195, 174, 111, 195, 180, 117, 195, 187] ++ [67, 196, 136, 99, 196, 137, 71, 196, 156, 103, 196, 157, 72, 196, 164, 104, 196, 165, 74, 196, 180, 106, 196, 181, 83, 197, 156, 115, 197, 157] ++ [87, 197, 180, 119, 197, 181, 89, 197, 182, 121, 197, 183] : List UInt8).toArray⟩
def txt3 : ByteArray := ⟨([65, 195, 131, 78, 195, 145, 79, 195, 149, 97, 195, 163, 110, 195, 177, 111, 195, 181, 73, 196, 168, 105, 196, 169, 85, 197, 168, 117, 197, 169] : List UInt8).toArray⟩
def txt4 : ByteArray := ⟨([65, 196, 128, 97, 196, 129, 69, 196, 146, 101, 196, 147, 73, 196, 170, 105, 196, 171, 79, 197, 140, 111, 197, 141, 85, 197, 170, 117, 197, 171] : List UInt8).toArray⟩
def txt5 : ByteArray := ⟨([65, 196, 130, 97, 196, 131, 69, 196, 148, 101, 196, 149, 71, 196, 158, 103, 196, 159, 73, 196, 172, 105, 196, 173, 79, 197, 142, 111, 197, 143] ++ [85, 197, 172, 117, 197, 173, 208, 152, 208, 153, 208, 184, 208, 185] : List UInt8).toArray⟩
def txt6 : ByteArray := ⟨([67, 196, 138, 99, 196, 139, 69, 196, 150, 101, 196, 151, 71, 196, 160, 103, 196, 161, 73, 196, 176, 90, 197, 187, 122, 197, 188] : List UInt8).toArray⟩
def txt7 : ByteArray := ⟨([65, 195, 132, 69, 195, 139, 73, 195, 143, 79, 195, 150, 85, 195, 156, 97, 195, 164, 101, 195, 171, 105, 195, 175, 111, 195, 182, 117, 195, 188] ++ [121, 195, 191, 89, 197, 184, 206, 153, 206, 170, 206, 165, 206, 171, 206, 185, 207, 138, 207, 133, 207, 139, 208, 149, 208, 129, 208, 181, 209, 145] : List UInt8).toArray⟩
def txt8 : ByteArray := ⟨([65, 195, 133, 97, 195, 165, 85, 197, 174, 117, 197, 175] : List UInt8).toArray⟩
def txt9 : ByteArray := ⟨([79, 197, 144, 111, 197, 145, 85, 197, 176, 117, 197, 177] : List UInt8).toArray⟩
def txt10 : ByteArray := ⟨([67, 196, 140, 99, 196, 141, 68, 196, 142, 100, 196, 143, 69, 196, 154, 101, 196, 155, 76, 196, 189, 108, 196, 190, 78, 197, 135, 110, 197, 136] ++ [82, 197, 152, 114, 197, 153, 83, 197, 160, 115, 197, 161, 84, 197, 164, 116, 197, 165, 90, 197, 189, 122, 197, 190] : List UInt8).toArray⟩
def txt11 : ByteArray := ⟨([67, 195, 135, 99, 195, 167, 71, 196, 162, 103, 196, 163, 75, 196, 182, 107, 196, 183, 76, 196, 187, 108, 196, 188, 78, 197, 133, 110, 197, 134] ++ [82, 197, 150, 114, 197, 151, 83, 197, 158, 115, 197, 159, 84, 197, 162, 116, 197, 163] : List UInt8).toArray⟩
def txt12 : ByteArray := ⟨([65, 196, 132, 97, 196, 133, 69, 196, 152, 101, 196, 153, 73, 196, 174, 105, 196, 175, 85, 197, 178, 117, 197, 179] : List UInt8).toArray⟩
def txt13 : ByteArray := ⟨([227, 129, 139, 227, 129, 140, 227, 129, 141, 227, 129, 142, 227, 129, 143, 227, 129, 144, 227, 129, 145, 227, 129, 146, 227, 129, 147, 227, 129, 148] ++ [227, 129, 149, 227, 129, 150, 227, 129, 151, 227, 129, 152, 227, 129, 153, 227, 129, 154, 227, 129, 155, 227, 129, 156, 227, 129, 157, 227, 129, 158] ++ [227, 129, 159, 227, 129, 160, 227, 129, 161, 227, 129, 162, 227, 129, 164, 227, 129, 165, 227, 129, 166, 227, 129, 167, 227, 129, 168, 227, 129, 169] ++ [227, 129, 175, 227, 129, 176, 227, 129, 178, 227, 129, 179, 227, 129, 181, 227, 129, 182, 227, 129, 184, 227, 129, 185, 227, 129, 187, 227, 129, 188] ++ [227, 129, 134, 227, 130, 148] : List UInt8).toArray⟩
def txt14 : ByteArray := ⟨([227, 129, 175, 227, 129, 177, 227, 129, 178, 227, 129, 180, 227, 129, 181, 227, 129, 183, 227, 129, 184, 227, 129, 186, 227, 129, 187, 227, 129, 189] : List UInt8).toArray⟩
/-- The rows of the pairs: a mark, and letters. -/
def rows12 : List (Int × ByteArray) := [(768, txt0), (769, txt1), (770, txt2), (771, txt3), (772, txt4), (774, txt5), (775, txt6), (776, txt7), (778, txt8), (779, txt9), (780, txt10), (807, txt11), (808, txt12), (12441, txt13), (12442, txt14)]
def row0 : Int × ByteArray := (0, ByteArray.empty)
def cells12 : Array Value := (rows12.flatMap fun p => [.int .i32 p.1, .string p.2]).toArray
def zeros12 : Array Value := ((List.replicate 15 row0).flatMap fun p => [.int .i32 p.1, .string p.2]).toArray
def aggs12 : List Value := rows12.map fun p => .agg #[.int .i32 p.1, .string p.2]
def frame12 (p : Value) : Act := { tmps := (p :: (aggs12 ++ [.agg cells12])).toArray, defers := [] }
theorem rows12_len : rows12.length = 15 := rfl
theorem rows12_le : (rows12.all fun p => decide (p.2.size ≤ 1000)) = true := by kernel_rfl
theorem rows12_get (n : Nat) (h : n < 15) : (rows12.getD n row0).2.size ≤ 1000 := by
  have hm : rows12.getD n row0 ∈ rows12 := by
    have h2 : n < rows12.length := h
    simp [List.getD, h2]
  simpa using List.all_eq_true.1 rows12_le _ hm

set_option maxRecDepth 1000000 in
set_option maxHeartbeats 4000000 in
theorem pairs_gr (w : World) : Calls Tryz.prog 238 #[] w fun e w' => e = .returned (.agg cells12) ∧ Gr w w' := by
  go_enter Tryz.func238, Tryz.ntmps238
  apply wp_seq_k; intro K0 hK0
  apply wp_region_lit
  refine Great.wpList_allocTo rfl (some 0) rfl (.pointer (some ⟨w.heap.size, 0, none⟩)) (.cells zeros12 273) (by kernel_rfl) ?_
  apply wpList_nil
  refine hK0 _ _ ?_
  clear hK0 K0
  apply wp_seq_k; intro K0 hK0
  apply wp_region_lit
  refine wpList_buildsN 16 (frame12 (.pointer (some ⟨w.heap.size, 0, none⟩))) _ (by kernel_rfl) rfl ?_
  simp only [List.append_eq, List.cons_append, List.nil_append, List.drop_succ_cons, List.drop_zero]
  refine wpList_store_rowTo rfl 273 (.tmp 0) (.tmp 16) rfl rfl w.heap.size cells12 (by kernel_rfl) (by kernel_rfl) 273 zeros12 (heap_alloc_last w _) (by kernel_rfl) (by kernel_rfl) (by kernel_rfl) ?_
  apply wpList_nil
  refine hK0 _ _ ?_
  clear hK0 K0
  rw [World.setRow_alloc_new]
  refine wp_ret ?_
  refine bodyPost_ret (results_cell_row (p := 0) (ty := 273) Tryz.results238 _ _ w.heap.size 273 cells12 (0, 0) _ (by kernel_rfl) (heap_alloc_last w _) Tryz.underlying273 rfl (by kernel_rfl)) rfl ⟨rfl, Gr.one _ _⟩

/-- Which letter stands ahead of r, plainly: none where none does. -/
def ahF (s : ByteArray) (r : Int) : Nat → Nat → Int → Option Int
  | 0, _, _ => none
  | n + 1, p, a =>
    if p < s.size then
      if a = 0 then ahF s r n (p + (Utf8.decode s p).2) (Utf8.decode s p).1
      else if ((Utf8.decode s p).1 : Int) = r then some a
      else ahF s r n (p + (Utf8.decode s p).2) 0
    else none
theorem dec_pos (s : ByteArray) (p : Nat) (h : p < s.size) : 1 ≤ (Utf8.decode s p).2 := by
  by_cases ha : (s[p]'h).toNat < 128
  · rw [decode_ascii s p h ha]
    exact Nat.le_refl _
  · exact (decode_high s p h (by omega)).2
theorem iterPos_at {w : World} {k : Nat} {s : ByteArray} {p : Nat} (h : w.heap[k]? = some (.stringIter s p)) : w.iterPos k = p := by
  unfold World.iterPos; rw [h]

theorem ret_rb12 {a a' : Int} {b b' : Bool} (h : a = a') (h' : b = b') : Ending.returned (.tuple #[.int .i32 a, .bool b]) = .returned (.tuple #[.int .i32 a', .bool b']) := by rw [h, h']
set_option maxHeartbeats 1000000 in
theorem ahead_no (s : ByteArray) (r R : Int) (w : World) (h0 : 128 ≤ r) (h1 : r ≤ 2047) (hs : s.size ≤ 1000) (hR : ixF s.data.toList (two1 r) (two2 r) 1000 1 0 = some R) (hn : R < 0) :
    Calls Tryz.prog 239 #[.string s, .int .i32 r] w fun e w' => e = .returned (.tuple #[.int .i32 0, .bool false]) ∧ Below w.heap.size w w' := by
  have H := ctr_any s r R w h0 h1 hs hR
  rw [show decide (R ≥ 0) = false by simp; omega] at H
  have HC := hide H
  clear H hR
  go_enter Tryz.func239, Tryz.ntmps239
  go_wp2_with (go_at_call 246; refine (unhide HC).mono ?_; rintro e w1 ⟨rfl, g1⟩)
  go_ret2
  exact ⟨rfl, g1.below⟩
set_option maxHeartbeats 2000000 in
theorem ahead_yes (s : ByteArray) (r R L : Int) (w : World) (h0 : 128 ≤ r) (h1 : r ≤ 2047) (hs : s.size ≤ 1000) (hR : ixF s.data.toList (two1 r) (two2 r) 1000 1 0 = some R) (hn : 0 ≤ R) (hL : ahF s r 1001 0 0 = some L) :
    Calls Tryz.prog 239 #[.string s, .int .i32 r] w fun e w' => e = .returned (.tuple #[.int .i32 L, .bool true]) ∧ Below w.heap.size w w' := by
  have H := ctr_any s r R w h0 h1 hs hR
  rw [show decide (R ≥ 0) = true by simp; omega] at H
  have HC := hide H
  have HL := hide hL
  clear H hR hL
  go_enter Tryz.func239, Tryz.ntmps239
  go_wp2_with (go_at_call 246; refine (unhide HC).mono ?_; rintro e w1 ⟨rfl, g1⟩; have hb1 := g1.below; have hs1 := hb1.size; clear g1)
  go_loopw [6] (fun v wr => ∃ (p n : Nat) (a : Int), v = .int .i32 a ∧ wr.heap[w1.heap.size]? = some (.stringIter s p) ∧ Hid (ahF s r n p a = some L) ∧ Below w.heap.size w wr) (fun _ wr => 1001 - wr.iterPos w1.heap.size)
  case atStart => exact ⟨0, 1001, 0, rfl, World.iter_heap w1 s 0, HL, hb1.alloc hs1 _⟩
  case round =>
    clear HL
    obtain ⟨p, n, a, rfl, hit, HA, hb⟩ := hrel
    obtain ⟨n, rfl⟩ : ∃ k, n = k + 1 := by cases n with
      | zero => cases unhide HA
      | succ n => exact ⟨n, rfl⟩
    have hpos0 := iterPos_at hit
    by_cases hp : p < s.size
    · have hnx : ∀ ty, (Instr.next (.pointer (some ⟨w1.heap.size, 0, none⟩)) true ty).run Tryz.prog wr = _ := fun ty => Lib.run_next_any_at wr w1.heap.size s p ty hit hp
      have hwd := dec_pos s p hp
      have hit2 := Lib.iterAt_heap wr w1.heap.size s p (p + (Utf8.decode s p).2) hit
      have hb2 := Lib.below_iterAt hb (k := w1.heap.size) hs1 s (p + (Utf8.decode s p).2)
      have hA := unhide HA
      rw [ahF, if_pos hp] at hA
      have HA2 := hide hA
      clear hA HA
      generalize (Utf8.decode s p).1 = x at *
      generalize (Utf8.decode s p).2 = d at *
      obtain ⟨W1, hW1⟩ : ∃ W1, W1 = wr.iterAt w1.heap.size s (p + d) := ⟨_, rfl⟩
      rw [← hW1] at hnx hit2 hb2
      have HIT := hide hit2
      have hpos1 := iterPos_at hit2
      clear hit2 hW1 hit
      by_cases ha : a = 0
      · have HN : Hid (ahF s r n (p + d) (x : Int) = some L) := by have := unhide HA2; rw [if_pos ha] at this; exact this
        subst ha
        clear HA2
        go_wp2
        go_roundw
        case rel => exact ⟨_, _, _, rfl, unhide HIT, HN, hb2⟩
        case measure => rw [hpos1, hpos0]; omega
      · have haz : (a == 0) = false := by simpa using ha
        by_cases hx : (x : Int) = r
        · have HN : Hid (a = L) := by have := unhide HA2; rw [if_neg ha, if_pos hx] at this; exact Option.some.inj this
          have hxz : ((x : Int) == r) = true := by simpa using hx
          clear HA2 hx
          go_wp2
          go_ret2
          exact ⟨ret_rb12 (unhide HN) rfl, hb2⟩
        · have HN : Hid (ahF s r n (p + d) 0 = some L) := by have := unhide HA2; rw [if_neg ha, if_neg hx] at this; exact this
          have hxz : ((x : Int) == r) = false := by simpa using hx
          clear HA2 hx
          go_wp2
          go_roundw
          case rel => exact ⟨_, _, _, rfl, unhide HIT, HN, hb2⟩
          case measure => rw [hpos1, hpos0]; omega
    · have := unhide HA
      rw [ahF, if_neg hp] at this
      cases this

theorem idx12_0 (W : World) : (Instr.index 273 (.agg cells12) (.int .i64 0)).run Tryz.prog W = .ok (.agg #[.int .i32 768, .string txt0]) W := by kernel_rfl
theorem idx12_1 (W : World) : (Instr.index 273 (.agg cells12) (.int .i64 1)).run Tryz.prog W = .ok (.agg #[.int .i32 769, .string txt1]) W := by kernel_rfl
theorem idx12_2 (W : World) : (Instr.index 273 (.agg cells12) (.int .i64 2)).run Tryz.prog W = .ok (.agg #[.int .i32 770, .string txt2]) W := by kernel_rfl
theorem idx12_3 (W : World) : (Instr.index 273 (.agg cells12) (.int .i64 3)).run Tryz.prog W = .ok (.agg #[.int .i32 771, .string txt3]) W := by kernel_rfl
theorem idx12_4 (W : World) : (Instr.index 273 (.agg cells12) (.int .i64 4)).run Tryz.prog W = .ok (.agg #[.int .i32 772, .string txt4]) W := by kernel_rfl
theorem idx12_5 (W : World) : (Instr.index 273 (.agg cells12) (.int .i64 5)).run Tryz.prog W = .ok (.agg #[.int .i32 774, .string txt5]) W := by kernel_rfl
theorem idx12_6 (W : World) : (Instr.index 273 (.agg cells12) (.int .i64 6)).run Tryz.prog W = .ok (.agg #[.int .i32 775, .string txt6]) W := by kernel_rfl
theorem idx12_7 (W : World) : (Instr.index 273 (.agg cells12) (.int .i64 7)).run Tryz.prog W = .ok (.agg #[.int .i32 776, .string txt7]) W := by kernel_rfl
theorem idx12_8 (W : World) : (Instr.index 273 (.agg cells12) (.int .i64 8)).run Tryz.prog W = .ok (.agg #[.int .i32 778, .string txt8]) W := by kernel_rfl
theorem idx12_9 (W : World) : (Instr.index 273 (.agg cells12) (.int .i64 9)).run Tryz.prog W = .ok (.agg #[.int .i32 779, .string txt9]) W := by kernel_rfl
theorem idx12_10 (W : World) : (Instr.index 273 (.agg cells12) (.int .i64 10)).run Tryz.prog W = .ok (.agg #[.int .i32 780, .string txt10]) W := by kernel_rfl
theorem idx12_11 (W : World) : (Instr.index 273 (.agg cells12) (.int .i64 11)).run Tryz.prog W = .ok (.agg #[.int .i32 807, .string txt11]) W := by kernel_rfl
theorem idx12_12 (W : World) : (Instr.index 273 (.agg cells12) (.int .i64 12)).run Tryz.prog W = .ok (.agg #[.int .i32 808, .string txt12]) W := by kernel_rfl
theorem idx12_13 (W : World) : (Instr.index 273 (.agg cells12) (.int .i64 13)).run Tryz.prog W = .ok (.agg #[.int .i32 12441, .string txt13]) W := by kernel_rfl
theorem idx12_14 (W : World) : (Instr.index 273 (.agg cells12) (.int .i64 14)).run Tryz.prog W = .ok (.agg #[.int .i32 12442, .string txt14]) W := by kernel_rfl
theorem idx12 (n : Nat) (h : n < 15) (W : World) : (Instr.index 273 (.agg cells12) (.int .i64 (n : Int))).run Tryz.prog W = .ok (.agg #[.int .i32 (rows12.getD n row0).1, .string (rows12.getD n row0).2]) W := by
  have hn : n = 0 ∨ n = 1 ∨ n = 2 ∨ n = 3 ∨ n = 4 ∨ n = 5 ∨ n = 6 ∨ n = 7 ∨ n = 8 ∨ n = 9 ∨ n = 10 ∨ n = 11 ∨ n = 12 ∨ n = 13 ∨ n = 14 := by omega
  clear h
  rcases hn with rfl | rfl | rfl | rfl | rfl | rfl | rfl | rfl | rfl | rfl | rfl | rfl | rfl | rfl | rfl
  · exact idx12_0 W
  · exact idx12_1 W
  · exact idx12_2 W
  · exact idx12_3 W
  · exact idx12_4 W
  · exact idx12_5 W
  · exact idx12_6 W
  · exact idx12_7 W
  · exact idx12_8 W
  · exact idx12_9 W
  · exact idx12_10 W
  · exact idx12_11 W
  · exact idx12_12 W
  · exact idx12_13 W
  · exact idx12_14 W

/-- What decomp.Pair tells, plainly: none where a search would give up. -/
def prL (r : Int) : List (Int × ByteArray) → Option (Int × Int × Bool)
  | [] => some (0, 0, false)
  | p :: l =>
    match ixF p.2.data.toList (two1 r) (two2 r) 1000 1 0 with
    | none => none
    | some R => if R < 0 then prL r l else
      match ahF p.2 r 1001 0 0 with
      | none => none
      | some a => some (a, p.1, true)
theorem drop_getD12 {α : Type} (l : List α) (d : α) (n : Nat) (h : n < l.length) : l.drop n = l.getD n d :: l.drop (n + 1) := by
  rw [List.drop_eq_getElem_cons h]; simp [List.getD, h]
theorem ret_iib {a a' m m' : Int} {b b' : Bool} (h1 : a = a') (h2 : m = m') (h3 : b = b') : Ending.returned (.tuple #[.int .i32 a, .int .i32 m, .bool b]) = .returned (.tuple #[.int .i32 a', .int .i32 m', .bool b']) := by rw [h1, h2, h3]

set_option maxHeartbeats 1000000 in
theorem pair_out (r : Int) (w : World) (h : r < 192 ∨ 12436 < r) : Calls Tryz.prog 219 #[.int .i32 r] w fun e w' => e = .returned (.tuple #[.int .i32 0, .int .i32 0, .bool false]) ∧ Below w.heap.size w w' := by
  by_cases h1 : r < 192
  · have z1 : decide (r < 192) = true := by simpa using h1
    go_enter Tryz.func219, Tryz.ntmps219
    go_wp2
    go_ret3
    exact ⟨rfl, Below.refl _ _⟩
  · have h2 : 12436 < r := by omega
    go_enter Tryz.func219, Tryz.ntmps219
    go_wp2
    go_ret3
    exact ⟨rfl, Below.refl _ _⟩
set_option maxHeartbeats 4000000 in
theorem pair_in (r a m : Int) (b : Bool) (w : World) (h0 : 192 ≤ r) (h1 : r ≤ 2047) (h : prL r rows12 = some (a, m, b)) :
    Calls Tryz.prog 219 #[.int .i32 r] w fun e w' => e = .returned (.tuple #[.int .i32 a, .int .i32 m, .bool b]) ∧ Below w.heap.size w w' := by
  have HP := hide pairs_gr
  have HI := hide idx12
  have HX := hide h
  have mx : Tryz.prog.follows .mixedOrders = true := by kernel_rfl
  clear h
  go_enter Tryz.func219, Tryz.ntmps219
  go_wp2_with (go_at_call 238; refine (unhide HP _).mono ?_; rintro e w1 ⟨rfl, g1⟩; have hb1 := g1.below; clear g1)
  go_loopw [16] (fun i wr => ∃ n : Nat, n ≤ 15 ∧ i = .int .i64 (n : Int) ∧ Hid (prL r (rows12.drop n) = some (a, m, b)) ∧ Below w.heap.size w wr) (fun i _ => 15 - (intOf i).toNat)
  case atStart => exact ⟨0, Nat.zero_le _, rfl, HX, hb1⟩
  case round =>
    clear HX
    obtain ⟨n, hn, rfl, HR, hb⟩ := hrel
    have hsz := hb.size
    by_cases hlt : n < 15
    · have hzl : (n : Int) < 15 := by omega
      have hz0 : (0 : Int) ≤ (n : Int) := by omega
      have x0 := unhide HI n hlt
      have hst := unhide HR
      have hle := rows12_get n hlt
      rw [drop_getD12 rows12 row0 n hlt] at hst
      generalize rows12.getD n row0 = p at *
      obtain ⟨mk, s⟩ := p
      dsimp only at x0 hst hle
      rw [prL] at hst
      dsimp only at hst
      cases hi : ixF s.data.toList (two1 r) (two2 r) 1000 1 0 with
      | none => rw [hi] at hst; cases hst
      | some R =>
        rw [hi] at hst
        dsimp only at hst
        have hbB : Below w.heap.size w (wr.alloc (.cells #[.int .i32 mk, .string s] 272)) := hb.alloc hsz _
        have c0 : (wr.alloc (.cells #[.int .i32 mk, .string s] 272)).cell? ⟨wr.heap.size, 0, none⟩ = some (.int .i32 mk) := by rw [World.cell?_alloc_mark]; rfl
        by_cases hneg : R < 0
        · rw [if_pos hneg] at hst
          have HN := hide hst
          have HA := hide (fun W => ahead_no s r R W (by omega) h1 hle hi hneg)
          clear hst HR hi
          go_wp2_with (go_at_call 239; refine (unhide HA _).mono ?_; rintro e w2 ⟨rfl, b2⟩; have hb2 := hbB.trans (b2.mono hbB.size))
          go_roundw
          case rel => exact ⟨n + 1, by omega, by go_num, HN, hb2⟩
          case measure => simp [intOf]; omega
        · rw [if_neg hneg] at hst
          cases ha : ahF s r 1001 0 0 with
          | none => rw [ha] at hst; cases hst
          | some A =>
            rw [ha] at hst
            have hst2 := Option.some.inj hst
            simp only [Prod.mk.injEq] at hst2
            obtain ⟨rfl, rfl, rfl⟩ := hst2
            have HA := hide (fun W => ahead_yes s r R A W (by omega) h1 hle hi (by omega) ha)
            clear hst HR hi ha
            go_wp2_with (go_at_call 239; refine (unhide HA _).mono ?_; rintro e w2 ⟨rfl, b2⟩; have hb2 := hbB.trans (b2.mono hbB.size); have c1 : w2.cell? ⟨wr.heap.size, 0, none⟩ = some (.int .i32 mk) := (b2.cell (by exact cell_lt c0)).trans c0)
            go_quiet (fail)
            go_wp2
            go_ret3
            exact ⟨rfl, below_drewN hb2 _⟩
    · have hzl : ¬ (n : Int) < 15 := by omega
      obtain rfl : n = 15 := by omega
      have hst := unhide HR
      rw [show rows12.drop 15 = [] from rfl, prL] at hst
      have hst2 := Option.some.inj hst
      simp only [Prod.mk.injEq] at hst2
      obtain ⟨rfl, rfl, rfl⟩ := hst2
      clear hst HR
      go_wp2
      go_ret3
      exact ⟨rfl, hb⟩
end Go.Proofs.YtefobkgifigclaaGreatDoor
/- decomp.Single, looseText, put, All: of characters that fall apart without a search that gives up. -/
namespace Go.Proofs.YtefobkgifigclaaGreatDoor
set_option maxRecDepth 100000
open Go.RowKit

/-- The tables of the program, as they lie. -/
def ligs : Array Value := #[.string ⟨#[102, 102]⟩, .string ⟨#[102, 105]⟩, .string ⟨#[102, 108]⟩, .string ⟨#[102, 102, 105]⟩, .string ⟨#[102, 102, 108]⟩, .string ⟨#[197, 191, 116]⟩]
def scrs : Array Value := #[.int .i32 65, .int .i32 383, .int .i32 902, .int .i32 974, .int .i32 1025, .int .i32 1105, .int .i32 12353, .int .i32 12436]
structure L12 (w : World) : Prop where
  st : Ly w
  hp : Lay w
  lig : ∃ t fr, w.heap[9]? = some (.cells ligs t fr)
  scr : ∃ t fr, w.heap[10]? = some (.cells scrs t fr)
theorem kept_block {w w2 : World} {g : Nat} {o : Obj} (h : w.heap[g]? = some o) (hb : Below w.heap.size w w2) : w2.heap[g]? = some o := by
  rw [hb.block g (Array.getElem?_eq_some_iff.1 h).1]; exact h
theorem L12.keep {w w2 : World} (h : L12 w) (hb : Below w.heap.size w w2) : L12 w2 := by
  obtain ⟨h1, h2, ⟨t3, f3, h3⟩, ⟨t4, f4, h4⟩⟩ := h
  exact ⟨h1.keep hb, h2.below hb h2.pos, ⟨t3, f3, kept_block h3 hb⟩, ⟨t4, f4, kept_block h4 hb⟩⟩
theorem L12.fi {w : World} (h : L12 w) : w.cell? ⟨9, 1, none⟩ = some (.string ⟨#[102, 105]⟩) := by
  obtain ⟨t, f, h⟩ := h.lig
  simp [World.cell?, h, ligs]
/-- A contract by Below of what it found, for a base below that. -/
theorem Below.at {B : Nat} {a b c : World} (h : Below B a b) (hB : B ≤ a.heap.size) (k : Below b.heap.size b c) : Below B a c := h.trans (k.mono (Nat.le_trans hB h.size))

set_option maxHeartbeats 1000000 in
theorem single_no (r : Int) (w : World) (h : r < 8192 ∨ 8491 < r) : Calls Tryz.prog 220 #[.int .i32 r] w fun e w' => e = .returned (.tuple #[.int .i32 0, .bool false]) ∧ w = w' := by
  have z1 : (r == 8192) = false := by simp; omega
  have z2 : (r == 8193) = false := by simp; omega
  have z3 : (r == 8486) = false := by simp; omega
  have z4 : (r == 8490) = false := by simp; omega
  have z5 : (r == 8491) = false := by simp; omega
  go_enter Tryz.func220, Tryz.ntmps220
  go_wp2
  go_ret2
  exact ⟨rfl, rfl⟩
set_option maxHeartbeats 1000000 in
theorem loose_low (r : Int) (w : World) (h : r < 160) : Calls Tryz.prog 221 #[.int .i32 r] w fun e w' => e = .returned (.string ⟨#[]⟩) ∧ w = w' := by
  have z : decide (r < 160) = true := by simpa using h
  go_enter Tryz.func221, Tryz.ntmps221
  go_wp2
  go_ret
  exact ⟨rfl, rfl⟩
set_option maxHeartbeats 1000000 in
theorem loose_own (w : World) : Calls Tryz.prog 221 #[.int .i32 57344] w fun e w' => e = .returned (.string ⟨#[]⟩) ∧ w = w' := by
  go_enter Tryz.func221, Tryz.ntmps221
  go_wp2
  go_ret
  exact ⟨rfl, rfl⟩
set_option maxHeartbeats 1000000 in
theorem loose_fi (w : World) (hL : L12 w) : Calls Tryz.prog 221 #[.int .i32 64257] w fun e w' => e = .returned (.string ⟨#[102, 105]⟩) ∧ w = w' := by
  have c := hL.fi
  go_enter Tryz.func221, Tryz.ntmps221
  go_wp2
  go_ret
  exact ⟨rfl, rfl⟩

/-- Is a character made of itself, as far as it is looked at here? -/
def selfD (r : Int) : Bool := decide (0 ≤ r ∧ r < 160) || decide (r = 57344)
theorem selfD_iff (r : Int) : selfD r = true ↔ (0 ≤ r ∧ r < 160) ∨ r = 57344 := by unfold selfD; simp
theorem loose_self (r : Int) (w : World) (h : selfD r = true) : Calls Tryz.prog 221 #[.int .i32 r] w fun e w' => e = .returned (.string ⟨#[]⟩) ∧ w = w' := by
  rcases (selfD_iff r).1 h with h1 | rfl
  · exact loose_low r w h1.2
  · exact loose_own w

set_option maxHeartbeats 2000000 in
theorem put_self (r : Int) (B : Nat) (v : Value) (T : List Int) (w : World) (hr : selfD r = true) (hB : B ≤ w.heap.size) (h : Rn B v T w) (hT : T.length ≤ 100000) :
    Calls Tryz.prog 192 #[v, .int .i32 r, .bool true] w fun e w' => ∃ v', e = .returned v' ∧ Rn B v' (T ++ [r]) w' ∧ w.grownBy w' v.ownBlock := by
  obtain ⟨i0, hi, hz0, hz1, hz2⟩ := info_parts elem_info
  have hr2 := (selfD_iff r).1 hr
  have HS := hide (fun W => syl_any r W)
  rw [show isSyl r = false by unfold isSyl; simp; omega] at HS
  have HP := hide (fun W => pair_out r W (by omega))
  have H1 := hide (fun W => single_no r W (by omega))
  have HT := hide (fun W => loose_self r W hr)
  obtain ⟨xa, xc, hv⟩ := h.shape
  obtain ⟨N, hN⟩ : ∃ N, N = T.length := ⟨_, rfl⟩
  rw [← hN] at hv hT
  have HN := hide hN
  clear hN hr hr2
  subst hv
  have HO := hide h
  clear h
  have hm1 : N + 1 ≤ maxLen := by unfold maxLen; omega
  have hm2 : (N + 1) * 4 ≤ 140737488355328 := by omega
  go_enter Tryz.func192, Tryz.ntmps192
  go_wp2_with (first
    | (at_builtin; refine wpList_append_lies _ rfl _ _ 131 rfl B 21 i0 _ 1 4 Tryz.underlying131 hi hz0 hz1 hz2 rfl (by omega) _ N _ rfl (World.ownsRow.alloc (Rn.own (unhide HN) (unhide HO1)) _) ⟨w1.heap.size, 0, none⟩ 1 1 [.int .i32 r] rfl rfl (World.news_of_block (cs := #[.int .i32 r]) (t := 21) (fr := (0, 0)) (heap_new w1 _)) (by simp [Value.oneCell']) (by omega) hm1 hm2 (by simp; omega) (w1.heap.size + 1) (by simp) ?_; intro g9 cap9 w9 hown9 hgrow9 hat9 hlt9)
    | (go_at_call 221; refine (unhide HT _).mono ?_; rintro e w3 ⟨rfl, rfl⟩)
    | (go_at_call 220; refine (unhide H1 _).mono ?_; rintro e w2 ⟨rfl, rfl⟩)
    | (go_at_call 219; refine (unhide HP _).mono ?_; rintro e w1 ⟨rfl, b1⟩; have HO1 := hide ((unhide HO).below b1); have hs1 := b1.size)
    | (go_at_call 217; refine (unhide HS _).mono ?_; rintro e w0 ⟨rfl, rfl⟩))
  go_ret
  refine ⟨_, rfl, Rn.push (unhide HN) hown9, ?_⟩
  have g1 : w0.grownBy w1 (Value.slice xa N xc).ownBlock := ⟨b1.os, b1.tape, b1.output, b1.size, fun k hk _ => b1.block k hk⟩
  obtain ⟨a1, a2, a3, a4, a5⟩ := g1
  obtain ⟨c1, c2, c3, c4, c5⟩ := hgrow9
  refine ⟨c1.trans a1, c2.trans a2, c3.trans a3, by simp at c4; omega, fun k hk hne => ?_⟩
  rw [c5 k (by simp; omega) hne, Below.heap_alloc _ _ _ (by omega)]
  exact a5 k hk hne
theorem Rn.iterAt {B : Nat} {v : Value} {l : List Int} {w : World} {k : Nat} {s : ByteArray} {p : Nat} (h : Rn B v l w) (hk : w.heap[k]? = some (.stringIter s p)) (p2 : Nat) : Rn B v l (w.iterAt k s p2) := by
  refine ⟨h.1, ?_⟩
  rcases h.2 with h' | ⟨g, cap, cur, hv, hB, hg, rest⟩
  · exact .inl h'
  · refine .inr ⟨g, cap, cur, hv, hB, ?_, rest⟩
    have hne : g ≠ k := fun e => by rw [e, hk] at hg; cases hg
    rw [Lib.iterAt_other w k g s p2 hne]
    exact hg
/-- What a letter of the pairs is made of. -/
def pairD (r : Int) : Option (Int × Int) :=
  if 192 ≤ r ∧ r ≤ 320 then
    match prL r rows12 with
    | some (a, m, b) => if b && selfD a then some (a, m) else none
    | none => none
  else none
theorem pairD_some {r a m : Int} (h : pairD r = some (a, m)) : 192 ≤ r ∧ r ≤ 320 ∧ prL r rows12 = some (a, m, true) ∧ selfD a = true := by
  unfold pairD at h
  split at h
  · rename_i hr
    split at h
    · rename_i a' m' b hp
      split at h
      · rename_i hb
        simp only [Option.some.injEq, Prod.mk.injEq] at h
        obtain ⟨rfl, rfl⟩ := h
        simp only [Bool.and_eq_true] at hb
        exact ⟨hr.1, hr.2, by rw [hp, hb.1], hb.2⟩
      · cases h
    · cases h
  · cases h
set_option maxHeartbeats 2000000 in
theorem put_pair (r a m : Int) (B : Nat) (v : Value) (T : List Int) (w : World) (hr : pairD r = some (a, m)) (hB : B ≤ w.heap.size) (h : Rn B v T w) (hT : T.length ≤ 50000) :
    Calls Tryz.prog 192 #[v, .int .i32 r, .bool true] w fun e w' => ∃ v', e = .returned v' ∧ Rn B v' (T ++ [a, m]) w' ∧ Below B w w' := by
  obtain ⟨i0, hi, hz0, hz1, hz2⟩ := info_parts elem_info
  obtain ⟨h1, h2, h3, h4⟩ := pairD_some hr
  have HS := hide (fun W => syl_any r W)
  rw [show isSyl r = false by unfold isSyl; simp; omega] at HS
  have HP := hide (fun W => pair_in r a m true W h1 (by omega) h3)
  have HQ := hide (fun W b1 b2 => put_self a B v T W h4 b1 b2 (by omega))
  obtain ⟨xa, xc, hv⟩ := h.shape
  have HO := hide h
  obtain ⟨N, hN⟩ : ∃ N, N = (T ++ [a]).length := ⟨_, rfl⟩
  have hNT : N ≤ 60000 := by rw [hN]; simp; omega
  have HN := hide hN
  have e2 : T ++ [a, m] = (T ++ [a]) ++ [m] := by simp
  rw [e2]
  clear h hN h3 h4 e2
  generalize T ++ [a] = T2 at *
  generalize T.length = LT at *
  subst hv
  have hm1 : N + 1 ≤ maxLen := by unfold maxLen; omega
  have hm2 : (N + 1) * 4 ≤ 140737488355328 := by omega
  go_enter Tryz.func192, Tryz.ntmps192
  go_wp2_with (first
    | (at_builtin; refine wpList_append_lies _ rfl _ _ 131 rfl B 21 i0 _ 1 4 Tryz.underlying131 hi hz0 hz1 hz2 rfl (by omega) _ N _ rfl (World.ownsRow.alloc (Rn.own (unhide HN) (unhide HO2)) _) ⟨w2.heap.size, 0, none⟩ 1 1 [.int .i32 m] rfl rfl (World.news_of_block (cs := #[.int .i32 m]) (t := 21) (fr := (0, 0)) (heap_new w2 _)) (by simp [Value.oneCell']) (by omega) hm1 hm2 (by simp; omega) (w2.heap.size + 1) (by simp) ?_; intro g9 cap9 w9 hown9 hgrow9 hat9 hlt9)
    | (go_at_call 192; refine (unhide HQ _ hs1 (unhide HO1)).mono ?_; rintro e w2 ⟨v2, rfl, r2, g2⟩; have b2 := hb1.trans (below_own g2 hs1 (own_block (Rn.own rfl (unhide HO1)))); have hs2 : B ≤ w2.heap.size := Nat.le_trans hs1 g2.size; obtain ⟨ya, yc, hv2⟩ := r2.shape; rw [← unhide HN] at hv2; have HO2 := hide r2; clear r2 g2; subst hv2)
    | (go_at_call 219; refine (unhide HP _).mono ?_; rintro e w1 ⟨rfl, b1⟩; have HO1 := hide ((unhide HO).below b1); have hb1 := b1.mono hB; have hs1 := Nat.le_trans hB b1.size)
    | (go_at_call 217; refine (unhide HS _).mono ?_; rintro e w0 ⟨rfl, rfl⟩))
  go_ret
  exact ⟨_, rfl, Rn.push (unhide HN) hown9, (b2.alloc hs2 _).trans (below_own hgrow9 (by simp; omega) (own_block (Rn.own (unhide HN) (unhide HO2))))⟩
def fiL : List Int := [102, 105]
def fiT : ByteArray := ⟨#[102, 105]⟩
theorem fi_dec (p : Nat) (h : p < 2) : (Utf8.decode fiT p).2 = 1 ∧ selfD ((Utf8.decode fiT p).1 : Int) = true ∧ fiL.take (p + 1) = fiL.take p ++ [((Utf8.decode fiT p).1 : Int)] := by
  have hp : p = 0 ∨ p = 1 := by omega
  rcases hp with rfl | rfl
  · exact ⟨rfl, rfl, rfl⟩
  · exact ⟨rfl, rfl, rfl⟩
theorem fi_ne : fiT.toList.isEmpty = false := by
  rw [show fiT.toList = [102, 105] from ByteArray.toList_mk [102, 105]]
  rfl
theorem fi_ne2 : (fiT.toList == []) = false := by
  rw [show fiT.toList = [102, 105] from ByteArray.toList_mk [102, 105]]
  rfl
set_option maxHeartbeats 2000000 in
theorem put_fi (B : Nat) (v : Value) (T : List Int) (w : World) (hL : L12 w) (hB : B ≤ w.heap.size) (h : Rn B v T w) (hT : T.length ≤ 50000) :
    Calls Tryz.prog 192 #[v, .int .i32 64257, .bool true] w fun e w' => ∃ v', e = .returned v' ∧ Rn B v' (T ++ fiL) w' ∧ Below B w w' := by
  have HS := hide (fun W => syl_any 64257 W)
  rw [show isSyl 64257 = false by rfl] at HS
  have HP := hide (fun W => pair_out 64257 W (by omega))
  have H1 := hide (fun W => single_no 64257 W (by omega))
  have HT : Hid (∀ W, L12 W → Calls Tryz.prog 221 #[.int .i32 64257] W fun e w' => e = .returned (.string fiT) ∧ W = w') := loose_fi
  have HD := hide fi_dec
  have HL := hide hL
  have h2 : fiT.size = 2 := rfl
  have hne := fi_ne
  have hne2 := fi_ne2
  have HQ := hide (fun x v T W (hx : selfD x = true) b1 b2 => put_self x B v T W hx b1 b2)
  obtain ⟨xa, xc, hv⟩ := h.shape
  have HO := hide h
  clear h hL
  subst hv
  generalize fiT = s at *
  go_enter Tryz.func192, Tryz.ntmps192
  go_wp2_with (first
    | (go_at_call 221; refine (unhide HT _ (unhide HL1)).mono ?_; rintro e w3 ⟨rfl, rfl⟩)
    | (go_at_call 220; refine (unhide H1 _).mono ?_; rintro e w2 ⟨rfl, rfl⟩)
    | (go_at_call 219; refine (unhide HP _).mono ?_; rintro e w1 ⟨rfl, b1⟩; have HO1 := hide ((unhide HO).below b1); have hb1 := b1.mono hB; have hs1 := Nat.le_trans hB b1.size; have HL1 := hide ((unhide HL).keep b1))
    | (go_at_call 217; refine (unhide HS _).mono ?_; rintro e w0 ⟨rfl, rfl⟩))
  go_loopw [0] (fun u wr => ∃ p : Nat, p ≤ 2 ∧ wr.heap[w1.heap.size]? = some (.stringIter s p) ∧ Rn B u (T ++ fiL.take p) wr ∧ Below B w0 wr) (fun _ wr => 2 - wr.iterPos w1.heap.size)
  case atStart => exact ⟨0, by omega, World.iter_heap w1 s 0, by rw [List.take_zero, List.append_nil]; exact (unhide HO1).below (Below.one _ _), hb1.alloc hs1 _⟩
  case round =>
    clear HO HO1
    obtain ⟨p, hp2, hit, ho, hb⟩ := hrel
    have hpos0 := iterPos_at hit
    have hbs : B ≤ wr.heap.size := Nat.le_trans hB hb.size
    by_cases hp : p < s.size
    · have hp' : p < 2 := by omega
      have hnx : ∀ ty, (Instr.next (.pointer (some ⟨w1.heap.size, 0, none⟩)) true ty).run Tryz.prog wr = _ := fun ty => Lib.run_next_any_at wr w1.heap.size s p ty hit hp
      obtain ⟨hd1, hd2, hd3⟩ := unhide HD p hp'
      rw [hd1] at hnx
      have hit2 := Lib.iterAt_heap wr w1.heap.size s p (p + 1) hit
      have hb2 := Lib.below_iterAt hb (k := w1.heap.size) hs1 s (p + 1)
      have ho2 := ho.iterAt hit (p + 1)
      have hsz2 : B ≤ (wr.iterAt w1.heap.size s (p + 1)).heap.size := by rw [Lib.iterAt_size]; exact hbs
      have HTK : Hid (T ++ fiL.take (p + 1) = (T ++ fiL.take p) ++ [((Utf8.decode s p).1 : Int)]) := by show _ = _; rw [hd3, List.append_assoc]
      have hll : (T ++ fiL.take p).length ≤ 100000 := by
        rw [List.length_append]
        have : (fiL.take p).length ≤ 2 := by rw [List.length_take]; exact Nat.min_le_right _ _
        omega
      obtain ⟨ya, yc, hv2⟩ := ho.shape
      have HLL := hide hll
      clear hll
      generalize (Utf8.decode s p).1 = x at *
      obtain ⟨W1, hW1⟩ : ∃ W1, W1 = wr.iterAt w1.heap.size s (p + 1) := ⟨_, rfl⟩
      rw [← hW1] at hnx hit2 hb2 ho2 hsz2
      clear hW1 hd3 hd1 hit ho
      generalize T ++ fiL.take p = T2 at *
      obtain ⟨LT, hLT⟩ : ∃ N, N = T2.length := ⟨_, rfl⟩
      rw [← hLT] at hv2
      clear hLT
      subst hv2
      have HO2 := hide ho2
      have HIT := hide hit2
      have HD2 := hide hd2
      have HB2 := hide hb2
      clear ho2 hit2 hd2 hb2
      go_wp2_with (go_at_call 192; refine (unhide HQ _ _ T2 _ (unhide HD2) hsz2 (unhide HO2) (unhide HLL)).mono ?_; rintro e w5 ⟨v5, rfl, r5, g5⟩)
      have hit5 : w5.heap[w1.heap.size]? = some (.stringIter s (p + 1)) := by
        rw [g5.block _ (Array.getElem?_eq_some_iff.1 (unhide HIT)).1 ?_]
        · exact unhide HIT
        · intro hne
          rcases (unhide HO2).2 with ⟨hv', _⟩ | ⟨g, cap, cur, hv', _, hg, _⟩
          · rw [hv'] at hne; simp [Value.ownBlock] at hne
          · rw [hv'] at hne
            simp [Value.ownBlock] at hne
            rw [← hne, unhide HIT] at hg
            cases hg
      go_roundw
      case rel => exact ⟨p + 1, by omega, hit5, by rw [unhide HTK]; exact r5, (unhide HB2).trans (below_own g5 hsz2 (own_block (Rn.own rfl (unhide HO2))))⟩
      case measure => rw [iterPos_at hit5, hpos0]; omega
    · have hnx : ∀ ty, (Instr.next (.pointer (some ⟨w1.heap.size, 0, none⟩)) true ty).run Tryz.prog wr = _ := fun ty => Lib.run_next_end_at wr w1.heap.size s p ty hit hp
      obtain rfl : p = 2 := by omega
      obtain ⟨ya, yc, hv2⟩ := ho.shape
      have e2 : T ++ fiL.take 2 = T ++ fiL := rfl
      rw [e2] at ho hv2
      have HO2 := hide ho
      clear ho
      obtain ⟨LT, hLT⟩ : ∃ N, N = (T ++ fiL).length := ⟨_, rfl⟩
      rw [← hLT] at hv2
      clear hLT
      subst hv2
      go_wp2
      go_ret
      exact ⟨.slice ya LT yc, rfl, unhide HO2, hb⟩
/-- What a character falls apart into, and whether it is one that is looked at here. -/
def decO (r : Int) : List Int := if selfD r then [r] else if r = 64257 then fiL else match pairD r with | some (a, m) => [a, m] | none => []
def dOk (r : Int) : Bool := selfD r || decide (r = 64257) || (pairD r).isSome
theorem decO_len (r : Int) : (decO r).length ≤ 2 := by
  unfold decO
  split
  · simp
  · split
    · simp [fiL]
    · split <;> simp
theorem put_any12 (r : Int) (B : Nat) (v : Value) (T : List Int) (w : World) (hL : L12 w) (hr : dOk r = true) (hB : B ≤ w.heap.size) (h : Rn B v T w) (hT : T.length ≤ 50000) :
    Calls Tryz.prog 192 #[v, .int .i32 r, .bool true] w fun e w' => ∃ v', e = .returned v' ∧ Rn B v' (T ++ decO r) w' ∧ Below B w w' := by
  unfold decO
  by_cases h1 : selfD r = true
  · rw [if_pos h1]
    exact (put_self r B v T w h1 hB h (by omega)).mono fun e w' ⟨v', he, hr', hg⟩ => ⟨v', he, hr', below_own hg hB (own_block (Rn.own rfl h))⟩
  · rw [if_neg h1]
    by_cases h2 : r = 64257
    · rw [if_pos h2]
      subst h2
      exact put_fi B v T w hL hB h hT
    · rw [if_neg h2]
      cases hp : pairD r with
      | none =>
        exfalso
        unfold dOk at hr
        rw [hp] at hr
        simp [h1, h2] at hr
      | some q =>
        obtain ⟨a, m⟩ := q
        exact put_pair r a m B v T w hp hB h hT

/-- decomp.All, plainly. -/
def decL (l : List Int) : List Int := l.flatMap decO
theorem decL_take (l : List Int) (k : Nat) (h : k < l.length) : decL (l.take (k + 1)) = decL (l.take k) ++ decO (l.getD k 0) := by
  rw [take_snoc l k h]; simp [decL]
theorem decL_takeLen (l : List Int) (k : Nat) : (decL (l.take k)).length ≤ 2 * l.length := by
  have h1 : ∀ m : List Int, (decL m).length ≤ 2 * m.length := fun m => by
    induction m with
    | nil => simp [decL]
    | cons x m ih =>
      have := decO_len x
      unfold decL at ih ⊢
      rw [List.flatMap_cons, List.length_append, List.length_cons]
      omega
  have := h1 (l.take k)
  have h2 : (l.take k).length ≤ l.length := by rw [List.length_take]; exact Nat.min_le_right _ _
  omega
set_option maxHeartbeats 800000 in
theorem dall_empty (a : Option Addr) (cap : Nat) (w : World) :
    Calls Tryz.prog 158 #[.bool true, .slice a 0 cap] w fun e w' => ∃ v, e = .returned v ∧ Rn w.heap.size v [] w' ∧ Below w.heap.size w w' := by
  obtain ⟨i0, hi, hz0, hz1, hz2⟩ := info_parts elem_info
  go_enter Tryz.func158, Tryz.ntmps158
  go_wp2_with (refine wpList_make_own _ rfl _ _ 131 rfl w.heap.size 21 i0 (.int .i32 0) 1 Tryz.underlying131 hi hz0 hz1 .i64 .i64 _ 0 rfl rfl rfl (by rw [hz2]; omega) (Nat.zero_le _) (Nat.le_refl _) ?_; intro w1 hown1 hgrow1)
  refine wp_loop_rounds 1 ?_
  rw [rounds_succ]
  have HB : Below w.heap.size w w1 := (Below.refl _ _).grown hgrow1 (Nat.le_refl _) (by intro k h; cases h)
  have HO := hide hown1
  clear hown1 hgrow1
  go_wp2
  go_ret
  exact ⟨_, rfl, unhide HO, HB⟩
set_option maxHeartbeats 1600000 in
theorem dall_some (b off cap : Nat) (l : List Int) (w : World) (hL : L12 w) (hlen : l.length ≤ 20000) (h0 : 0 < l.length) (hok : ∀ i, i < l.length → dOk (l.getD i 0) = true)
    (hcell : ∀ i, i < l.length → w.cell? ⟨b, off + i, none⟩ = some (.int .i32 (l.getD i 0))) :
    Calls Tryz.prog 158 #[.bool true, .slice (some ⟨b, off, none⟩) l.length cap] w fun e w' => ∃ v, e = .returned v ∧ Rn w.heap.size v (decL l) w' ∧ Below w.heap.size w w' := by
  obtain ⟨i0, hi, hz0, hz1, hz2⟩ := info_parts elem_info
  have HC := hide hcell
  have HOK := hide hok
  have HLY := hide hL
  have hml : l.length ≤ maxLen := by unfold maxLen; omega
  clear hcell hok hL
  go_enter Tryz.func158, Tryz.ntmps158
  go_wp2_with (refine wpList_make_own _ rfl _ _ 131 rfl w.heap.size 21 i0 (.int .i32 0) 1 Tryz.underlying131 hi hz0 hz1 .i64 .i64 _ l.length rfl rfl rfl (by rw [hz2]; omega) hml (Nat.le_refl _) ?_; intro w1 hown1 hgrow1)
  have HB : Below w.heap.size w w1 := (Below.refl _ _).grown hgrow1 (Nat.le_refl _) (by intro k h; cases h)
  have HO := hide hown1
  clear hown1 hgrow1
  go_loopw [5, 13] (fun v i wr => ∃ k : Nat, k ≤ l.length ∧ i = .int .i64 (k : Int) ∧ Rn w.heap.size v (decL (l.take k)) wr ∧ Below w.heap.size w wr) (fun _ i _ => l.length - (intOf i).toNat)
  case atStart => exact ⟨0, Nat.zero_le _, rfl, unhide HO, HB⟩
  case round =>
    clear HO HB
    obtain ⟨k, hk, rfl, hown, hb⟩ := hrel
    have hsz := hb.size
    by_cases hlt : k < l.length
    · have hzl : (k : Int) < (l.length : Int) := by omega
      have hz0' : (0 : Int) ≤ (k : Int) := by omega
      have g1 := unhide HC k hlt
      have k1 : wr.cell? ⟨b, off + k, none⟩ = some (.int .i32 (l.getD k 0)) := (hb.cell (by exact cell_lt g1)).trans g1
      have HS := hide (decL_take l k hlt)
      have hTl := decL_takeLen l k
      have HA := hide (put_any12 (l.getD k 0) w.heap.size _ _ wr ((unhide HLY).keep hb) (unhide HOK k hlt) hsz hown (by omega))
      clear g1
      obtain ⟨xa, xc, hv⟩ := hown.shape
      generalize l.getD k 0 = x at *
      generalize decL (l.take k) = T at *
      generalize decO x = p at *
      obtain ⟨N, hN⟩ : ∃ N, N = T.length := ⟨_, rfl⟩
      rw [← hN] at hv
      clear hN hown
      subst hv
      go_wp2_with (go_at_call 192; refine (unhide HA).mono ?_; rintro e w2 ⟨v2, rfl, r2, b2⟩)
      go_roundw
      case rel => exact ⟨k + 1, by omega, by go_num, by rw [unhide HS]; exact r2, hb.trans b2⟩
      case measure => simp [intOf]; omega
    · have hzl : ¬ (k : Int) < (l.length : Int) := by omega
      obtain rfl : k = l.length := by omega
      rw [List.take_length] at hown
      obtain ⟨xa, xc, hv⟩ := hown.shape
      obtain ⟨N, hN⟩ : ∃ N, N = (decL l).length := ⟨_, rfl⟩
      rw [← hN] at hv
      clear hN
      have HO := hide hown
      clear hown
      subst hv
      go_wp2
      go_ret
      exact ⟨.slice xa N xc, rfl, unhide HO, hb⟩
theorem dall_any (v : Value) (l : List Int) (w : World) (hL : L12 w) (hlen : l.length ≤ 20000) (hok : ∀ x, x ∈ l → dOk x = true) (hR : Row w v l) : Calls Tryz.prog 158 #[.bool true, v] w fun e w' => ∃ v, e = .returned v ∧ Row w' v (decL l) ∧ Below w.heap.size w w' := by
  obtain ⟨a, c, rfl, h1⟩ := hR
  by_cases h0 : l.length = 0
  · obtain rfl : l = [] := List.eq_nil_of_length_eq_zero h0
    exact (dall_empty a c w).mono fun _ _ ⟨v, he, h, hb⟩ => ⟨v, he, h.row, hb⟩
  · obtain ⟨b1, o1, rfl, k1⟩ := h1 (by omega)
    exact (dall_some b1 o1 c l w hL hlen (by omega) (fun i hi => hok _ (by simp [List.getD, hi])) k1).mono fun _ _ ⟨v, he, h, hb⟩ => ⟨v, he, h.row, hb⟩
end Go.Proofs.YtefobkgifigclaaGreatDoor
