/- Contract of the program's Encode. -/
import Derived.Test.YtefobkgifigclaaGreatDoorM07
import Derived.Test.YtefobkgifigclaaGreatDoorM01
import Derived.Deep.RegionHeld3
import Derived.Deep.AppendLies
namespace Go.Proofs.YtefobkgifigclaaGreatDoor
set_option maxRecDepth 100000
open Go.RowKit

theorem strOfNums_append (a b : List Int) : strOfNums a ++ strOfNums b = strOfNums (a ++ b) := by
  unfold strOfNums
  rw [ByteArray.mk_append_mk, List.map_append]
theorem ret_se {a b : ByteArray} {c d : Int} (h : a = b) (h' : c = d) : Ending.returned (.tuple #[.string a, .int .i64 c]) = .returned (.tuple #[.string b, .int .i64 d]) := by rw [h, h']

/-- What Encode tells: the bytes, or an error. -/
def encS (l : List Int) : ByteArray := if okL l then strOfNums (encL l) else strOfNums []
def encE (l : List Int) : Int := if okL l then 0 else 10

theorem okL_snoc (l : List Int) (x : Int) : okL (l ++ [x]) = (okL l && isPt x) := by simp [okL]
theorem encL_snoc (l : List Int) (x : Int) : encL (l ++ [x]) = encL l ++ enc1 x := by rw [encL_append]; simp [encL]
theorem okL_bad (l : List Int) (k : Nat) (h : k < l.length) (hx : isPt (l.getD k 0) = false) : okL l = false := by
  unfold okL
  rw [List.all_eq_false]
  refine ⟨l[k], List.getElem_mem h, ?_⟩
  simp [List.getD, h] at hx
  simp [hx]
theorem okL_all (l : List Int) : okL (l.take l.length) = okL l := by rw [List.take_length]

theorem Tryz.info5 : (Tryz.prog.info? 5).map (fun i => (i.zero, i.size, i.bytes)) = some (some (.int .u8 0), 1, 1) := by kernel_rfl

/-- The slice v is the call's own, and holds the bytes xs; nothing old has turned. -/
def Own (B : Nat) (w0 w : World) (v : Value) (xs : List Int) : Prop :=
  ∃ g cap, v = .slice (some ⟨g, 0, none⟩) xs.length cap ∧ w.ownsRow B 5 1 v xs.length (xs.map (Value.int .u8)) ∧ Below B w0 w

theorem add_zero (g j : Nat) : (⟨g, 0, none⟩ : Addr).add j = ⟨g, j, none⟩ := by unfold Addr.add; split <;> simp_all
theorem own_push {B : Nat} {w0 wa w1 : World} {xs : List Int} {g cap g1 cap1 : Nat} {z : Int} (hna : Below B w0 wa) (hB : B ≤ wa.heap.size)
    (hown : wa.ownsRow B 5 1 (.slice (some ⟨g, 0, none⟩) xs.length cap) xs.length (xs.map (Value.int .u8)))
    (hown1 : w1.ownsRow B 5 1 (.slice (some ⟨g1, 0, none⟩) (xs.length + 1) cap1) (xs.length + 1) (xs.map (Value.int .u8) ++ [.int .u8 z]))
    (hgrow : wa.grownBy w1 (Value.slice (some ⟨g, 0, none⟩) xs.length cap).ownBlock) : Own B w0 w1 (.slice (some ⟨g1, 0, none⟩) (xs.length + 1) cap1) (xs ++ [z]) := by
  refine ⟨g1, cap1, by simp, ?_, hna.grown hgrow hB fun k hk => (hown.lt k hk).1⟩
  simpa using hown1

/-- The bytes behind the first: j of them. -/
def tl (r : Int) : Nat → List Int
  | 0 => []
  | j + 1 => (128 + r / 64 ^ j % 64) :: tl r j
theorem tl_length (r : Int) : ∀ j, (tl r j).length = j
  | 0 => rfl
  | j + 1 => by simp [tl, tl_length r j]

/-- The first byte's number, and what the program reckons on its way to it. -/
theorem first_byte (x : Int) (hx : isPt x = true) :
    ∃ z : Int, bits .or .u8 (markOf (lenOf x)) (IntKind.u8.wrap (x / 2 ^ ((lenOf x - 1) * 6).toNat)) = z ∧ enc1 x = z :: tl x (lenOf x - 1).toNat := by
  obtain ⟨h0, h1⟩ := isPt_lo hx
  unfold enc1 lenOf
  rw [if_pos hx]
  by_cases a : x < 128
  · simp only [if_pos a]
    refine ⟨x, ?_, rfl⟩
    rw [IntKind.wrap_u8']
    have e : x / 2 ^ (((1 : Int) - 1) * 6).toNat % 256 = x := by simp; omega
    rw [e]
    exact u8_or0 x h0 (by omega)
  by_cases b : x < 2048
  · simp only [if_neg a, if_pos b]
    refine ⟨192 + x / 64, ?_, ?_⟩
    · rw [IntKind.wrap_u8']
      have e : x / 2 ^ (((2 : Int) - 1) * 6).toNat % 256 = x / 64 := by show x / 64 % 256 = x / 64; omega
      rw [e]
      exact u8_or192 _ (by omega) (by omega)
    · simp [tl]
  by_cases c : x < 65536
  · simp only [if_neg a, if_neg b, if_pos c]
    refine ⟨224 + x / 4096, ?_, ?_⟩
    · rw [IntKind.wrap_u8']
      have e : x / 2 ^ (((3 : Int) - 1) * 6).toNat % 256 = x / 4096 := by show x / 4096 % 256 = x / 4096; omega
      rw [e]
      exact u8_or224 _ (by omega) (by omega)
    · simp [tl]
  · simp only [if_neg a, if_neg b, if_neg c]
    refine ⟨240 + x / 262144, ?_, ?_⟩
    · rw [IntKind.wrap_u8']
      have e : x / 2 ^ (((4 : Int) - 1) * 6).toNat % 256 = x / 262144 := by show x / 262144 % 256 = x / 262144; omega
      rw [e]
      exact u8_or240 _ (by omega) (by omega)
    · simp [tl]

theorem tail_byte (x : Int) (j : Nat) (h0 : 0 ≤ x) (h1 : x ≤ 1114111) : bits .or .u8 128 (bits .and .i32 (x / 2 ^ (j * 6)) 63 % 256) = 128 + x / 64 ^ j % 64 := by
  have e : (2 : Int) ^ (j * 6) = 64 ^ j := by rw [Nat.mul_comm, Int.pow_mul]; rfl
  rw [e]
  have hp : (0 : Int) < 64 ^ j := Int.pow_pos (by decide)
  have d0 : 0 ≤ x / 64 ^ j := Int.ediv_nonneg h0 (Int.le_of_lt hp)
  have d1 : x / 64 ^ j ≤ x := Int.ediv_le_self _ h0
  rw [i32_and63 _ d0 (by omega)]
  have d2 : x / 64 ^ j % 64 % 256 = x / 64 ^ j % 64 := by omega
  rw [d2]
  exact u8_or128 _ (by omega) (by omega)

set_option maxHeartbeats 800000 in
theorem encode_some (b off len cap : Nat) (l : List Int) (w : World) (hl : l.length = len) (hlen : len ≤ 80000)
    (hcell : ∀ i, i < len → w.cell? ⟨b, off + i, none⟩ = some (.int .i32 (l.getD i 0))) :
    Calls Tryz.prog 90 #[.slice (some ⟨b, off, none⟩) len cap] w fun e w' => e = .returned (.tuple #[.string (encS l), .int .i64 (encE l)]) ∧ Below w.heap.size w w' := by
  obtain ⟨i0, hi, hz0, hz1, hz2⟩ := info_parts Tryz.info5
  have HL := hide hl
  have HC := hide hcell
  clear hl hcell
  have hml : len ≤ maxLen := by unfold maxLen; omega
  go_enter Tryz.func90, Tryz.ntmps90
  go_wp2_with (refine wpList_make_own _ rfl _ _ 84 rfl w.heap.size 5 i0 (.int .u8 0) 1 Tryz.underlying84 hi hz0 hz1 .i64 .i64 _ len rfl rfl rfl (by rw [hz2]; omega) hml (Nat.le_refl _) ?_; intro w1 hown1 hgrow1)
  have HO : Own w.heap.size w w1 (.slice (some ⟨w.heap.size, 0, none⟩) 0 len) [] := ⟨w.heap.size, len, rfl, hown1, (Below.refl _ _).grown hgrow1 (Nat.le_refl _) (by intro k h; cases h)⟩
  clear hown1 hgrow1
  go_loopw [4, 14] (fun v i wr => ∃ k : Nat, k ≤ len ∧ i = .int .i64 k ∧ okL (l.take k) = true ∧ Own w.heap.size w wr v (encL (l.take k))) (fun _ i _ => len - (intOf i).toNat)
  case atStart => exact ⟨0, Nat.zero_le _, rfl, rfl, HO⟩
  case round =>
    clear HO
    obtain ⟨k, hk, rfl, hok, g, cap', rfl, hown, hnx⟩ := hrel
    have HOK := hide hok
    clear hok
    have hs1 := encL_bound (l.take k)
    have hs3 : (l.take k).length ≤ k := List.length_take_le _ _
    by_cases hlt : k < len
    · have hc0 := unhide HC k hlt
      have hbk := cell_lt hc0
      have hc1 : wr.cell? ⟨b, off + k, none⟩ = some (.int .i32 (l.getD k 0)) := (hnx.cell (by exact hbk)).trans hc0
      have hsn := hide (take_snoc l k (by rw [unhide HL]; exact hlt))
      have HB := hide (okL_bad l k (by rw [unhide HL]; exact hlt))
      clear hc0 hbk
      generalize l.getD k 0 = x at *
      have hzl : (k : Int) < (len : Int) := by omega
      cases hx : isPt x
      · have HE := hide (unhide HB hx)
        have hl0 : lenOf x = 0 := by unfold lenOf; simp [hx]
        have H13 : Hid (∀ w, Calls Tryz.prog 125 #[.int .i32 x] w fun e w' => e = .returned (.int .i64 0) ∧ w' = w) := fun w => by rw [← hl0]; exact length_any x w
        clear hl0
        go_wp2_with (go_at_call 125; refine (unhide H13 _).mono ?_; rintro e w' ⟨rfl, rfl⟩)
        go_ret2
        have he := unhide HE
        exact ⟨ret_se (by unfold encS; rw [he]; rfl) (by unfold encE; rw [he]; rfl), hnx⟩
      · have hl0 : 1 ≤ lenOf x ∧ lenOf x ≤ 4 := by
          unfold lenOf; rw [if_pos hx]; split
          · omega
          · split
            · omega
            · split <;> omega
        have HX := hide hx
        have hx0 := (isPt_lo hx).1
        have hx1 := (isPt_lo hx).2
        clear hx
        have H13 : Hid (∀ w, Calls Tryz.prog 125 #[.int .i32 x] w fun e w' => e = .returned (.int .i64 (lenOf x)) ∧ w' = w) := fun w => length_any x w
        obtain ⟨z, hor, he1⟩ := first_byte x (unhide HX)
        have HE1 := hide he1
        clear he1
        generalize lenOf x = n at *
        obtain ⟨n1, n4⟩ := hl0
        have hw1 : IntKind.i64.wrap (n - 1) = n - 1 := by simp [IntKind.wrap, IntKind.bits, IntKind.signed]; omega
        have hw2 : IntKind.i64.wrap ((n - 1) * 6) = (n - 1) * 6 := by simp [IntKind.wrap, IntKind.bits, IntKind.signed]; omega
        have hne : (n == 0) = false := by simp; omega
        have hsz := hnx.size
        have hm1 : (encL (l.take k)).length + 1 ≤ maxLen := by unfold maxLen; omega
        have hm2 : ((encL (l.take k)).length + 1) * 1 ≤ 140737488355328 := by omega
        go_wp2_with (go_at_call 125; refine (unhide H13 _).mono ?_; rintro e w' ⟨rfl, hq⟩; obtain rfl := hq.symm; clear hq)
        go_region_held3 (fun _ => True) (trivial)
          (first
            | (go_at_call 126; refine (headMark_any n _).mono ?_; rintro e w' ⟨rfl, rfl⟩)
            | (refine step_append_lies _ (by rfl) _ _ _ (by rfl) w.heap.size 5 i0 _ 1 1 Tryz.underlying84 hi hz0 hz1 hz2 rfl (by omega) _ _ _ (by rfl) ((hown.alloc _).drew) ⟨wr.heap.size, 0, none⟩ 1 1 [.int .u8 z] (by rfl) (by rfl) (World.news_of_block (cs := #[.int .u8 z]) (t := 5) (fr := (0, 0)) (heap_alloc_new wr _)) (by simp [Value.oneCell']) (by omega) hm1 hm2 (by simp; omega) (wr.heap.size + 1) (by simp) ?_; intro g1 cap1 w1 hown1 hgrow hat hlt1))
        have HO1 := own_push (z := z) ((hnx.alloc hsz _).drew) (by simp; omega) ((hown.alloc _).drew) hown1 hgrow
        clear hown1 hgrow hat hlt1 hown hm1 hm2 hor hnx hc1
        go_wp2
        go_loopw [4, 8] (fun v i ws => ∃ (j : Nat) (X : List Int), (j : Int) ≤ n - 1 ∧ i = .int .i64 ((j : Int) - 1) ∧ X ++ tl x j = enc1 x ∧ Own w.heap.size w ws v (encL (l.take k) ++ X)) (fun _ i _ => (intOf i + 1).toNat)
        case atStart =>
          refine ⟨(n - 1).toNat, [z], by omega, ?_, (unhide HE1).symm, HO1⟩
          rw [show (((n - 1).toNat : Nat) : Int) - 1 = n - 2 by omega]
        case round =>
          obtain ⟨j, X, hj, hij, hX, g2, cap2, rfl, hown2, hnx2⟩ := hrel
          have hsz2 := hnx2.size
          have HX1 := hide hX
          have hlX : X.length + j = (enc1 x).length := by rw [← hX]; simp [tl_length]
          have hl4 := enc1_bound x
          clear hX HO1
          rcases j with _ | j
          · subst hij
            go_wp2
            go_roundw
            case rel =>
              have hn : (l.take k ++ [x]) = l.take (k + 1) := (unhide hsn).symm
              have hX : X = enc1 x := by have := unhide HX1; simpa [tl] using this
              refine ⟨k + 1, by omega, by go_num, ?_, g2, cap2, ?_, ?_, hnx2⟩
              · rw [← hn, okL_snoc, unhide HOK, unhide HX]; rfl
              · rw [← hn, encL_snoc, ← hX]
              · rw [← hn, encL_snoc, ← hX]; exact hown2
            case measure => simp [intOf]; omega
          · rw [show (((j + 1 : Nat) : Int) - 1) = (j : Int) by omega] at hij
            subst hij
            have hm1 : (encL (l.take k) ++ X).length + 1 ≤ maxLen := by unfold maxLen; simp; omega
            have hm2 : ((encL (l.take k) ++ X).length + 1) * 1 ≤ 140737488355328 := by simp; omega
            go_wp2_with (at_builtin; refine wpList_append_lies _ rfl _ _ 84 rfl w.heap.size 5 i0 _ 1 1 Tryz.underlying84 hi hz0 hz1 hz2 rfl (by omega) _ _ _ rfl (hown2.alloc _) ⟨wr.heap.size, 0, none⟩ 1 1 [.int .u8 (bits .or .u8 128 (bits .and .i32 (x / 2 ^ (j * 6)) 63 % 256))] rfl rfl (cell_one_new _ _ _) (by simp [Value.oneCell']) (by omega) hm1 hm2 (by simp; omega) (wr.heap.size + 1) (by simp) ?_; intro g3 cap3 w3 hown3 hgrow3 hat3 hlt3)
            have HO3 := own_push (hnx2.alloc hsz2 _) (by simp; omega) (hown2.alloc _) hown3 hgrow3
            rw [tail_byte x j hx0 hx1] at HO3
            clear hown3 hgrow3 hat3 hlt3 hown2 hm1 hm2
            go_wp2
            go_roundw
            case rel =>
              have hX3 : (X ++ [128 + x / 64 ^ j % 64]) ++ tl x j = enc1 x := by have := unhide HX1; simpa [tl] using this
              rw [List.append_assoc, List.length_append] at HO3
              (repeat apply Exists.intro)
              refine ⟨?_, rfl⟩
              exact ⟨j, X ++ [128 + x / 64 ^ j % 64], by omega, by go_num, hX3, HO3⟩
            case measure => simp [intOf]
    · have hzl : ¬ (k : Int) < (len : Int) := by omega
      have hkl : k = l.length := by rw [unhide HL]; omega
      have hok := unhide HOK
      rw [hkl, okL_all] at hok
      have HES : Hid (encS l = strOfNums (encL (l.take k))) := by unfold encS; rw [hkl, List.take_length, hok]; rfl
      have HEE : Hid (encE l = 0) := by unfold encE; rw [hok]; rfl
      have hcells : ∀ i, i < (encL (l.take k)).length → wr.cell? ⟨g, 0 + i, none⟩ = some (.int .u8 ((encL (l.take k)).getD i 0)) := fun i hi' => by
        have := hown.cells (g := g) rfl i (.int .u8 ((encL (l.take k)).getD i 0)) (by simp [List.getD, hi'])
        rw [add_zero g i] at this
        rw [Nat.zero_add]
        exact this
      have hcv := run_convert_bytes_arg wr 84 5 Tryz.underlying84 Tryz.underlying5 g 0 (encL (l.take k)).length cap' (encL (l.take k)) rfl hcells 9 Tryz.underlying9
      clear hcells hkl hok
      go_wp2
      go_ret2
      exact ⟨ret_se (unhide HES).symm (unhide HEE).symm, hnx⟩
theorem empty_nums : strOfNums [] = { data := #[] } := rfl

set_option maxHeartbeats 400000 in
theorem encode_empty (a : Option Addr) (cap : Nat) (w : World) :
    Calls Tryz.prog 90 #[.slice a 0 cap] w fun e w' => e = .returned (.tuple #[.string (strOfNums []), .int .i64 0]) ∧ Below w.heap.size w w' := by
  obtain ⟨i0, hi, hz0, hz1, hz2⟩ := info_parts Tryz.info5
  go_enter Tryz.func90, Tryz.ntmps90
  go_wp2_with (refine wpList_make_own _ rfl _ _ 84 rfl w.heap.size 5 i0 (.int .u8 0) 1 Tryz.underlying84 hi hz0 hz1 .i64 .i64 _ 0 rfl rfl rfl (by rw [hz2]; omega) (Nat.zero_le _) (Nat.le_refl _) ?_; intro w1 hown1 hgrow1)
  refine wp_loop_rounds 1 ?_
  rw [rounds_succ]
  have HB : Below w.heap.size w w1 := (Below.refl _ _).grown hgrow1 (Nat.le_refl _) (by intro k h; cases h)
  have hcv := run_convert_bytes_arg w1 84 5 Tryz.underlying84 Tryz.underlying5 w.heap.size 0 0 0 [] rfl (fun i hi => by omega) 9 Tryz.underlying9
  clear hown1 hgrow1
  go_wp2
  go_ret2
  exact ⟨rfl, HB⟩

theorem encode_any (v : Value) (l : List Int) (w : World) (hl : l.length ≤ 80000) (h : Row w v l) :
    Calls Tryz.prog 90 #[v] w fun e w' => e = .returned (.tuple #[.string (encS l), .int .i64 (encE l)]) ∧ Below w.heap.size w w' := by
  obtain ⟨a, c, rfl, h1⟩ := h
  by_cases h0 : l.length = 0
  · obtain rfl : l = [] := List.eq_nil_of_length_eq_zero h0
    exact encode_empty a c w
  · obtain ⟨b1, o1, rfl, k1⟩ := h1 (by omega)
    exact encode_some b1 o1 l.length c l w rfl hl k1

end Go.Proofs.YtefobkgifigclaaGreatDoor
