/- Contract of the program's Encode. -/
import Derived.Test.YticgeabmhmojfaaGreatDoorM06
import Derived.Test.YticgeabmhmojfaaGreatDoorM02
import Derived.Deep.RegionHeld3
import Derived.Deep.AppendLies
namespace Go.Proofs.YticgeabmhmojfaaGreatDoor
set_option maxRecDepth 100000
open Go.RowKit

theorem strOfNums_append (a b : List Int) : strOfNums a ++ strOfNums b = strOfNums (a ++ b) := by
  unfold strOfNums
  rw [ByteArray.mk_append_mk, List.map_append]
theorem ret_se {a b : ByteArray} {c d : Int} (h : a = b) (h' : c = d) : Ending.returned (.tuple #[.string a, .int .i64 c]) = .returned (.tuple #[.string b, .int .i64 d]) := by rw [h, h']

/-- What Encode tells: the bytes, or an error. -/
def encS (l : List Int) : ByteArray := if okL l then strOfNums (encL l) else strOfNums []
def encE (l : List Int) : Int := if okL l then 0 else 10

theorem okL_snoc (l : List Int) (x : Int) : okL (l ++ [x]) = (okL l && isPt x) := by simp [okL]
theorem encL_snoc (l : List Int) (x : Int) : encL (l ++ [x]) = encL l ++ enc1 x := by rw [encL_append]; simp [encL]
theorem okL_bad (l : List Int) (k : Nat) (h : k < l.length) (hx : isPt (l.getD k 0) = false) : okL l = false := by
  unfold okL
  rw [List.all_eq_false]
  refine ⟨l[k], List.getElem_mem h, ?_⟩
  simp [List.getD, h] at hx
  simp [hx]
theorem okL_all (l : List Int) : okL (l.take l.length) = okL l := by rw [List.take_length]

theorem Tryz.info5 : (Tryz.prog.info? 5).map (fun i => (i.zero, i.size, i.bytes)) = some (some (.int .u8 0), 1, 1) := by kernel_rfl

/-- The slice v is the call's own, and holds the bytes xs; nothing old has turned. -/
def Own (B : Nat) (w0 w : World) (v : Value) (xs : List Int) : Prop :=
  ∃ g cap, v = .slice (some ⟨g, 0, none⟩) xs.length cap ∧ w.ownsRow B 5 1 v xs.length (xs.map (Value.int .u8)) ∧ Below B w0 w

theorem add_zero (g j : Nat) : (⟨g, 0, none⟩ : Addr).add j = ⟨g, j, none⟩ := by unfold Addr.add; split <;> simp_all
theorem own_push {B : Nat} {w0 wa w1 : World} {xs : List Int} {g cap g1 cap1 : Nat} {z : Int} (hna : Below B w0 wa) (hB : B ≤ wa.heap.size)
    (hown : wa.ownsRow B 5 1 (.slice (some ⟨g, 0, none⟩) xs.length cap) xs.length (xs.map (Value.int .u8)))
    (hown1 : w1.ownsRow B 5 1 (.slice (some ⟨g1, 0, none⟩) (xs.length + 1) cap1) (xs.length + 1) (xs.map (Value.int .u8) ++ [.int .u8 z]))
    (hgrow : wa.grownBy w1 (Value.slice (some ⟨g, 0, none⟩) xs.length cap).ownBlock) : Own B w0 w1 (.slice (some ⟨g1, 0, none⟩) (xs.length + 1) cap1) (xs ++ [z]) := by
  refine ⟨g1, cap1, by simp, ?_, hna.grown hgrow hB fun k hk => (hown.lt k hk).1⟩
  simpa using hown1

/-- The bytes behind the first: j of them. -/
def tl (r : Int) : Nat → List Int
  | 0 => []
  | j + 1 => (128 + r / 64 ^ j % 64) :: tl r j
theorem tl_length (r : Int) : ∀ j, (tl r j).length = j
  | 0 => rfl
  | j + 1 => by simp [tl, tl_length r j]

/-- The first byte's number, and what the program reckons on its way to it. -/
theorem first_byte (x : Int) (hx : isPt x = true) :
    ∃ z : Int, bits .or .u8 (markOf (lenOf x)) (IntKind.u8.wrap (x / 2 ^ ((lenOf x - 1) * 6).toNat)) = z ∧ enc1 x = z :: tl x (lenOf x - 1).toNat := by
  obtain ⟨h0, h1⟩ := isPt_lo hx
  unfold enc1 lenOf
  rw [if_pos hx]
  by_cases a : x < 128
  · simp only [if_pos a]
    refine ⟨x, ?_, rfl⟩
    rw [IntKind.wrap_u8']
    have e : x / 2 ^ (((1 : Int) - 1) * 6).toNat % 256 = x := by simp; omega
    rw [e]
    exact u8_or0 x h0 (by omega)
  by_cases b : x < 2048
  · simp only [if_neg a, if_pos b]
    refine ⟨192 + x / 64, ?_, ?_⟩
    · rw [IntKind.wrap_u8']
      have e : x / 2 ^ (((2 : Int) - 1) * 6).toNat % 256 = x / 64 := by show x / 64 % 256 = x / 64; omega
      rw [e]
      exact u8_or192 _ (by omega) (by omega)
    · simp [tl]
  by_cases c : x < 65536
  · simp only [if_neg a, if_neg b, if_pos c]
    refine ⟨224 + x / 4096, ?_, ?_⟩
    · rw [IntKind.wrap_u8']
      have e : x / 2 ^ (((3 : Int) - 1) * 6).toNat % 256 = x / 4096 := by show x / 4096 % 256 = x / 4096; omega
      rw [e]
      exact u8_or224 _ (by omega) (by omega)
    · simp [tl]
  · simp only [if_neg a, if_neg b, if_neg c]
    refine ⟨240 + x / 262144, ?_, ?_⟩
    · rw [IntKind.wrap_u8']
      have e : x / 2 ^ (((4 : Int) - 1) * 6).toNat % 256 = x / 262144 := by show x / 262144 % 256 = x / 262144; omega
      rw [e]
      exact u8_or240 _ (by omega) (by omega)
    · simp [tl]

theorem tail_byte (x : Int) (j : Nat) (h0 : 0 ≤ x) (h1 : x ≤ 1114111) : bits .or .u8 128 (bits .and .i32 (x / 2 ^ (j * 6)) 63 % 256) = 128 + x / 64 ^ j % 64 := by
  have e : (2 : Int) ^ (j * 6) = 64 ^ j := by rw [Nat.mul_comm, Int.pow_mul]; rfl
  rw [e]
  have hp : (0 : Int) < 64 ^ j := Int.pow_pos (by decide)
  have d0 : 0 ≤ x / 64 ^ j := Int.ediv_nonneg h0 (Int.le_of_lt hp)
  have d1 : x / 64 ^ j ≤ x := Int.ediv_le_self _ h0
  rw [i32_and63 _ d0 (by omega)]
  have d2 : x / 64 ^ j % 64 % 256 = x / 64 ^ j % 64 := by omega
  rw [d2]
  exact u8_or128 _ (by omega) (by omega)

set_option maxHeartbeats 800000 in
theorem encode_some (b off len cap : Nat) (l : List Int) (w : World) (hl : l.length = len) (hlen : len ≤ 80000)
    (hcell : ∀ i, i < len → w.cell? ⟨b, off + i, none⟩ = some (.int .i32 (l.getD i 0))) :
    Calls Tryz.prog 15 #[.slice (some ⟨b, off, none⟩) len cap] w fun e w' => e = .returned (.tuple #[.string (encS l), .int .i64 (encE l)]) ∧ Below w.heap.size w w' := by
  obtain ⟨i0, hi, hz0, hz1, hz2⟩ := info_parts Tryz.info5
  have HL := hide hl
  have HC := hide hcell
  clear hl hcell
  have hml : len ≤ maxLen := by unfold maxLen; omega
  go_enter Tryz.func15, Tryz.ntmps15
  go_wp2_with (refine wpList_make_own _ rfl _ _ 34 rfl w.heap.size 5 i0 (.int .u8 0) 1 Tryz.underlying34 hi hz0 hz1 .i64 .i64 _ len rfl rfl rfl (by rw [hz2]; omega) hml (Nat.le_refl _) ?_; intro w1 hown1 hgrow1)
  have HO : Own w.heap.size w w1 (.slice (some ⟨w.heap.size, 0, none⟩) 0 len) [] := ⟨w.heap.size, len, rfl, hown1, (Below.refl _ _).grown hgrow1 (Nat.le_refl _) (by intro k h; cases h)⟩
  clear hown1 hgrow1
  go_loopw [4, 14] (fun v i wr => ∃ k : Nat, k ≤ len ∧ i = .int .i64 k ∧ okL (l.take k) = true ∧ Own w.heap.size w wr v (encL (l.take k))) (fun _ i _ => len - (intOf i).toNat)
  case atStart => exact ⟨0, Nat.zero_le _, rfl, rfl, HO⟩
  case round =>
    clear HO
    obtain ⟨k, hk, rfl, hok, g, cap', rfl, hown, hnx⟩ := hrel
    have HOK := hide hok
    clear hok
    have hs1 := encL_bound (l.take k)
    have hs3 : (l.take k).length ≤ k := List.length_take_le _ _
    by_cases hlt : k < len
    · have hc0 := unhide HC k hlt
      have hbk := cell_lt hc0
      have hc1 : wr.cell? ⟨b, off + k, none⟩ = some (.int .i32 (l.getD k 0)) := (hnx.cell (by exact hbk)).trans hc0
      have hsn := hide (take_snoc l k (by rw [unhide HL]; exact hlt))
      have HB := hide (okL_bad l k (by rw [unhide HL]; exact hlt))
      clear hc0 hbk
      generalize l.getD k 0 = x at *
      have hzl : (k : Int) < (len : Int) := by omega
      cases hx : isPt x
      · have HE := hide (unhide HB hx)
        have hl0 : lenOf x = 0 := by unfold lenOf; simp [hx]
        have H13 : Hid (∀ w, Calls Tryz.prog 22 #[.int .i32 x] w fun e w' => e = .returned (.int .i64 0) ∧ w' = w) := fun w => by rw [← hl0]; exact length_any x w
        clear hl0
        go_wp2_with (go_at_call 22; refine (unhide H13 _).mono ?_; rintro e w' ⟨rfl, rfl⟩)
        go_ret2
        have he := unhide HE
        exact ⟨ret_se (by unfold encS; rw [he]; rfl) (by unfold encE; rw [he]; rfl), hnx⟩
      · have hl0 : 1 ≤ lenOf x ∧ lenOf x ≤ 4 := by
          unfold lenOf; rw [if_pos hx]; split
          · omega
          · split
            · omega
            · split <;> omega
        have HX := hide hx
        have hx0 := (isPt_lo hx).1
        have hx1 := (isPt_lo hx).2
        clear hx
        have H13 : Hid (∀ w, Calls Tryz.prog 22 #[.int .i32 x] w fun e w' => e = .returned (.int .i64 (lenOf x)) ∧ w' = w) := fun w => length_any x w
        obtain ⟨z, hor, he1⟩ := first_byte x (unhide HX)
        have HE1 := hide he1
        clear he1
        generalize lenOf x = n at *
        obtain ⟨n1, n4⟩ := hl0
        have hw1 : IntKind.i64.wrap (n - 1) = n - 1 := by simp [IntKind.wrap, IntKind.bits, IntKind.signed]; omega
        have hw2 : IntKind.i64.wrap ((n - 1) * 6) = (n - 1) * 6 := by simp [IntKind.wrap, IntKind.bits, IntKind.signed]; omega
        have hne : (n == 0) = false := by simp; omega
        have hsz := hnx.size
        have hm1 : (encL (l.take k)).length + 1 ≤ maxLen := by unfold maxLen; omega
        have hm2 : ((encL (l.take k)).length + 1) * 1 ≤ 140737488355328 := by omega
        go_wp2_with (go_at_call 22; refine (unhide H13 _).mono ?_; rintro e w' ⟨rfl, hq⟩; obtain rfl := hq.symm; clear hq)
        go_region_held3 (fun _ => True) (trivial)
          (first
            | (go_at_call 23; refine (headMark_any n _).mono ?_; rintro e w' ⟨rfl, rfl⟩)
            | (refine step_append_lies _ (by rfl) _ _ _ (by rfl) w.heap.size 5 i0 _ 1 1 Tryz.underlying34 hi hz0 hz1 hz2 rfl (by omega) _ _ _ (by rfl) ((hown.alloc _).drew) ⟨wr.heap.size, 0, none⟩ 1 1 [.int .u8 z] (by rfl) (by rfl) (World.news_of_block (cs := #[.int .u8 z]) (t := 5) (fr := (0, 0)) (heap_alloc_new wr _)) (by simp [Value.oneCell']) (by omega) hm1 hm2 (by simp; omega) (wr.heap.size + 1) (by simp) ?_; intro g1 cap1 w1 hown1 hgrow hat hlt1))
        have HO1 := own_push (z := z) ((hnx.alloc hsz _).drew) (by simp; omega) ((hown.alloc _).drew) hown1 hgrow
        clear hown1 hgrow hat hlt1 hown hm1 hm2 hor hnx hc1
        go_wp2
        go_loopw [4, 8] (fun v i ws => ∃ (j : Nat) (X : List Int), (j : Int) ≤ n - 1 ∧ i = .int .i64 ((j : Int) - 1) ∧ X ++ tl x j = enc1 x ∧ Own w.heap.size w ws v (encL (l.take k) ++ X)) (fun _ i _ => (intOf i + 1).toNat)
        case atStart =>
          refine ⟨(n - 1).toNat, [z], by omega, ?_, (unhide HE1).symm, HO1⟩
          rw [show (((n - 1).toNat : Nat) : Int) - 1 = n - 2 by omega]
        case round =>
          obtain ⟨j, X, hj, hij, hX, g2, cap2, rfl, hown2, hnx2⟩ := hrel
          have hsz2 := hnx2.size
          have HX1 := hide hX
          have hlX : X.length + j = (enc1 x).length := by rw [← hX]; simp [tl_length]
          have hl4 := enc1_bound x
          clear hX HO1
          rcases j with _ | j
          · subst hij
            go_wp2
            go_roundw
            case rel =>
              have hn : (l.take k ++ [x]) = l.take (k + 1) := (unhide hsn).symm
              have hX : X = enc1 x := by have := unhide HX1; simpa [tl] using this
              refine ⟨k + 1, by omega, by go_num, ?_, g2, cap2, ?_, ?_, hnx2⟩
              · rw [← hn, okL_snoc, unhide HOK, unhide HX]; rfl
              · rw [← hn, encL_snoc, ← hX]
              · rw [← hn, encL_snoc, ← hX]; exact hown2
            case measure => simp [intOf]; omega
          · rw [show (((j + 1 : Nat) : Int) - 1) = (j : Int) by omega] at hij
            subst hij
            have hm1 : (encL (l.take k) ++ X).length + 1 ≤ maxLen := by unfold maxLen; simp; omega
            have hm2 : ((encL (l.take k) ++ X).length + 1) * 1 ≤ 140737488355328 := by simp; omega
            go_wp2_with (at_builtin; refine wpList_append_lies _ rfl _ _ 34 rfl w.heap.size 5 i0 _ 1 1 Tryz.underlying34 hi hz0 hz1 hz2 rfl (by omega) _ _ _ rfl (hown2.alloc _) ⟨wr.heap.size, 0, none⟩ 1 1 [.int .u8 (bits .or .u8 128 (bits .and .i32 (x / 2 ^ (j * 6)) 63 % 256))] rfl rfl (cell_one_new _ _ _) (by simp [Value.oneCell']) (by omega) hm1 hm2 (by simp; omega) (wr.heap.size + 1) (by simp) ?_; intro g3 cap3 w3 hown3 hgrow3 hat3 hlt3)
            have HO3 := own_push (hnx2.alloc hsz2 _) (by simp; omega) (hown2.alloc _) hown3 hgrow3
            rw [tail_byte x j hx0 hx1] at HO3
            clear hown3 hgrow3 hat3 hlt3 hown2 hm1 hm2
            go_wp2
            go_roundw
            case rel =>
              have hX3 : (X ++ [128 + x / 64 ^ j % 64]) ++ tl x j = enc1 x := by have := unhide HX1; simpa [tl] using this
              rw [List.append_assoc, List.length_append] at HO3
              (repeat apply Exists.intro)
              refine ⟨?_, rfl⟩
              exact ⟨j, X ++ [128 + x / 64 ^ j % 64], by omega, by go_num, hX3, HO3⟩
            case measure => simp [intOf]
    · have hzl : ¬ (k : Int) < (len : Int) := by omega
      have hkl : k = l.length := by rw [unhide HL]; omega
      have hok := unhide HOK
      rw [hkl, okL_all] at hok
      have HES : Hid (encS l = strOfNums (encL (l.take k))) := by unfold encS; rw [hkl, List.take_length, hok]; rfl
      have HEE : Hid (encE l = 0) := by unfold encE; rw [hok]; rfl
      have hcells : ∀ i, i < (encL (l.take k)).length → wr.cell? ⟨g, 0 + i, none⟩ = some (.int .u8 ((encL (l.take k)).getD i 0)) := fun i hi' => by
        have := hown.cells (g := g) rfl i (.int .u8 ((encL (l.take k)).getD i 0)) (by simp [List.getD, hi'])
        rw [add_zero g i] at this
        rw [Nat.zero_add]
        exact this
      have hcv := run_convert_bytes_arg wr 34 5 Tryz.underlying34 Tryz.underlying5 g 0 (encL (l.take k)).length cap' (encL (l.take k)) rfl hcells 9 Tryz.underlying9
      clear hcells hkl hok
      go_wp2
      go_ret2
      exact ⟨ret_se (unhide HES).symm (unhide HEE).symm, hnx⟩
theorem empty_nums : strOfNums [] = { data := #[] } := rfl

set_option maxHeartbeats 400000 in
theorem encode_empty (a : Option Addr) (cap : Nat) (w : World) :
    Calls Tryz.prog 15 #[.slice a 0 cap] w fun e w' => e = .returned (.tuple #[.string (strOfNums []), .int .i64 0]) ∧ Below w.heap.size w w' := by
  obtain ⟨i0, hi, hz0, hz1, hz2⟩ := info_parts Tryz.info5
  go_enter Tryz.func15, Tryz.ntmps15
  go_wp2_with (refine wpList_make_own _ rfl _ _ 34 rfl w.heap.size 5 i0 (.int .u8 0) 1 Tryz.underlying34 hi hz0 hz1 .i64 .i64 _ 0 rfl rfl rfl (by rw [hz2]; omega) (Nat.zero_le _) (Nat.le_refl _) ?_; intro w1 hown1 hgrow1)
  refine wp_loop_rounds 1 ?_
  rw [rounds_succ]
  have HB : Below w.heap.size w w1 := (Below.refl _ _).grown hgrow1 (Nat.le_refl _) (by intro k h; cases h)
  have hcv := run_convert_bytes_arg w1 34 5 Tryz.underlying34 Tryz.underlying5 w.heap.size 0 0 0 [] rfl (fun i hi => by omega) 9 Tryz.underlying9
  clear hown1 hgrow1
  go_wp2
  go_ret2
  exact ⟨rfl, HB⟩

theorem encode_any (v : Value) (l : List Int) (w : World) (hl : l.length ≤ 80000) (h : Row w v l) :
    Calls Tryz.prog 15 #[v] w fun e w' => e = .returned (.tuple #[.string (encS l), .int .i64 (encE l)]) ∧ Below w.heap.size w w' := by
  obtain ⟨a, c, rfl, h1⟩ := h
  by_cases h0 : l.length = 0
  · obtain rfl : l = [] := List.eq_nil_of_length_eq_zero h0
    exact encode_empty a c w
  · obtain ⟨b1, o1, rfl, k1⟩ := h1 (by omega)
    exact encode_some b1 o1 l.length c l w rfl hl k1

end Go.Proofs.YticgeabmhmojfaaGreatDoor
/- Runs, and what is put in order: plainly, for any classes c out of a rising list K. -/
namespace Go.Proofs.YticgeabmhmojfaaGreatDoor
set_option maxRecDepth 100000

/-- Those of class k, as they stand. -/
def ofK (c : Int → Int) (k : Int) (r : List Int) : List Int := r.filter fun x => decide (c x = k)
/-- Some characters, class by class. -/
def srt (c : Int → Int) (K r : List Int) : List Int := K.flatMap fun k => ofK c k r
/-- One more: what was done, and the run that is made. -/
def rstep (c : Int → Int) (s : List (List Int) × List Int) (x : Int) : List (List Int) × List Int :=
  if c x = 0 ∧ s.2 ≠ [] then (s.1 ++ [s.2], [x]) else (s.1, s.2 ++ [x])
def rfold (c : Int → Int) (l : List Int) : List (List Int) × List Int := l.foldl (rstep c) ([], [])
def rfin (s : List (List Int) × List Int) : List (List Int) := if s.2 ≠ [] then s.1 ++ [s.2] else s.1
def runsL (c : Int → Int) (l : List Int) : List (List Int) := rfin (rfold c l)
def ordL (c : Int → Int) (K l : List Int) : List Int := (runsL c l).flatMap (srt c K)
/-- May b stand just behind a? -/
def nxt (c : Int → Int) (a b : Int) : Bool := decide (c b = 0 ∨ c a ≤ c b)
def ordered (c : Int → Int) : List Int → Bool
  | a :: b :: t => nxt c a b && ordered c (b :: t)
  | _ => true

section
variable {c : Int → Int} {K : List Int}

theorem rfold_snoc (l : List Int) (x : Int) : rfold c (l ++ [x]) = rstep c (rfold c l) x := by simp [rfold]
/-- A list of runs: none is empty, only the first of a run may have no class, and of all but the first run it has none. -/
def Runny (c : Int → Int) (rs : List (List Int)) : Prop :=
  (∀ r, r ∈ rs → r ≠ [] ∧ ∀ x, x ∈ r.tail → c x ≠ 0) ∧ ∀ r, r ∈ rs.tail → ∃ y t, r = y :: t ∧ c y = 0
theorem runny_append {a b : List (List Int)} (ha : Runny c a) (hb : ∀ r, r ∈ b → (r ≠ [] ∧ ∀ x, x ∈ r.tail → c x ≠ 0) ∧ ∃ y t, r = y :: t ∧ c y = 0) : Runny c (a ++ b) := by
  refine ⟨fun r hr => ?_, fun r hr => ?_⟩
  · rcases List.mem_append.1 hr with h | h
    · exact ha.1 r h
    · exact (hb r h).1
  · cases a with
    | nil => exact (hb r (List.mem_of_mem_tail (by simpa using hr))).2
    | cons x a =>
      simp only [List.cons_append, List.tail_cons, List.mem_append] at hr
      rcases hr with h | h
      · exact ha.2 r (by simpa using h)
      · exact (hb r h).2
theorem rfold_inv (l : List Int) : (rfold c l).1.flatten ++ (rfold c l).2 = l ∧ Runny c (rfin (rfold c l)) ∧ ((rfold c l).1 ≠ [] → (rfold c l).2 ≠ []) ∧ ((rfold c l).2 = [] → l = []) := by
  suffices h : ∀ (l : List Int), (rfold c l.reverse).1.flatten ++ (rfold c l.reverse).2 = l.reverse ∧ Runny c (rfin (rfold c l.reverse)) ∧ ((rfold c l.reverse).1 ≠ [] → (rfold c l.reverse).2 ≠ []) ∧ ((rfold c l.reverse).2 = [] → l.reverse = []) by
    have := h l.reverse
    rwa [List.reverse_reverse] at this
  intro l
  induction l with
  | nil => exact ⟨rfl, ⟨fun r hr => by simp [rfold, rfin] at hr, fun r hr => by simp [rfold, rfin] at hr⟩, fun h => absurd rfl h, fun _ => rfl⟩
  | cons x l ih =>
    rw [List.reverse_cons, rfold_snoc]
    generalize rfold c l.reverse = s at ih ⊢
    obtain ⟨out, now⟩ := s
    obtain ⟨i1, i2, i3, i4⟩ := ih
    simp only at i1 i3 i4
    unfold rstep
    by_cases hx : c x = 0 ∧ now ≠ []
    · rw [if_pos hx]
      have e : rfin (out, now) = out ++ [now] := by unfold rfin; rw [if_pos hx.2]
      rw [e] at i2
      refine ⟨?_, ?_, fun _ => by simp, fun h => by simp at h⟩
      · simp only [List.flatten_append, List.flatten_cons, List.flatten_nil, List.append_nil]
        rw [i1]
      · have e2 : rfin (out ++ [now], [x]) = (out ++ [now]) ++ [[x]] := by unfold rfin; rw [if_pos (by simp)]
        rw [e2]
        refine runny_append i2 fun r hr => ?_
        simp only [List.mem_cons, List.not_mem_nil, or_false] at hr
        subst hr
        exact ⟨⟨by simp, fun y hy => by simp at hy⟩, x, [], rfl, hx.1⟩
    · rw [if_neg hx]
      refine ⟨?_, ?_, fun _ => by simp, fun h => by simp at h⟩
      · simp only
        rw [← List.append_assoc, i1]
      · have e2 : rfin (out, now ++ [x]) = out ++ [now ++ [x]] := by unfold rfin; rw [if_pos (by simp)]
        rw [e2]
        by_cases hn : now = []
        · subst hn
          have ho : out = [] := by
            cases out with
            | nil => rfl
            | cons a b => exact absurd rfl (i3 (by simp))
          subst ho
          refine ⟨fun r hr => ?_, fun r hr => by simp at hr⟩
          simp at hr
          subst hr
          exact ⟨by simp, fun y hy => by simp at hy⟩
        · have hcx : c x ≠ 0 := fun h => hx ⟨h, hn⟩
          have e : rfin (out, now) = out ++ [now] := by unfold rfin; rw [if_pos hn]
          rw [e] at i2
          obtain ⟨y, t, rfl⟩ := List.exists_cons_of_ne_nil hn
          refine ⟨fun r hr => ?_, fun r hr => ?_⟩
          · rcases List.mem_append.1 hr with h | h
            · exact i2.1 r (by simp [h])
            · simp only [List.mem_cons, List.not_mem_nil, or_false] at h
              subst h
              have := (i2.1 (y :: t) (by simp)).2
              refine ⟨by simp, fun z hz => ?_⟩
              simp only [List.cons_append, List.tail_cons, List.mem_append, List.mem_cons, List.not_mem_nil, or_false] at hz
              rcases hz with h | h
              · exact this z (by simpa using h)
              · rw [h]; exact hcx
          · cases out with
            | nil => simp at hr
            | cons a b =>
              simp only [List.cons_append, List.tail_cons, List.mem_append, List.mem_cons, List.not_mem_nil, or_false] at hr
              rcases hr with h | h
              · exact i2.2 r (by simp [h])
              · subst h
                obtain ⟨y', t', e', hc⟩ := i2.2 (y :: t) (by simp)
                cases e'
                exact ⟨y, t ++ [x], rfl, hc⟩
theorem runs_flat (l : List Int) : (runsL c l).flatten = l := by
  obtain ⟨h1, _, _, _⟩ := rfold_inv (c := c) l
  unfold runsL rfin
  by_cases h : (rfold c l).2 ≠ []
  · rw [if_pos h]; simpa using h1
  · rw [if_neg h]
    have h' : (rfold c l).2 = [] := Classical.not_not.1 h
    rw [h'] at h1
    simpa using h1
theorem runs_runny (l : List Int) : Runny c (runsL c l) := (rfold_inv l).2.1
/-- A run of its own is one. -/
theorem rfold_run (r : List Int) (hr : r ≠ []) (ht : ∀ x, x ∈ r.tail → c x ≠ 0) : rfold c r = ([], r) := by
  obtain ⟨y, t, rfl⟩ := List.exists_cons_of_ne_nil hr
  have h0 : rstep c ([], []) y = ([], [y]) := by unfold rstep; rw [if_neg (fun h => h.2 rfl)]; rfl
  have : ∀ (t u : List Int), u ≠ [] → (∀ x, x ∈ t → c x ≠ 0) → t.foldl (rstep c) ([], u) = ([], u ++ t) := by
    intro t
    induction t with
    | nil => intro u _ _; simp
    | cons x t ih =>
      intro u hu h
      rw [List.foldl_cons]
      have e : rstep c ([], u) x = ([], u ++ [x]) := by unfold rstep; rw [if_neg (fun h2 => h x (by simp) h2.1)]
      rw [e, ih (u ++ [x]) (by simp) fun z hz => h z (by simp [hz])]
      simp
  unfold rfold
  rw [List.foldl_cons, h0, this t [y] (by simp) (by simpa using ht)]
  rfl
theorem runs_run (r : List Int) (hr : r ≠ []) (ht : ∀ x, x ∈ r.tail → c x ≠ 0) : runsL c r = [r] := by
  unfold runsL rfin
  rw [rfold_run r hr ht, if_pos hr]
  rfl
theorem ord_run (r : List Int) (hr : r ≠ []) (ht : ∀ x, x ∈ r.tail → c x ≠ 0) : ordL c K r = srt c K r := by
  unfold ordL
  rw [runs_run r hr ht]
  simp
/-- What is put in order is its runs, put in order. -/
theorem ord_parts (l : List Int) : (runsL c l).flatMap (ordL c K) = ordL c K l := by
  have hR := (runs_runny (c := c) l).1
  unfold ordL at *
  generalize runsL c l = rs at hR
  induction rs with
  | nil => rfl
  | cons r rs ih =>
    rw [List.flatMap_cons, List.flatMap_cons, ih fun q hq => hR q (by simp [hq])]
    have := ord_run (K := K) r (hR r (by simp)).1 (hR r (by simp)).2
    unfold ordL at this
    rw [this]

theorem ofK_append (k : Int) (a b : List Int) : ofK c k (a ++ b) = ofK c k a ++ ofK c k b := by simp [ofK]
theorem ofK_mem {k x : Int} {r : List Int} (h : x ∈ ofK c k r) : x ∈ r ∧ c x = k := by simpa [ofK] using h
theorem ofK_ofK_same (k : Int) (r : List Int) : ofK c k (ofK c k r) = ofK c k r := by simp [ofK, List.filter_filter]
theorem ofK_ofK_other {k j : Int} (h : j ≠ k) (r : List Int) : ofK c k (ofK c j r) = [] := by
  rw [ofK, List.filter_eq_nil_iff]
  intro x hx
  have := (ofK_mem hx).2
  simp only [decide_eq_true_eq]
  omega
theorem ofK_none {k : Int} {r : List Int} (h : ∀ x, x ∈ r → c x ≠ k) : ofK c k r = [] := by
  rw [ofK, List.filter_eq_nil_iff]
  intro x hx
  simpa using h x hx
theorem srt_mem {x : Int} {r : List Int} (h : x ∈ srt c K r) : x ∈ r := by
  obtain ⟨k, _, h⟩ := List.mem_flatMap.1 h
  exact (ofK_mem h).1
/-- Those of one class stay as they stood. -/
theorem ofK_srt (hp : K.Pairwise (· < ·)) (k : Int) (r : List Int) (hk : ∀ x, x ∈ r → c x ∈ K) : ofK c k (srt c K r) = ofK c k r := by
  have : ∀ (K : List Int), K.Pairwise (· < ·) → ofK c k (K.flatMap fun j => ofK c j r) = if k ∈ K then ofK c k r else [] := by
    intro K
    induction K with
    | nil => intro _; simp [ofK]
    | cons j K ih =>
      intro hp
      rw [List.flatMap_cons, ofK_append, ih hp.of_cons]
      by_cases hj : j = k
      · subst hj
        have hn : j ∉ K := fun h => by have := (List.pairwise_cons.1 hp).1 j h; omega
        rw [if_neg hn, ofK_ofK_same, if_pos (by simp)]
        simp
      · rw [ofK_ofK_other hj]
        by_cases hm : k ∈ K
        · rw [if_pos hm, if_pos (by simp [hm])]; rfl
        · rw [if_neg hm, if_neg (by simp; exact ⟨fun h => hj h.symm, hm⟩)]; rfl
  unfold srt
  rw [this K hp]
  by_cases hm : k ∈ K
  · rw [if_pos hm]
  · rw [if_neg hm]
    exact (ofK_none fun x hx h => hm (by rw [← h]; exact hk x hx)).symm
theorem ofK_ord (hp : K.Pairwise (· < ·)) (hK : ∀ x, c x ∈ K) (k : Int) (l : List Int) : ofK c k (ordL c K l) = ofK c k l := by
  have : ∀ rs : List (List Int), ofK c k (rs.flatMap (srt c K)) = ofK c k rs.flatten := by
    intro rs
    induction rs with
    | nil => rfl
    | cons r rs ih => rw [List.flatMap_cons, List.flatten_cons, ofK_append, ofK_append, ih, ofK_srt hp k r fun x _ => hK x]
  unfold ordL
  rw [this, runs_flat]
theorem srt_sorted (hp : K.Pairwise (· < ·)) (r : List Int) : (srt c K r).Pairwise fun a b => c a ≤ c b := by
  unfold srt
  induction K with
  | nil => simp
  | cons k K ih =>
    rw [List.flatMap_cons, List.pairwise_append]
    refine ⟨?_, ih hp.of_cons, fun a ha b hb => ?_⟩
    · refine List.Pairwise.imp_of_mem (R := fun _ _ => True) (fun ha hb _ => ?_) (List.pairwise_of_forall (fun _ _ => trivial))
      rw [(ofK_mem ha).2, (ofK_mem hb).2]
      exact Int.le_refl _
    · obtain ⟨j, hj, hb⟩ := List.mem_flatMap.1 hb
      rw [(ofK_mem ha).2, (ofK_mem hb).2]
      exact Int.le_of_lt ((List.pairwise_cons.1 hp).1 j hj)
theorem split_min (k : Int) (r : List Int) (hs : r.Pairwise fun a b => c a ≤ c b) (hk : ∀ x, x ∈ r → k ≤ c x) : r = ofK c k r ++ r.filter fun x => decide (c x ≠ k) := by
  induction r with
  | nil => rfl
  | cons x r ih =>
    have ih' := ih hs.of_cons fun y hy => hk y (by simp [hy])
    by_cases hx : c x = k
    · have e1 : ofK c k (x :: r) = x :: ofK c k r := by simp [ofK, hx]
      have e2 : (x :: r).filter (fun x => decide (c x ≠ k)) = r.filter fun x => decide (c x ≠ k) := by simp [hx]
      rw [e1, e2, List.cons_append, ← ih']
    · have hlt : ∀ y, y ∈ r → c y ≠ k := fun y hy => by
        have h1 := (List.pairwise_cons.1 hs).1 y hy
        have h2 := hk x (by simp)
        omega
      have e1 : ofK c k (x :: r) = [] := ofK_none fun y hy => by
        rcases List.mem_cons.1 hy with rfl | hy
        · exact hx
        · exact hlt y hy
      have e2 : (x :: r).filter (fun x => decide (c x ≠ k)) = x :: r := by
        rw [List.filter_eq_self]
        intro y hy
        rcases List.mem_cons.1 hy with rfl | hy
        · simpa using hx
        · simpa using hlt y hy
      rw [e1, e2]; rfl
/-- What is sorted stays as it is. -/
theorem srt_self : ∀ (K : List Int), K.Pairwise (· < ·) → ∀ (r : List Int), (r.Pairwise fun a b => c a ≤ c b) → (∀ x, x ∈ r → c x ∈ K) → srt c K r = r
  | [], _, r, _, h => by
    cases r with
    | nil => rfl
    | cons x r => have := h x (by simp); simp at this
  | k :: K, hp, r, hs, h => by
    have hk : ∀ x, x ∈ r → k ≤ c x := fun x hx => by
      rcases List.mem_cons.1 (h x hx) with e | e
      · omega
      · exact Int.le_of_lt ((List.pairwise_cons.1 hp).1 _ e)
    have h1 := split_min k r hs hk
    have h2 := srt_self K hp.of_cons (r.filter fun x => decide (c x ≠ k)) (hs.filter _) fun x hx => by
      simp only [List.mem_filter, decide_eq_true_eq] at hx
      rcases List.mem_cons.1 (h x hx.1) with e | e
      · exact absurd e hx.2
      · exact e
    have h3 : ∀ j, j ∈ K → ofK c j (r.filter fun x => decide (c x ≠ k)) = ofK c j r := fun j hj => by
      have := (List.pairwise_cons.1 hp).1 j hj
      unfold ofK
      rw [List.filter_filter]
      congr 1
      funext x
      by_cases hx : c x = j
      · simp [hx]; omega
      · simp [hx]
    have h4 : srt c K (r.filter fun x => decide (c x ≠ k)) = srt c K r := by
      have : ∀ (M : List Int), (∀ j, j ∈ M → j ∈ K) → (M.flatMap fun j => ofK c j (r.filter fun x => decide (c x ≠ k))) = M.flatMap fun j => ofK c j r := by
        intro M
        induction M with
        | nil => intro _; rfl
        | cons j M ih => intro hM; rw [List.flatMap_cons, List.flatMap_cons, h3 j (hM j (by simp)), ih fun i hi => hM i (by simp [hi])]
      exact this K fun _ h => h
    rw [h4] at h2
    unfold srt at h2 ⊢
    rw [List.flatMap_cons, h2]
    exact h1.symm

theorem ordered_cons {a b : Int} {t : List Int} : ordered c (a :: b :: t) = true ↔ nxt c a b = true ∧ ordered c (b :: t) = true := by simp [ordered]
theorem ordered_tail {a : Int} {t : List Int} (h : ordered c (a :: t) = true) : ordered c t = true := by
  cases t with
  | nil => rfl
  | cons b t => exact (ordered_cons.1 h).2
theorem ordered_of_sorted : ∀ (l : List Int), (l.Pairwise fun a b => c a ≤ c b) → ordered c l = true
  | [], _ => rfl
  | [_], _ => rfl
  | a :: b :: t, h => ordered_cons.2 ⟨by
      have := (List.pairwise_cons.1 h).1 b (by simp)
      unfold nxt; simp; omega, ordered_of_sorted (b :: t) h.of_cons⟩
theorem ordered_append : ∀ (a b : List Int), ordered c a = true → ordered c b = true → (∀ x y t, a.getLast? = some x → b = y :: t → nxt c x y = true) → ordered c (a ++ b) = true
  | [], b, _, hb, _ => hb
  | [x], b, _, hb, h => by
    cases b with
    | nil => rfl
    | cons y t => exact ordered_cons.2 ⟨h x y t rfl rfl, hb⟩
  | x :: y :: a, b, ha, hb, h => by
    obtain ⟨h1, h2⟩ := ordered_cons.1 ha
    exact ordered_cons.2 ⟨h1, ordered_append (y :: a) b h2 hb fun p q t hp hq => h p q t (by simpa using hp) hq⟩
theorem ordered_left : ∀ (a b : List Int), ordered c (a ++ b) = true → ordered c a = true
  | [], _, _ => rfl
  | [_], _, _ => rfl
  | x :: y :: a, b, h => by
    obtain ⟨h1, h2⟩ := ordered_cons.1 (show ordered c (x :: y :: (a ++ b)) = true from h)
    exact ordered_cons.2 ⟨h1, ordered_left (y :: a) b h2⟩
theorem ordered_right : ∀ (a b : List Int), ordered c (a ++ b) = true → ordered c b = true
  | [], _, h => h
  | x :: a, b, h => ordered_right a b (ordered_tail (show ordered c (x :: (a ++ b)) = true from h))
/-- The first of a run that has no class comes first. -/
theorem srt_head (hp : K.Pairwise (· < ·)) (h0 : ∃ K', K = 0 :: K') {y : Int} {t : List Int} (hy : c y = 0) : ∃ u, srt c K (y :: t) = y :: u := by
  obtain ⟨K', rfl⟩ := h0
  refine ⟨ofK c 0 t ++ K'.flatMap fun k => ofK c k (y :: t), ?_⟩
  unfold srt
  rw [List.flatMap_cons]
  have : ofK c 0 (y :: t) = y :: ofK c 0 t := by simp [ofK, hy]
  rw [this]; rfl
/-- What is put in order is ordered. -/
theorem ord_ordered (hp : K.Pairwise (· < ·)) (h0 : ∃ K', K = 0 :: K') (l : List Int) : ordered c (ordL c K l) = true := by
  have hR := runs_runny (c := c) l
  unfold ordL
  generalize runsL c l = rs at hR
  have : ∀ rs : List (List Int), (∀ r, r ∈ rs.tail → ∃ y t, r = y :: t ∧ c y = 0) → ordered c (rs.flatMap (srt c K)) = true := by
    intro rs
    induction rs with
    | nil => intro _; rfl
    | cons r rs ih =>
      intro h
      rw [List.flatMap_cons]
      refine ordered_append _ _ (ordered_of_sorted _ (srt_sorted hp r)) (ih fun q hq => h q (by simpa using List.mem_of_mem_tail hq)) fun x y t _ he => ?_
      cases rs with
      | nil => simp at he
      | cons q rs =>
        obtain ⟨z, s, rfl, hz⟩ := h q (by simp)
        obtain ⟨u, hu⟩ := srt_head (t := s) hp h0 hz
        rw [List.flatMap_cons, hu] at he
        cases he
        unfold nxt; simp [hz]
  exact this rs hR.2
theorem run_sorted (r : List Int) (ht : ∀ x, x ∈ r.tail → c x ≠ 0) (ho : ordered c r = true) (hn : ∀ x, x ∈ r → 0 ≤ c x) : r.Pairwise fun a b => c a ≤ c b := by
  induction r with
  | nil => exact List.Pairwise.nil
  | cons x r ih =>
    have ho2 := ordered_tail ho
    have ht2 : ∀ y, y ∈ r.tail → c y ≠ 0 := fun y hy => ht y (by simpa using List.mem_of_mem_tail hy)
    have ih' := ih ht2 ho2 fun y hy => hn y (by simp [hy])
    refine List.pairwise_cons.2 ⟨fun y hy => ?_, ih'⟩
    cases r with
    | nil => simp at hy
    | cons z r =>
      have h1 := (ordered_cons.1 ho).1
      have h2 : c z ≠ 0 := ht z (by simp)
      have h3 : c x ≤ c z := by unfold nxt at h1; simp at h1; omega
      rcases List.mem_cons.1 hy with rfl | hy
      · exact h3
      · exact Int.le_trans h3 ((List.pairwise_cons.1 ih').1 y hy)
/-- What is ordered stays as it is. -/
theorem ord_self (hp : K.Pairwise (· < ·)) (hK : ∀ x, c x ∈ K) (hn : ∀ x, 0 ≤ c x) (l : List Int) (ho : ordered c l = true) : ordL c K l = l := by
  have hR := (runs_runny (c := c) l).1
  have hf := runs_flat (c := c) l
  unfold ordL
  generalize runsL c l = rs at hR hf
  rw [← hf] at ho ⊢
  clear hf
  induction rs with
  | nil => rfl
  | cons r rs ih =>
    rw [List.flatMap_cons, List.flatten_cons] at *
    rw [srt_self K hp r (run_sorted r (hR r (by simp)).2 (ordered_left _ _ ho) fun x _ => hn x) fun x _ => hK x, ih (ordered_right _ _ ho) (fun q hq => hR q (by simp [hq]))]
theorem ord_again (hp : K.Pairwise (· < ·)) (h0 : ∃ K', K = 0 :: K') (hK : ∀ x, c x ∈ K) (hn : ∀ x, 0 ≤ c x) (l : List Int) : ordL c K (ordL c K l) = ordL c K l := ord_self hp hK hn _ (ord_ordered hp h0 l)
theorem ord_iff (hp : K.Pairwise (· < ·)) (h0 : ∃ K', K = 0 :: K') (hK : ∀ x, c x ∈ K) (hn : ∀ x, 0 ≤ c x) (l : List Int) : ordered c l = decide (ordL c K l = l) := by
  by_cases h : ordL c K l = l
  · rw [decide_eq_true h, ← h]; exact ord_ordered hp h0 l
  · rw [decide_eq_false h]
    cases ho : ordered c l
    · rfl
    · exact absurd (ord_self hp hK hn l ho) h
/-- As many as they were. -/
theorem srt_len (hp : K.Pairwise (· < ·)) (r : List Int) (hk : ∀ x, x ∈ r → c x ∈ K) : (srt c K r).length = r.length := by
  have : ∀ (r : List Int), (∀ x, x ∈ r → c x ∈ K) → (srt c K r).length = r.length := by
    intro r
    induction r with
    | nil =>
      intro _
      have : ∀ M : List Int, (M.flatMap fun k => ofK c k []) = [] := by
        intro M
        induction M with
        | nil => rfl
        | cons k M ih => rw [List.flatMap_cons, ih]; rfl
      unfold srt
      rw [this]
    | cons x r ih =>
      intro h
      have ih' := ih fun y hy => h y (by simp [hy])
      have hx := h x (by simp)
      have key : ∀ (M : List Int), M.Pairwise (· < ·) → (M.flatMap fun k => ofK c k (x :: r)).length = (M.flatMap fun k => ofK c k r).length + if c x ∈ M then 1 else 0 := by
        intro M
        induction M with
        | nil => intro _; simp
        | cons k M ihM =>
          intro hM
          rw [List.flatMap_cons, List.flatMap_cons, List.length_append, List.length_append, ihM hM.of_cons]
          by_cases e : c x = k
          · have hn : c x ∉ M := fun h2 => by have := (List.pairwise_cons.1 hM).1 _ h2; omega
            have e1 : ofK c k (x :: r) = x :: ofK c k r := by simp [ofK, e]
            rw [e1, if_neg hn, if_pos (by simp [e])]
            simp; omega
          · have e1 : ofK c k (x :: r) = ofK c k r := by simp [ofK, e]
            rw [e1]
            by_cases h2 : c x ∈ M
            · rw [if_pos h2, if_pos (by simp [h2])]; omega
            · rw [if_neg h2, if_neg (by simp [e, h2])]
              omega
      unfold srt at ih' ⊢
      rw [key K hp, if_pos hx, ih']
      rfl
  exact this r hk
theorem ord_len (hp : K.Pairwise (· < ·)) (hK : ∀ x, c x ∈ K) (l : List Int) : (ordL c K l).length = l.length := by
  have : ∀ rs : List (List Int), (rs.flatMap (srt c K)).length = rs.flatten.length := by
    intro rs
    induction rs with
    | nil => rfl
    | cons r rs ih => rw [List.flatMap_cons, List.flatten_cons, List.length_append, List.length_append, ih, srt_len hp r fun x _ => hK x]
  unfold ordL
  rw [this, runs_flat]
/-- Nothing that has no class is moved. -/
theorem ord_stay (hp : K.Pairwise (· < ·)) (h0 : ∃ K', K = 0 :: K') (hK : ∀ x, c x ∈ K) (l : List Int) (i : Nat) (hi : i < l.length) (hc : c (l.getD i 0) = 0) : (ordL c K l).getD i 0 = l.getD i 0 := by
  have hR := (runs_runny (c := c) l).1
  have hf := runs_flat (c := c) l
  unfold ordL
  generalize runsL c l = rs at hR hf
  rw [← hf] at hi hc ⊢
  clear hf
  induction rs generalizing i with
  | nil => simp at hi
  | cons r rs ih =>
    rw [List.flatMap_cons, List.flatten_cons] at *
    have hl := srt_len hp r fun x _ => hK x
    by_cases hir : i < r.length
    · have e1 : (r ++ rs.flatten).getD i 0 = r.getD i 0 := by simp [List.getD, List.getElem?_append_left hir]
      have e2 : (srt c K r ++ rs.flatMap (srt c K)).getD i 0 = (srt c K r).getD i 0 := by simp [List.getD, List.getElem?_append_left (show i < (srt c K r).length by omega)]
      rw [e1] at hc ⊢
      rw [e2]
      obtain ⟨y, t, rfl⟩ := List.exists_cons_of_ne_nil (hR r (by simp)).1
      cases i with
      | zero =>
        obtain ⟨u, hu⟩ := srt_head (t := t) hp h0 (show c y = 0 by simpa using hc)
        rw [hu]; rfl
      | succ j =>
        have hj : j < t.length := by simpa using hir
        have : c (t.getD j 0) ≠ 0 := (hR (y :: t) (by simp)).2 _ (by simp [List.getD, hj])
        exact absurd (by simpa using hc) this
    · have e1 : (r ++ rs.flatten).getD i 0 = rs.flatten.getD (i - r.length) 0 := by simp [List.getD, List.getElem?_append_right (show r.length ≤ i by omega)]
      have e2 : (srt c K r ++ rs.flatMap (srt c K)).getD i 0 = (rs.flatMap (srt c K)).getD (i - r.length) 0 := by
        have hge : (srt c K r).length ≤ i := by omega
        simp [List.getD, List.getElem?_append_right hge, hl]
      rw [e1] at hc ⊢
      rw [e2]
      exact ih (i - r.length) hc (by simp at hi ⊢; omega) (fun q hq => hR q (by simp [hq]))
end
end Go.Proofs.YticgeabmhmojfaaGreatDoor
