/- The sort of runes: choosePivot: some place of the range, nothing is turned. -/
import Derived.Test.YtnlkefdicpeemaaIns
import Derived.RangeFuncBox
namespace Go.Proofs.Ytnlkefdicpeemaa
open Go.RowKit
open Go.Sort (Holds ltInt swp PermIn SortedIn)

/-- Only the cell of a count, in a block of its own, may have turned. -/
structure Cn (w : World) (bs : Nat) (w' : World) : Prop where
  below : Below bs w w'
  cell : ∃ s : Int, w'.cell? ⟨bs, 0, none⟩ = some (.int .i64 s)
  fro : w'.frozen? ⟨bs, 0, none⟩ = false

set_option maxHeartbeats 1600000 in
theorem order2_any (blk off cap a b bs : Nat) (d : Array Int) (w : World) (hH : Holds (Value.int .i32) w blk off d) (ha : a < d.size) (hb : b < d.size) (s : Int) (hs : w.cell? ⟨bs, 0, none⟩ = some (.int .i64 s)) (hf : w.frozen? ⟨bs, 0, none⟩ = false) :
    Calls Try.prog 54 #[.slice (some ⟨blk, off, none⟩) d.size cap, .int .i64 a, .int .i64 b, .pointer (some ⟨bs, 0, none⟩)] w fun e w' => (∃ x y : Nat, e = .returned (.tuple #[.int .i64 x, .int .i64 y]) ∧ ((x = a ∧ y = b) ∨ (x = b ∧ y = a))) ∧ Cn w bs w' := by
  have c1 := (hH a ha).1
  have c2 := (hH b hb).1
  have z1 : (0 : Int) ≤ (a : Int) := by omega
  have z2 : (a : Int) < (d.size : Int) := by omega
  have z3 : (0 : Int) ≤ (b : Int) := by omega
  have z4 : (b : Int) < (d.size : Int) := by omega
  clear hH
  generalize d[a]! = x at *
  generalize d[b]! = y at *
  have hls := fun w => less_any y x w
  cases hl : ltInt y x <;> rw [hl] at hls
  · have HLS := hide hls
    clear hls hl
    go_enter Try.func54, Try.ntmps54
    go_wp2
    go_quiet ((go_at_call 43; exact Calls.quiet_of_same (unhide HLS _)))
    go_wp2
    go_ret2
    exact ⟨⟨a, b, rfl, .inl ⟨rfl, rfl⟩⟩, below_drewN (Below.refl _ _) _, ⟨s, hs⟩, hf⟩
  · have HLS := hide hls
    clear hls hl
    go_enter Try.func54, Try.ntmps54
    go_wp2
    go_quiet ((go_at_call 43; exact Calls.quiet_of_same (unhide HLS _)))
    go_wp2
    go_ret2
    refine ⟨⟨b, a, rfl, .inr ⟨rfl, rfl⟩⟩, (below_drewN (Below.refl _ _) _).setCell (p := ⟨bs, 0, none⟩) (Nat.le_refl _) _, ⟨_, World.cell?_setCell_same' _ _ _ ?_⟩, by rw [World.frozen?_setCell]; exact hf⟩
    show (w.cell? ⟨bs, 0, none⟩).isSome = true
    rw [hs]; rfl

theorem Cn.trans {w w1 w2 : World} {bs : Nat} (h : Cn w bs w1) (k : Cn w1 bs w2) : Cn w bs w2 := ⟨h.below.trans k.below, k.cell, k.fro⟩
theorem Cn.holds {w w1 : World} {bs blk off : Nat} {d : Array Int} (h : Cn w bs w1) (hb : blk < bs) (hH : Holds (Value.int .i32) w blk off d) : Holds (Value.int .i32) w1 blk off d := fun j hj =>
  ⟨(h.below.cell (p := ⟨blk, off + j, none⟩) hb).trans (hH j hj).1, (h.below.frozen (p := ⟨blk, off + j, none⟩) hb).trans (hH j hj).2⟩

set_option maxHeartbeats 1600000 in
theorem median_any (blk off cap a b c bs : Nat) (d : Array Int) (w : World) (hH : Holds (Value.int .i32) w blk off d) (hbb : blk < bs) (ha : a < d.size) (hb : b < d.size) (hc : c < d.size) (hcn : Cn w bs w) :
    Calls Try.prog 52 #[.slice (some ⟨blk, off, none⟩) d.size cap, .int .i64 a, .int .i64 b, .int .i64 c, .pointer (some ⟨bs, 0, none⟩)] w fun e w' => (∃ m : Nat, e = .returned (.int .i64 m) ∧ (m = a ∨ m = b ∨ m = c)) ∧ Cn w bs w' := by
  have HO : ∀ (W : World) (x y : Nat), Cn w bs W → x < d.size → y < d.size → Calls Try.prog 54 #[.slice (some ⟨blk, off, none⟩) d.size cap, .int .i64 x, .int .i64 y, .pointer (some ⟨bs, 0, none⟩)] W fun e w' => (∃ x2 y2 : Nat, e = .returned (.tuple #[.int .i64 x2, .int .i64 y2]) ∧ ((x2 = x ∧ y2 = y) ∨ (x2 = y ∧ y2 = x))) ∧ Cn W bs w' := fun W x y hW hx hy => by
    obtain ⟨s, hs⟩ := hW.cell
    exact order2_any blk off cap x y bs d W (hW.holds hbb hH) hx hy s hs hW.fro
  have HOO := hide HO
  have H1 := hide (HO w a b hcn ha hb)
  clear HO hH
  generalize d.size = sz at *
  go_enter Try.func52, Try.ntmps52
  go_wp2_with (first
    | (go_at_call 54; refine (unhide H1).mono ?_; clear H1; rintro e w1 ⟨⟨x1, y1, rfl, hxy1⟩, cn1⟩; have HX1 := hide hxy1; have H2 := hide (unhide HOO w1 y1 c (hcn.trans cn1) (by omega) hc); clear hxy1)
    | (go_at_call 54; refine (unhide H2).mono ?_; clear H2; rintro e w2 ⟨⟨x2, y2, rfl, hxy2⟩, cn2⟩; have HX2 := hide hxy2; have H3 := hide (unhide HOO w2 x1 x2 ((hcn.trans cn1).trans cn2) (by have := unhide HX1; omega) (by have := unhide HX1; omega)); clear hxy2)
    | (go_at_call 54; refine (unhide H3).mono ?_; clear H3; rintro e w3 ⟨⟨x3, y3, rfl, hxy3⟩, cn3⟩))
  go_ret
  exact ⟨⟨y3, rfl, by have := unhide HX1; have := unhide HX2; omega⟩, (cn1.trans cn2).trans cn3⟩

set_option maxHeartbeats 800000 in
theorem medadj_any (blk off cap a bs : Nat) (d : Array Int) (w : World) (hH : Holds (Value.int .i32) w blk off d) (hbb : blk < bs) (ha0 : 0 < a) (ha : a + 1 < d.size) (hsz : d.size ≤ 60000) (hcn : Cn w bs w) :
    Calls Try.prog 51 #[.slice (some ⟨blk, off, none⟩) d.size cap, .int .i64 a, .pointer (some ⟨bs, 0, none⟩)] w fun e w' => (∃ m : Nat, e = .returned (.int .i64 m) ∧ (m = a - 1 ∨ m = a ∨ m = a + 1)) ∧ Cn w bs w' := by
  have hm := median_any blk off cap (a - 1) a (a + 1) bs d w hH hbb (by omega) (by omega) ha hcn
  rw [show ((a - 1 : Nat) : Int) = (a : Int) - 1 by omega, show ((a + 1 : Nat) : Int) = (a : Int) + 1 by omega] at hm
  have HM := hide hm
  have z1 : IntKind.i64.wrap ((a : Int) - 1) = (a : Int) - 1 := by rw [IntKind.wrap_i64]; omega
  have z2 : IntKind.i64.wrap ((a : Int) + 1) = (a : Int) + 1 := by rw [IntKind.wrap_i64]; omega
  have z3 : (a : Int) ≤ 60000 := by omega
  clear hm hH hsz ha
  generalize d.size = sz at *
  go_enter Try.func51, Try.ntmps51
  go_wp2_with (go_at_call 52; refine (unhide HM).mono ?_; rintro e w1 ⟨⟨m, rfl, hm⟩, cn1⟩)
  go_ret
  exact ⟨⟨m, rfl, hm⟩, cn1⟩

theorem Rw.ext {w0 w w1 : World} {blk off : Nat} {d : Array Int} (h : Rw w0 blk off d w) (hb : Below w.heap.size w w1) : Rw w0 blk off d w1 :=
  ⟨fun j hj => ⟨(hb.cell (p := ⟨blk, off + j, none⟩) h.lt).trans (h.holds j hj).1, (hb.frozen (p := ⟨blk, off + j, none⟩) h.lt).trans (h.holds j hj).2⟩, h.below.trans (hb.mono (Nat.le_of_lt h.lt)), Nat.lt_of_lt_of_le h.lt hb.size⟩
theorem cn_new (w : World) : Cn (w.alloc (.cells #[.int .i64 0] 3)) w.heap.size (w.alloc (.cells #[.int .i64 0] 3)) :=
  ⟨Below.refl _ _, ⟨0, box1 w _ _⟩, (Boxed.new w 3 (.int .i64 0)).frozen⟩

set_option maxHeartbeats 4000000 in
/-- choosePivot of more than twelve: a place of the range; a hint. -/
theorem pivot_any (blk off cap a b : Nat) (d : Array Int) (w0 w : World) (hR : Rw w0 blk off d w) (hab : a + 12 < b) (hb : b ≤ d.size) (hsz : d.size ≤ 60000) :
    Calls Try.prog 40 #[.slice (some ⟨blk, off, none⟩) d.size cap, .int .i64 a, .int .i64 b] w fun e w' => (∃ (p : Nat) (h : Int), e = .returned (.tuple #[.int .i64 p, .int .i64 h]) ∧ a ≤ p ∧ p < b) ∧ Below w.heap.size w w' := by
  have hcn := cn_new w
  have hH : Holds (Value.int .i32) (w.alloc (.cells #[.int .i64 0] 3)) blk off d := (hR.gr (Gr.one w _)).holds
  have hbb := hR.lt
  have HM := hide (fun (W : World) (x y z : Nat) (hW : Cn (w.alloc (.cells #[.int .i64 0] 3)) w.heap.size W) (hx : x < d.size) (hy : y < d.size) (hz : z < d.size) => median_any blk off cap x y z w.heap.size d W (hW.holds hbb hH) hbb hx hy hz ⟨Below.refl _ _, hW.cell, hW.fro⟩)
  have HD := hide (fun (W : World) (x : Nat) (hW : Cn (w.alloc (.cells #[.int .i64 0] 3)) w.heap.size W) (hx0 : 0 < x) (hx : x + 1 < d.size) => medadj_any blk off cap x w.heap.size d W (hW.holds hbb hH) hbb hx0 hx hsz ⟨Below.refl _ _, hW.cell, hW.fro⟩)
  clear hR hH
  obtain ⟨q, hq⟩ : ∃ q, q = (b - a) / 4 := ⟨_, rfl⟩
  have hqz : ((b : Int) - (a : Int)) / 4 = (q : Int) := by omega
  have hq4 : 4 * q ≤ b - a ∧ b - a < 4 * q + 4 := by omega
  clear hq
  have z0 : IntKind.i64.wrap ((b : Int) - (a : Int)) = (b : Int) - (a : Int) := by rw [IntKind.wrap_i64]; omega
  have z8 : (8 : Int) ≤ (b : Int) - (a : Int) := by omega
  have zt : ((b : Int) - (a : Int)).tdiv 4 = (q : Int) := by rw [Int.tdiv_eq_ediv_of_nonneg (by omega)]; exact hqz
  have sb : (d.size : Int) ≤ 60000 := by omega
  have sb2 : (b : Int) ≤ (d.size : Int) := by omega
  have hB : Below w.heap.size w (w.alloc (.cells #[.int .i64 0] 3)) := (Gr.one w _).below
  by_cases h50 : 50 ≤ b - a
  · have z50 : (50 : Int) ≤ (b : Int) - (a : Int) := by omega
    have h1 := unhide HD _ (a + q) hcn (by omega) (by omega)
    rw [show ((a + q : Nat) : Int) = (a : Int) + (q : Int) by omega] at h1
    have H1 := hide h1
    have s2 : 0 < a + q * 2 ∧ a + q * 2 + 1 < d.size := by omega
    have s3 : 0 < a + q * 3 ∧ a + q * 3 + 1 < d.size := by omega
    clear h1
    go_enter Try.func40, Try.ntmps40
    go_wp2_with (first
      | (go_at_call 51; refine (unhide H1).mono ?_; clear H1; rintro e w1 ⟨⟨m1, rfl, hm1⟩, cn1⟩; have h2 := unhide HD w1 (a + q * 2) (hcn.trans cn1) s2.1 s2.2; rw [show ((a + q * 2 : Nat) : Int) = (a : Int) + (q : Int) * 2 by omega] at h2; have H2 := hide h2; clear h2)
      | (go_at_call 51; refine (unhide H2).mono ?_; clear H2; rintro e w2 ⟨⟨m2, rfl, hm2⟩, cn2⟩; have h3 := unhide HD w2 (a + q * 3) ((hcn.trans cn1).trans cn2) s3.1 s3.2; rw [show ((a + q * 3 : Nat) : Int) = (a : Int) + (q : Int) * 3 by omega] at h3; have H3 := hide h3; clear h3)
      | (go_at_call 51; refine (unhide H3).mono ?_; clear H3; rintro e w3 ⟨⟨m3, rfl, hm3⟩, cn3⟩; have H4 := hide (unhide HM w3 m1 m2 m3 (((hcn.trans cn1).trans cn2).trans cn3) (by omega) (by omega) (by omega)))
      | (go_at_call 52; refine (unhide H4).mono ?_; clear H4; rintro e w4 ⟨⟨m, rfl, hm⟩, cn4⟩; have cn5 := ((cn1.trans cn2).trans cn3).trans cn4; obtain ⟨s, hs⟩ := cn5.cell; have hmb : a ≤ m ∧ m < b := by omega))
    all_goals go_ret2
    all_goals exact ⟨⟨m, _, rfl, hmb.1, hmb.2⟩, hB.trans cn5.below⟩
  · have z50 : ¬ (50 : Int) ≤ (b : Int) - (a : Int) := by omega
    have h1 := unhide HM _ (a + q) (a + q * 2) (a + q * 3) hcn (by omega) (by omega) (by omega)
    rw [show ((a + q : Nat) : Int) = (a : Int) + (q : Int) by omega, show ((a + q * 2 : Nat) : Int) = (a : Int) + (q : Int) * 2 by omega, show ((a + q * 3 : Nat) : Int) = (a : Int) + (q : Int) * 3 by omega] at h1
    have H1 := hide h1
    clear h1
    go_enter Try.func40, Try.ntmps40
    go_wp2_with (go_at_call 52; refine (unhide H1).mono ?_; clear H1; rintro e w4 ⟨⟨m, rfl, hm⟩, cn5⟩; obtain ⟨s, hs⟩ := cn5.cell; have hmb : a ≤ m ∧ m < b := by omega)
    all_goals go_ret2
    all_goals exact ⟨⟨m, _, rfl, hmb.1, hmb.2⟩, hB.trans cn5.below⟩
end Go.Proofs.Ytnlkefdicpeemaa
