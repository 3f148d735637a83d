/- The sort of runes: xorshift's Next, breakPatterns. -/
import Derived.Test.YtnlkefdicpeemaaPartEq
import Derived.Test.YtnlkefdicpeemaaBits
import Derived.OpenShut
import Derived.Deep.CutRange
import Derived.Test.YtnlkefdicpeemaaHeap
import Derived.Test.YtnlkefdicpeemaaPiv
namespace Go.Proofs.Ytnlkefdicpeemaa
open Go.RowKit
open Go.Sort (Holds ltInt swp PermIn SortedIn)

theorem u64b (op : BinOp) (x y : Int) : 0 ≤ bits op .u64 x y ∧ bits op .u64 x y ≤ 18446744073709551615 := bounds_u64 (wf_bits op .u64 x y)
theorem setX {w : World} {bs : Nat} {x : Int} (hc : w.cell? ⟨bs, 0, none⟩ = some (.int .u64 x)) (hf : w.frozen? ⟨bs, 0, none⟩ = false) (y : Int) :
    (w.setCell ⟨bs, 0, none⟩ (.int .u64 y)).drew.cell? ⟨bs, 0, none⟩ = some (.int .u64 y) ∧ (w.setCell ⟨bs, 0, none⟩ (.int .u64 y)).drew.frozen? ⟨bs, 0, none⟩ = false ∧ Below bs w (w.setCell ⟨bs, 0, none⟩ (.int .u64 y)).drew :=
  ⟨World.cell?_setCell_same' _ _ _ (by rw [hc]; rfl), (World.frozen?_setCell _ _ _ _).trans hf, ((Below.refl _ _).setCell (p := ⟨bs, 0, none⟩) (Nat.le_refl _) _).drew⟩

set_option maxHeartbeats 1600000 in
theorem next_any (bs : Nat) (x : Int) (w : World) (hc : w.cell? ⟨bs, 0, none⟩ = some (.int .u64 x)) (hf : w.frozen? ⟨bs, 0, none⟩ = false) :
    Calls Try.prog 50 #[.pointer (some ⟨bs, 0, none⟩)] w fun e w' => ∃ (y : Int), e = .returned (.int .u64 y) ∧ 0 ≤ y ∧ y < 18446744073709551616 ∧ w'.cell? ⟨bs, 0, none⟩ = some (.int .u64 y) ∧ w'.frozen? ⟨bs, 0, none⟩ = false ∧ Below bs w w' := by
  go_enter Try.func50, Try.ntmps50
  go_wp2
  go_region
  have hy := u64b BinOp.xor x (IntKind.u64.wrap (x * 8192))
  generalize bits BinOp.xor IntKind.u64 x (IntKind.u64.wrap (x * 8192)) = y1 at *
  obtain ⟨c1, f1, b1⟩ := setX hc hf y1
  generalize (w.setCell ⟨bs, 0, none⟩ (.int .u64 y1)).drew = w1 at *
  clear hc hf
  go_wp2
  go_region
  have hy2 := u64b BinOp.xor y1 (y1 / 128)
  generalize bits BinOp.xor IntKind.u64 y1 (y1 / 128) = y2 at *
  obtain ⟨c2, f2, b2⟩ := setX c1 f1 y2
  generalize (w1.setCell ⟨bs, 0, none⟩ (.int .u64 y2)).drew = w2 at *
  clear c1 f1
  go_wp2
  go_region
  have hy3 := u64b BinOp.xor y2 (IntKind.u64.wrap (y2 * 131072))
  generalize bits BinOp.xor IntKind.u64 y2 (IntKind.u64.wrap (y2 * 131072)) = y3 at *
  obtain ⟨c3, f3, b3⟩ := setX c2 f2 y3
  generalize (w2.setCell ⟨bs, 0, none⟩ (.int .u64 y3)).drew = w3 at *
  clear c2 f2
  go_wp2
  go_ret
  exact ⟨y3, rfl, hy3.1, by omega, c3, f3, (b1.trans b2).trans b3⟩

theorem Rw.far {w0 w w1 : World} {blk off bs : Nat} {d : Array Int} (h : Rw w0 blk off d w) (hb : Below bs w w1) (hlt : blk < bs) : Rw w0 blk off d w1 :=
  ⟨fun j hj => ⟨(hb.cell (p := ⟨blk, off + j, none⟩) hlt).trans (h.holds j hj).1, (hb.frozen (p := ⟨blk, off + j, none⟩) hlt).trans (h.holds j hj).2⟩, h.below.trans (hb.mono (Nat.le_of_lt hlt)), Nat.lt_of_lt_of_le h.lt hb.size⟩

theorem and_low (x : Int) (k : Nat) (h0 : 0 ≤ x) (h1 : x < 18446744073709551616) (hk : k ≤ 16) : 0 ≤ bits .and .u64 x (((2 ^ k : Nat) : Int) - 1) ∧ bits .and .u64 x (((2 ^ k : Nat) : Int) - 1) < ((2 ^ k : Nat) : Int) := by
  have hp : 1 ≤ 2 ^ k := Nat.one_le_two_pow
  have hp2 : 2 ^ k ≤ 2 ^ 16 := Nat.pow_le_pow_right (by omega) hk
  have e1 : x = ((x.toNat : Nat) : Int) := by omega
  have e2 : ((2 ^ k : Nat) : Int) - 1 = ((2 ^ k - 1 : Nat) : Int) := by omega
  rw [e1, e2, u64_and_nat x.toNat (2 ^ k - 1) (by omega) (by omega)]
  have := Nat.and_le_right (n := x.toNat) (m := 2 ^ k - 1)
  omega

theorem pow2M (L : Nat) (w : World) (h0 : 1 ≤ L) (hx : L < 65536) :
    Calls Try.prog 49 #[.int .i64 L] w fun e w' => ∃ M : Nat, e = .returned (.int .u64 (M : Int)) ∧ 1 ≤ M ∧ M ≤ 65536 ∧ M ≤ 2 * L ∧ (∀ y : Int, 0 ≤ y → y < 18446744073709551616 → 0 ≤ bits .and .u64 y ((M : Int) - 1) ∧ bits .and .u64 y ((M : Int) - 1) < (M : Int)) ∧ w' = w :=
  (pow2_any L w hx).mono fun _ _ ⟨k, he, hk, hkL, hw⟩ => by
    refine ⟨2 ^ k, he, Nat.one_le_two_pow, Nat.le_trans (Nat.pow_le_pow_right (by omega) hk) (by decide), ?_, fun y h1 h2 => and_low y k h1 h2 hk, hw⟩
    cases k with
    | zero => simp; omega
    | succ k => rw [Nat.pow_succ] at hkL ⊢; omega

theorem cell_two {w : World} {blk bs i j : Nat} {u v z : Value} (h : blk < bs) (hc : w.cell? ⟨bs, 0, none⟩ = some z) : ((w.setCell ⟨blk, i, none⟩ u).setCell ⟨blk, j, none⟩ v).cell? ⟨bs, 0, none⟩ = some z := by
  rw [World.cell?_setCell_other _ _ _ _ (by intro he; simp at he <;> omega), World.cell?_setCell_other _ _ _ _ (by intro he; simp at he <;> omega)]
  exact hc
theorem fro_two {w : World} {p q r : Addr} {u v : Value} (h : w.frozen? r = false) : ((w.setCell p u).setCell q v).frozen? r = false := by
  rw [World.frozen?_setCell, World.frozen?_setCell]; exact h

set_option maxRecDepth 8000 in
set_option maxHeartbeats 3200000 in
theorem brk_any (blk off cap a b : Nat) (d : Array Int) (w0 w : World) (hR : Rw w0 blk off d w) (hab : a + 12 < b) (hb : b ≤ d.size) (hsz : d.size ≤ 60000) :
    Calls Try.prog 39 #[.slice (some ⟨blk, off, none⟩) d.size cap, .int .i64 a, .int .i64 b] w fun e w' => e = .returned (.tuple #[]) ∧ ∃ d', Rw w0 blk off d' w' ∧ PermIn a b d d' := by
  have hlt := hR.lt
  obtain ⟨L, hL⟩ : ∃ L, L = b - a := ⟨_, rfl⟩
  have RR := hide (hR.gr (Gr.one w (.cells #[.int .u64 (L : Int)] 74)))
  clear hR
  have cb := box1 w (.int .u64 (L : Int)) 74
  have fb : (w.alloc (.cells #[.int .u64 (L : Int)] 74)).frozen? ⟨w.heap.size, 0, none⟩ = false := (Boxed.new w 74 (.int .u64 (L : Int))).frozen
  have a1 : IntKind.i64.wrap ((b : Int) - (a : Int)) = (L : Int) := by rw [IntKind.wrap_i64]; omega
  have a2 : (8 : Int) ≤ (L : Int) := by omega
  have a3 : IntKind.u64.wrap (L : Int) = (L : Int) := by simp [IntKind.wrap, IntKind.bits, IntKind.signed]; omega
  have HP := hide (fun W => pow2M L W (by omega) (by omega))
  generalize hsn : d.size = sz at *
  have SN := hide hsn
  clear hsn
  have hbs := hlt
  clear hlt
  have HL := hide hL
  obtain ⟨q, hq⟩ : ∃ q, q = L / 4 := ⟨_, rfl⟩
  have zq : (L : Int) / 4 = (q : Int) := by omega
  have zt : (L : Int).tdiv 4 = (q : Int) := by rw [Int.tdiv_eq_ediv_of_nonneg (by omega)]; exact zq
  have hq1 : 4 * q ≤ L := by omega
  have hq2 : 2 ≤ q := by omega
  have k1 : IntKind.i64.wrap (q : Int) = (q : Int) := by rw [IntKind.wrap_i64]; omega
  have k2 : IntKind.i64.wrap ((q : Int) * 2) = (q : Int) * 2 := by rw [IntKind.wrap_i64]; omega
  have k3 : IntKind.i64.wrap ((a : Int) + (q : Int) * 2) = (a : Int) + (q : Int) * 2 := by rw [IntKind.wrap_i64]; omega
  have k4 : IntKind.i64.wrap ((a : Int) + (q : Int) * 2 - 1) = (a : Int) + (q : Int) * 2 - 1 := by rw [IntKind.wrap_i64]; omega
  have k5 : IntKind.i64.wrap ((a : Int) + (q : Int) * 2 + 1) = (a : Int) + (q : Int) * 2 + 1 := by rw [IntKind.wrap_i64]; omega
  have HB9 := hide (show a + L = b ∧ b ≤ sz ∧ sz ≤ 60000 by omega)
  have hL6 : L ≤ 60000 := by omega
  clear hq hL hab hb hsz
  go_enter Try.func39, Try.ntmps39
  go_wp2_with (go_at_call 49; refine (unhide HP _).mono ?_; rintro e w1 ⟨M, rfl, hM1, hM2, hM3, hand0, rfl⟩; have HAND := hide hand0; clear hand0)
  have m1 : IntKind.u64.wrap ((M : Int) - 1) = (M : Int) - 1 := by simp [IntKind.wrap, IntKind.bits, IntKind.signed]; omega
  generalize w.alloc (.cells #[.int .u64 (L : Int)] 74) = wq at *
  generalize w.heap.size = bs at *
  go_loopw [9] (fun x wr => ∃ (I : Nat) (dk : Array Int), x = .int .i64 I ∧ a + q * 2 ≤ I + 1 ∧ I ≤ a + q * 2 + 2 ∧ Hid (dk.size = sz) ∧ Hid (Rw w0 blk off dk wr) ∧ Hid (PermIn a b d dk) ∧ ∃ y : Int, 0 ≤ y ∧ y < 18446744073709551616 ∧ wr.cell? ⟨bs, 0, none⟩ = some (.int .u64 y) ∧ wr.frozen? ⟨bs, 0, none⟩ = false) (fun x _ => (a + q * 2 + 2 - (intOf x).toNat))
  case atStart => exact ⟨a + q * 2 - 1, d, by congr 1; omega, by omega, by omega, SN, RR, hide (Go.Sort.permIn_refl d a b), L, by omega, by omega, cb, fb⟩
  case round =>
    clear cb fb RR
    obtain ⟨I, dk, rfl, hI1, hI2, SK, RK, PK, y0, hy00, hy01, cy0, fy0⟩ := hrel
    obtain ⟨hb1, hb2, hb3⟩ := unhide HB9
    by_cases hlt : I ≤ a + q * 2 + 1
    · have hltz : (I : Int) ≤ (a : Int) + (q : Int) * 2 + 1 := by omega
      have hI6 : (I : Int) ≤ 70000 := by omega
      have mI : IntKind.i64.wrap ((I : Int) + 1) = (I : Int) + 1 := by rw [IntKind.wrap_i64]; omega
      have HNN := hide (show a + q * 2 ≤ I + 1 + 1 ∧ I + 1 ≤ a + q * 2 + 2 by omega)
      have HN := hide (next_any bs y0 _ cy0 fy0)
      clear cy0 fy0 hy00 hy01
      go_upto_if 43 with (go_at_call 50; refine (unhide HN).mono ?_; rintro e wy ⟨y, rfl, hy0, hy1, cy, fy, hbel⟩; have RY := hide ((unhide RK).far hbel hbs); have hand := unhide HAND y hy0 hy1; obtain ⟨o, ho⟩ : ∃ o : Nat, bits BinOp.and IntKind.u64 y ((M : Int) - 1) = (o : Int) := ⟨(bits BinOp.and IntKind.u64 y ((M : Int) - 1)).toNat, by omega⟩; rw [ho] at hand; have m2 : IntKind.i64.wrap (o : Int) = (o : Int) := by (rw [IntKind.wrap_i64]; omega))
      by_cases hoL : L ≤ o
      · have e0 : (L : Int) ≤ (o : Int) := by omega
        obtain ⟨p, hp⟩ : ∃ p, p = o - L := ⟨_, rfl⟩
        have m3 : IntKind.i64.wrap ((o : Int) - (L : Int)) = (p : Int) := by rw [IntKind.wrap_i64]; omega
        have hpL : p < L := by omega
        clear hp
        obtain ⟨r, hr⟩ : ∃ r, r = a + p := ⟨_, rfl⟩
        have m4 : IntKind.i64.wrap ((a : Int) + (p : Int)) = (r : Int) := by rw [IntKind.wrap_i64]; omega
        have r0 : (0 : Int) ≤ (r : Int) := by omega
        have r1 : (r : Int) < (sz : Int) := by omega
        have i0 : (0 : Int) ≤ (I : Int) := by omega
        have i1 : (I : Int) < (sz : Int) := by omega
        have sk := unhide SK
        have c1 := (unhide RY).cell (i := I) (by omega)
        have c2 := (unhide RY).cell (i := r) (by omega)
        have f1 := (unhide RY).fro (i := I) (by omega)
        have f2 := (unhide RY).fro (i := r) (by omega)
        have HSW := hide (fun n x y => ((unhide RY).drewN n).swap (i := I) (j := r) (by omega) (by omega) (x := x) (y := y))
        have HPM : Hid (PermIn a b d (swp dk I r)) := hide (Go.Sort.permIn_trans _ _ _ a b (unhide PK) (Go.Sort.swp_permIn dk a b I r (by omega) (by omega) (by omega) (by omega) (by omega)))
        have SK2 : Hid ((swp dk I r).size = sz) := by show (swp dk I r).size = sz; rw [Go.Sort.swp_size]; exact sk
        have HRR := hide hr
        clear sk hr hb1 hb2 hb3
        generalize hx : dk[I]! = x at c1
        generalize hy9 : dk[r]! = z at c2
        have HX := hide hx
        have HZ := hide hy9
        clear hx hy9
        obtain ⟨vv, hvv⟩ : ∃ v, (wy.setCell ⟨blk, off + I, none⟩ (.int .i32 z)).cell? ⟨blk, off + r, none⟩ = some v := Rw.some_set c1 c2 _
        have HCY := hide cy
        have HFY := hide fy
        go_wp2
        go_region
        go_wp2
        go_roundw
        case rel => exact ⟨I + 1, swp dk I r, by go_num, (unhide HNN).1, (unhide HNN).2, SK2, unhide HSW 1 z x (unhide HZ).symm (unhide HX).symm, HPM, y, hy0, hy1, cell_two hbs (unhide HCY), fro_two (unhide HFY)⟩
        case measure => have h9 := (unhide HNN).2; simp [intOf]; omega
      · have e0 : ¬ (L : Int) ≤ (o : Int) := by omega
        obtain ⟨r, hr⟩ : ∃ r, r = a + o := ⟨_, rfl⟩
        have m4 : IntKind.i64.wrap ((a : Int) + (o : Int)) = (r : Int) := by rw [IntKind.wrap_i64]; omega
        have r0 : (0 : Int) ≤ (r : Int) := by omega
        have r1 : (r : Int) < (sz : Int) := by omega
        have i0 : (0 : Int) ≤ (I : Int) := by omega
        have i1 : (I : Int) < (sz : Int) := by omega
        have sk := unhide SK
        have c1 := (unhide RY).cell (i := I) (by omega)
        have c2 := (unhide RY).cell (i := r) (by omega)
        have f1 := (unhide RY).fro (i := I) (by omega)
        have f2 := (unhide RY).fro (i := r) (by omega)
        have HSW := hide (fun n x y => ((unhide RY).drewN n).swap (i := I) (j := r) (by omega) (by omega) (x := x) (y := y))
        have HPM : Hid (PermIn a b d (swp dk I r)) := hide (Go.Sort.permIn_trans _ _ _ a b (unhide PK) (Go.Sort.swp_permIn dk a b I r (by omega) (by omega) (by omega) (by omega) (by omega)))
        have SK2 : Hid ((swp dk I r).size = sz) := by show (swp dk I r).size = sz; rw [Go.Sort.swp_size]; exact sk
        have HRR := hide hr
        clear sk hr hb1 hb2 hb3
        generalize hx : dk[I]! = x at c1
        generalize hy9 : dk[r]! = z at c2
        have HX := hide hx
        have HZ := hide hy9
        clear hx hy9
        obtain ⟨vv, hvv⟩ : ∃ v, (wy.setCell ⟨blk, off + I, none⟩ (.int .i32 z)).cell? ⟨blk, off + r, none⟩ = some v := Rw.some_set c1 c2 _
        have HCY := hide cy
        have HFY := hide fy
        go_wp2
        go_region
        go_wp2
        go_roundw
        case rel => exact ⟨I + 1, swp dk I r, by go_num, (unhide HNN).1, (unhide HNN).2, SK2, unhide HSW 1 z x (unhide HZ).symm (unhide HX).symm, HPM, y, hy0, hy1, cell_two hbs (unhide HCY), fro_two (unhide HFY)⟩
        case measure => have h9 := (unhide HNN).2; simp [intOf]; omega
    · have hltz : ¬ (I : Int) ≤ (a : Int) + (q : Int) * 2 + 1 := by omega
      go_wp2
      go_end0
      exact ⟨rfl, dk, unhide RK, unhide PK⟩
end Go.Proofs.Ytnlkefdicpeemaa
