/- Numbers as the laws of layer 14 hand them on, and the fixed answers. -/
import Derived.Test.YtpkofpgdnbkknaaDoorD14
import Derived.Laws.Cover3
namespace Go.Proofs.YtpkofpgdnbkknaaDoor
open Go.RowKit

/-- Two floats, as the laws' pair. -/
abbrev tt (x y : Nat) : Value := .agg #[.float .f64 x, .float .f64 y]
set_option maxHeartbeats 400000 in
theorem lz_any (x y : Nat) (w : World) : Calls Tryd.prog 10 #[tt x y] w fun e w' => e = .returned (cc x y) ∧ Gr w w' := by
  go_enter Tryd.func10, Tryd.ntmps10
  go_wp2
  go_ret
  exact ⟨rfl, Gr.one w _⟩
set_option maxHeartbeats 400000 in
theorem lr_any (x y : Nat) (w : World) : Calls Tryd.prog 12 #[tt x y] w fun e w' => e = .returned (zz x y) ∧ Gr w w' := by
  have hst := st_float
  go_enter Tryd.func12, Tryd.ntmps12
  go_wp2
  go_returns
  exact ⟨rfl, (Gr.one w _).alloc _⟩
theorem ord_eq {x y : Nat} {a : Int} (h1 : S x = some a) (h2 : S y = some a) : FloatKind.f64.format.order x y = some .eq := by
  have := order_S h1 h2
  rw [cmp_eq] at this
  exact this
theorem ord_ne {x y : Nat} {a b : Int} (h1 : S x = some (a * K)) (h2 : S y = some (b * K)) (h : a ≠ b) : (FloatKind.f64.format.order x y == some .eq) = false := by
  have e : FloatKind.f64.format.order x y = some (compare (a * K) (b * K)) := order_S h1 h2
  rw [e, cmp_scale _ _ _ K_pos]
  rcases Int.lt_trichotomy a b with h' | h' | h'
  · rw [cmp_lt h']; rfl
  · exact absurd h' h
  · rw [cmp_gt h']; rfl
set_option maxHeartbeats 400000 in
theorem lis_any (x y : Nat) (p : Int × Int) (hz : IsZ x y p) (h1 : -999999 ≤ p.1) (h2 : p.1 ≤ 999999) (h3 : -999999 ≤ p.2) (h4 : p.2 ≤ 999999) (w : World) : Calls Tryd.prog 16 #[cc x y, .int .i64 p.1, .int .i64 p.2] w fun e w' => e = .returned (.bool true) ∧ w' = w := by
  have e1 := ord_eq hz.1 (S_ofInt p.1 (by omega))
  have e2 := ord_eq hz.2 (S_ofInt p.2 (by omega))
  clear hz h1 h2 h3 h4
  generalize p.1 = a at *
  generalize p.2 = b at *
  go_enter Tryd.func16, Tryd.ntmps16
  go_wp2
  go_ret
  exact ⟨rfl, rfl⟩
theorem isZ_pz {x y : Nat} {p : Int × Int} (hz : IsZ x y p) (h : -999999 ≤ p.1 ∧ p.1 ≤ 999999 ∧ -999999 ≤ p.2 ∧ p.2 ≤ 999999) : pz x y = some p := pz_some (wh_some hz.1 h.1 h.2.1) (wh_some hz.2 h.2.2.1 h.2.2.2)
theorem wc0 : wh 0 = some 0 := by kernel_rfl
theorem wcm1 : wh 13830554455654793216 = some (-1) := by kernel_rfl
theorem wcbig : wh 4696837138094751744 = some 999999 := by kernel_rfl
theorem wc2 : wh 4611686018427387904 = some 2 := by kernel_rfl
theorem wc5 : wh 4617315517961601024 = some 5 := by kernel_rfl
theorem wchalf : wh 4602678819172646912 = none := by kernel_rfl
theorem sc3 : S 4613937818241073152 = some (3 * K) := by kernel_rfl
theorem sc4 : S 4616189618054758400 = some (4 * K) := by kernel_rfl
theorem scm4 : S 13839561654909534208 = some (-4 * K) := by kernel_rfl
theorem sc0 : S 0 = some (0 * K) := by kernel_rfl
theorem tx34 : txt 3 4 = [51, 43, 52, 105] := by
  unfold txt; rw [if_neg (by decide), if_neg (by decide), if_pos (by decide), digZ_pos (by decide), digZ_pos (by decide), digN_small (by decide), digN_small (by decide)]; rfl
theorem gk1 : parG (nums ⟨#[51, 43, 52, 105]⟩) = (3, 4) ∧ parF (nums ⟨#[51, 43, 52, 105]⟩) = 0 := by
  have e : nums ⟨#[51, 43, 52, 105]⟩ = txt 3 4 := by rw [tx34]; kernel_rfl
  rw [e]
  obtain ⟨h1, h2⟩ := par_yes (ok_txt 3 4 (by decide) (by decide) (by decide) (by decide))
  rw [h1, h2, cut_txt 3 4 (by decide) (by decide) (by decide) (by decide)]
  exact ⟨rfl, rfl⟩
theorem gk2 : shZ (pz 0 13830554455654793216) = ⟨#[45, 49, 105]⟩ ∧ errZ (pz 0 13830554455654793216) = 0 := by
  rw [pz_some wc0 wcm1]
  refine ⟨?_, rfl⟩
  have e : txt 0 (-1) = [45, 49, 105] := by
    unfold txt; rw [if_neg (by decide), if_pos rfl, digZ_neg (by decide), digN_small (by decide)]; rfl
  show strOfNums (txt 0 (-1)) = _
  rw [e]
  rfl
theorem gk3 : parF (nums ⟨#[49, 43, 48, 105]⟩) = 140 := by
  have e : nums ⟨#[49, 43, 48, 105]⟩ = [49, 43, 48, 105] := by kernel_rfl
  rw [e]
  have c : cutG [49, 43, 48, 105] = (1, 0) := by kernel_rfl
  have n : okG [49, 43, 48, 105] = false := by
    rw [ok_of _ _ _ c, decide_eq_false, Bool.and_false]
    unfold txt
    rw [if_pos rfl, digZ_pos (by decide), digN_small (by decide)]
    simp
  exact (par_no n).2
theorem gk4 : timE (pz 4696837138094751744 0) (pz 4611686018427387904 0) = 3 := by
  rw [pz_some wcbig wc0, pz_some wc2 wc0]
  rfl
theorem gk5 : nrm (pz 4602678819172646912 0) = -1 := by rw [pz_none_l wchalf]; rfl
theorem gk6 : cmpG (some (3, 4)) (pz 0 4617315517961601024) = 1 := by rw [pz_some wc0 wc5]; kernel_rfl
set_option maxHeartbeats 3200000 in
theorem awake14 (w : World) (hL : Ly w) : Calls Tryd.prog 20 #[] w fun e w' => e = .returned (.bool true) ∧ Below w.heap.size w w' := by
  obtain ⟨x1, y1, z1, h1⟩ := gparse_any ⟨#[51, 43, 52, 105]⟩ (by decide)
  rw [gk1.1] at z1
  rw [gk1.2] at h1
  have pz1 := isZ_pz z1 (by decide)
  have h2 := fun W hW => gshow_any 0 13830554455654793216 W hW
  rw [gk2.1, gk2.2] at h2
  obtain ⟨x3, y3, z3, h3⟩ := gturn_any x1 y1 1
  rw [pz1] at z3 h3
  obtain ⟨x4, y4, _, h4⟩ := gparse_any ⟨#[49, 43, 48, 105]⟩ (by decide)
  rw [gk3] at h4
  obtain ⟨x5, y5, _, h5⟩ := gtimes_any 4696837138094751744 0 4611686018427387904 0
  rw [gk4] at h5
  have h6 := fun W hW => gnorm_any x1 y1 W hW
  have h7 := fun W hW => gcmp_any x1 y1 0 4617315517961601024 W hW
  rw [pz1] at h6 h7
  rw [gk6] at h7
  have h8 := fun W hW => gnorm_any 4602678819172646912 0 W hW
  rw [gk5] at h8
  have H1 := hide h1
  have H2 := hide h2
  have H3 := hide h3
  have H4 := hide h4
  have H5 := hide h5
  have H6 : Hid (∀ W, Ly W → Calls Tryd.prog 18 #[cc x1 y1] W fun e w' => e = .returned (.int .i64 25) ∧ Below W.heap.size W w') := h6
  have H7 := hide h7
  have H8 := hide h8
  have p1 := ord_eq z1.1 sc3
  have p2 := ord_eq z1.2 sc4
  have p3 := ord_eq z3.1 scm4
  have p4 := ord_eq z3.2 sc3
  clear h1 h2 h3 h4 h5 h6 h7 h8 z1 z3 pz1
  go_enter Tryd.func20, Tryd.ntmps20
  go_wp2_with (first
    | (go_at_call 18; refine (unhide H8 _ hL7).mono ?_; rintro e w8 ⟨rfl, b8⟩; have c8 := c7.trans (b8.mono c7.size))
    | (go_at_call 25; refine (unhide H7 _ hL6).mono ?_; rintro e w7 ⟨rfl, b7⟩; have c7 := c6.trans (b7.mono c6.size); have hL7 := hL.keep c7)
    | (go_at_call 18; refine (unhide H6 _ hL5).mono ?_; rintro e w6 ⟨rfl, b6⟩; have c6 := c5.trans (b6.mono c5.size); have hL6 := hL.keep c6)
    | (go_at_call 23; refine (unhide H5 _ hL4).mono ?_; rintro e w5 ⟨rfl, b5⟩; have c5 := c4.trans (b5.mono c4.size); have hL5 := hL.keep c5)
    | (go_at_call 21; refine (unhide H4 _ hL3).mono ?_; rintro e w4 ⟨rfl, b4⟩; have c4 := c3.trans (b4.mono c3.size); have hL4 := hL.keep c4)
    | (go_at_call 13; refine (unhide H3 _ hL2).mono ?_; rintro e w3 ⟨rfl, b3⟩; have c3 := c2.trans (b3.mono c2.size); have hL3 := hL.keep c3)
    | (go_at_call 9; refine (unhide H2 _ hL1).mono ?_; rintro e w2 ⟨rfl, b2⟩; have c2 := b1.trans (b2.mono b1.size); have hL2 := hL.keep c2)
    | (go_at_call 21; refine (unhide H1 _ hL).mono ?_; rintro e w1 ⟨rfl, b1⟩; have hL1 := hL.keep b1))
  go_ret
  exact ⟨rfl, c8⟩
end Go.Proofs.YtpkofpgdnbkknaaDoor
