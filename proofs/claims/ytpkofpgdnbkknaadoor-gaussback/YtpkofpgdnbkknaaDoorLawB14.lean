/- The law GaussBack. (By gen_laws.py.) -/
import Derived.Test.YtpkofpgdnbkknaaDoorLaw14b
namespace Go.Proofs.YtpkofpgdnbkknaaDoor
open Go.RowKit

theorem nums_shZ {x y : Nat} {p : Int × Int} (h : pz x y = some p) : nums (shZ (pz x y)) = txt p.1 p.2 := by
  rw [h]
  exact nums_strOfNums _ (txt_bound _ _)
theorem shZ_size {x y : Nat} {p : Int × Int} (h : pz x y = some p) : (shZ (pz x y)).size ≤ 16 := by
  have hi := pz_in h
  rw [← nums_length, nums_shZ h]
  exact txt_len _ _ hi.1 hi.2.1 hi.2.2.1 hi.2.2.2
theorem shZ_par {x y : Nat} {s : ByteArray} (hp : pz x y = some (cutG (nums s))) (ho : okG (nums s) = true) : shZ (pz x y) = s := by
  rw [hp]
  show strOfNums (txt (cutG (nums s)).1 (cutG (nums s)).2) = s
  rw [(ok_in ho).2.2.2.2, strOfNums_nums]
set_option maxHeartbeats 6400000 in
theorem back14_law (x y : Nat) (s : ByteArray) (w : World) (hL : Ly w) (hs : s.size ≤ 9223372036854775806) : Calls Tryd.prog 6 #[tt x y, .string s] w fun e w' => e = .returned (.bool true) ∧ Below w.heap.size w w' := by
  have HA := hide awake14
  have Z1 := hide (fun W => lz_b x y W)
  obtain ⟨x5, y5, z5, h5⟩ := gparse_any s hs
  have h1 := fun W hW => gshow_any x y W hW
  have h7 := fun W hW => gshow_any x5 y5 W hW
  have h8 := fun W hW => gfits_any x5 y5 W hW
  cases hp : pz x y with
  | none =>
    rw [hp] at h1
    have H1 : Hid (∀ W, Ly W → Calls Tryd.prog 9 #[cc x y] W fun e w' => e = .returned (.tuple #[.string (strOfNums []), .int .i64 140]) ∧ Below W.heap.size W w') := h1
    clear h1 hp
    cases ho : okG (nums s)
    · rw [(par_no ho).1] at z5
      rw [(par_no ho).2] at h5
      have H5 := hide h5
      have o1 := ord_eq z5.1 sc0
      have o2 := ord_eq z5.2 sc0
      clear h5 h7 h8 z5 ho
      have mx : Tryd.prog.follows .mixedOrders = true := by kernel_rfl
      have c0 : Below w.heap.size w (w.alloc (.cells #[.float .f64 x, .float .f64 y] 24)) := Below.one w _
      have L0 := hL.keep c0
      have p0 : Bx (w.alloc (.cells #[.float .f64 x, .float .f64 y] 24)) (w.heap.size) x y := bxn w x y (w.heap.size) 24 (by simp)
      have p0a := p0.1
      have p0b := p0.2
      go_enter Tryd.func6, Tryd.ntmps6
      go_wp2_with (first
        | (go_at_call 20; refine (unhide HA _ L3).mono ?_; rintro e w4 ⟨rfl, b4⟩; have c4 := c3.trans (b4.mono c3.size); have L4 := hL.keep c4; have p4 := p3.below b4; have p4a := p4.1; have p4b := p4.2)
        | (go_at_call 21; refine (unhide H5 _ L2).mono ?_; rintro e w3 ⟨rfl, b3⟩; have c3 := c2.trans (b3.mono c2.size); have L3 := hL.keep c3; have p3 := p2.below b3; have p3a := p3.1; have p3b := p3.2)
        | (go_at_call 9; refine (unhide H1 _ L1).mono ?_; rintro e w2 ⟨rfl, b2⟩; have c2 := c1.trans (b2.mono c1.size); have L2 := hL.keep c2; have p2 := p1.below b2; have p2a := p2.1; have p2b := p2.2)
        | (go_at_call 10; refine (unhide Z1 _).mono ?_; rintro e w1 ⟨rfl, b1⟩; have c1 := c0.trans (b1.mono c0.size); have L1 := hL.keep c1; have p1 := p0.below b1; have p1a := p1.1; have p1b := p1.2))
      go_ret
      exact ⟨rfl, c4⟩
    · have hin := parG_in (nums s)
      have hpz := isZ_pz z5 hin
      rw [(par_yes ho).1] at hpz
      rw [(par_yes ho).2] at h5
      rw [shZ_par hpz ho] at h7
      rw [hpz] at h7 h8
      have H5 := hide h5
      have H7 : Hid (∀ W, Ly W → Calls Tryd.prog 9 #[cc x5 y5] W fun e w' => e = .returned (.tuple #[.string s, .int .i64 0]) ∧ Below W.heap.size W w') := h7
      have H8 : Hid (∀ W, Ly W → Calls Tryd.prog 17 #[cc x5 y5] W fun e w' => e = .returned (.bool true) ∧ Below W.heap.size W w') := h8
      have hq : (s.toList == s.toList) = true := by simp
      clear h5 h7 h8 z5 ho hin hpz
      have mx : Tryd.prog.follows .mixedOrders = true := by kernel_rfl
      have c0 : Below w.heap.size w (w.alloc (.cells #[.float .f64 x, .float .f64 y] 24)) := Below.one w _
      have L0 := hL.keep c0
      have p0 : Bx (w.alloc (.cells #[.float .f64 x, .float .f64 y] 24)) (w.heap.size) x y := bxn w x y (w.heap.size) 24 (by simp)
      have p0a := p0.1
      have p0b := p0.2
      go_enter Tryd.func6, Tryd.ntmps6
      go_wp2_with (first
        | (go_at_call 20; refine (unhide HA _ L5).mono ?_; rintro e w6 ⟨rfl, b6⟩; have c6 := c5.trans (b6.mono c5.size); have L6 := hL.keep c6; have p6 := p5.below b6; have p6a := p6.1; have p6b := p6.2)
        | (go_at_call 17; refine (unhide H8 _ L4).mono ?_; rintro e w5 ⟨rfl, b5⟩; have c5 := c4.trans (b5.mono c4.size); have L5 := hL.keep c5; have p5 := p4.below b5; have p5a := p5.1; have p5b := p5.2)
        | (go_at_call 9; refine (unhide H7 _ L3).mono ?_; rintro e w4 ⟨rfl, b4⟩; have c4 := c3.trans (b4.mono c3.size); have L4 := hL.keep c4; have p4 := p3.below b4; have p4a := p4.1; have p4b := p4.2)
        | (go_at_call 21; refine (unhide H5 _ L2).mono ?_; rintro e w3 ⟨rfl, b3⟩; have c3 := c2.trans (b3.mono c2.size); have L3 := hL.keep c3; have p3 := p2.below b3; have p3a := p3.1; have p3b := p3.2)
        | (go_at_call 9; refine (unhide H1 _ L1).mono ?_; rintro e w2 ⟨rfl, b2⟩; have c2 := c1.trans (b2.mono c1.size); have L2 := hL.keep c2; have p2 := p1.below b2; have p2a := p2.1; have p2b := p2.2)
        | (go_at_call 10; refine (unhide Z1 _).mono ?_; rintro e w1 ⟨rfl, b1⟩; have c1 := c0.trans (b1.mono c0.size); have L1 := hL.keep c1; have p1 := p0.below b1; have p1a := p1.1; have p1b := p1.2))
      go_ret
      exact ⟨rfl, c6⟩
  | some p =>
    have hsz := shZ_size hp
    obtain ⟨x3, y3, z3, h3⟩ := gparse_any (shZ (pz x y)) (by omega)
    have hi := pz_in hp
    have hok : okG (nums (shZ (pz x y))) = true := by rw [nums_shZ hp]; exact ok_txt _ _ hi.1 hi.2.1 hi.2.2.1 hi.2.2.2
    have hcut : cutG (nums (shZ (pz x y))) = p := by rw [nums_shZ hp]; exact cut_txt _ _ hi.1 hi.2.1 hi.2.2.1 hi.2.2.2
    rw [(par_yes hok).1, hcut] at z3
    rw [(par_yes hok).2] at h3
    obtain ⟨w1, w2⟩ := pz_val hp
    have o3 := ord_eq z3.1 (wh_val w1).1
    have o4 := ord_eq z3.2 (wh_val w2).1
    have her : errZ (pz x y) = 0 := by rw [hp]; rfl
    rw [her] at h1
    have H1 := hide h1
    have H3 := hide h3
    have l16 : ¬ 16 < ((shZ (pz x y)).size : Int) := by omega
    clear h1 h3 z3 hok hcut hi hp w1 w2 her hsz
    generalize shZ (pz x y) = T at *
    cases ho : okG (nums s)
    · rw [(par_no ho).1] at z5
      rw [(par_no ho).2] at h5
      have H5 := hide h5
      have o1 := ord_eq z5.1 sc0
      have o2 := ord_eq z5.2 sc0
      clear h5 h7 h8 z5 ho
      have mx : Tryd.prog.follows .mixedOrders = true := by kernel_rfl
      have c0 : Below w.heap.size w (w.alloc (.cells #[.float .f64 x, .float .f64 y] 24)) := Below.one w _
      have L0 := hL.keep c0
      have p0 : Bx (w.alloc (.cells #[.float .f64 x, .float .f64 y] 24)) (w.heap.size) x y := bxn w x y (w.heap.size) 24 (by simp)
      have p0a := p0.1
      have p0b := p0.2
      go_enter Tryd.func6, Tryd.ntmps6
      go_wp2_with (first
        | (go_at_call 20; refine (unhide HA _ L5).mono ?_; rintro e w6 ⟨rfl, b6⟩; have c6 := c5.trans (b6.mono c5.size); have L6 := hL.keep c6; have p6 := p5.below b6; have p6a := p6.1; have p6b := p6.2)
        | (go_at_call 21; refine (unhide H5 _ L4).mono ?_; rintro e w5 ⟨rfl, b5⟩; have c5 := c4.trans (b5.mono c4.size); have L5 := hL.keep c5; have p5 := p4.below b5; have p5a := p5.1; have p5b := p5.2)
        | (go_at_call 10; refine (unhide Z1 _).mono ?_; rintro e w4 ⟨rfl, b4⟩; have c4 := c3.trans (b4.mono c3.size); have L4 := hL.keep c4; have p4 := p3.below b4; have p4a := p4.1; have p4b := p4.2)
        | (go_at_call 21; refine (unhide H3 _ L2).mono ?_; rintro e w3 ⟨rfl, b3⟩; have c3 := c2.trans (b3.mono c2.size); have L3 := hL.keep c3; have p3 := p2.below b3; have p3a := p3.1; have p3b := p3.2)
        | (go_at_call 9; refine (unhide H1 _ L1).mono ?_; rintro e w2 ⟨rfl, b2⟩; have c2 := c1.trans (b2.mono c1.size); have L2 := hL.keep c2; have p2 := p1.below b2; have p2a := p2.1; have p2b := p2.2)
        | (go_at_call 10; refine (unhide Z1 _).mono ?_; rintro e w1 ⟨rfl, b1⟩; have c1 := c0.trans (b1.mono c0.size); have L1 := hL.keep c1; have p1 := p0.below b1; have p1a := p1.1; have p1b := p1.2))
      go_ret
      exact ⟨rfl, c6⟩
    · have hin := parG_in (nums s)
      have hpz := isZ_pz z5 hin
      rw [(par_yes ho).1] at hpz
      rw [(par_yes ho).2] at h5
      rw [shZ_par hpz ho] at h7
      rw [hpz] at h7 h8
      have H5 := hide h5
      have H7 : Hid (∀ W, Ly W → Calls Tryd.prog 9 #[cc x5 y5] W fun e w' => e = .returned (.tuple #[.string s, .int .i64 0]) ∧ Below W.heap.size W w') := h7
      have H8 : Hid (∀ W, Ly W → Calls Tryd.prog 17 #[cc x5 y5] W fun e w' => e = .returned (.bool true) ∧ Below W.heap.size W w') := h8
      have hq : (s.toList == s.toList) = true := by simp
      clear h5 h7 h8 z5 ho hin hpz
      have mx : Tryd.prog.follows .mixedOrders = true := by kernel_rfl
      have c0 : Below w.heap.size w (w.alloc (.cells #[.float .f64 x, .float .f64 y] 24)) := Below.one w _
      have L0 := hL.keep c0
      have p0 : Bx (w.alloc (.cells #[.float .f64 x, .float .f64 y] 24)) (w.heap.size) x y := bxn w x y (w.heap.size) 24 (by simp)
      have p0a := p0.1
      have p0b := p0.2
      go_enter Tryd.func6, Tryd.ntmps6
      go_wp2_with (first
        | (go_at_call 20; refine (unhide HA _ L7).mono ?_; rintro e w8 ⟨rfl, b8⟩; have c8 := c7.trans (b8.mono c7.size); have L8 := hL.keep c8; have p8 := p7.below b8; have p8a := p8.1; have p8b := p8.2)
        | (go_at_call 17; refine (unhide H8 _ L6).mono ?_; rintro e w7 ⟨rfl, b7⟩; have c7 := c6.trans (b7.mono c6.size); have L7 := hL.keep c7; have p7 := p6.below b7; have p7a := p7.1; have p7b := p7.2)
        | (go_at_call 9; refine (unhide H7 _ L5).mono ?_; rintro e w6 ⟨rfl, b6⟩; have c6 := c5.trans (b6.mono c5.size); have L6 := hL.keep c6; have p6 := p5.below b6; have p6a := p6.1; have p6b := p6.2)
        | (go_at_call 21; refine (unhide H5 _ L4).mono ?_; rintro e w5 ⟨rfl, b5⟩; have c5 := c4.trans (b5.mono c4.size); have L5 := hL.keep c5; have p5 := p4.below b5; have p5a := p5.1; have p5b := p5.2)
        | (go_at_call 10; refine (unhide Z1 _).mono ?_; rintro e w4 ⟨rfl, b4⟩; have c4 := c3.trans (b4.mono c3.size); have L4 := hL.keep c4; have p4 := p3.below b4; have p4a := p4.1; have p4b := p4.2)
        | (go_at_call 21; refine (unhide H3 _ L2).mono ?_; rintro e w3 ⟨rfl, b3⟩; have c3 := c2.trans (b3.mono c2.size); have L3 := hL.keep c3; have p3 := p2.below b3; have p3a := p3.1; have p3b := p3.2)
        | (go_at_call 9; refine (unhide H1 _ L1).mono ?_; rintro e w2 ⟨rfl, b2⟩; have c2 := c1.trans (b2.mono c1.size); have L2 := hL.keep c2; have p2 := p1.below b2; have p2a := p2.1; have p2b := p2.2)
        | (go_at_call 10; refine (unhide Z1 _).mono ?_; rintro e w1 ⟨rfl, b1⟩; have c1 := c0.trans (b1.mono c0.size); have L1 := hL.keep c1; have p1 := p0.below b1; have p1a := p1.1; have p1b := p1.2))
      go_ret
      exact ⟨rfl, c8⟩
end Go.Proofs.YtpkofpgdnbkknaaDoor
