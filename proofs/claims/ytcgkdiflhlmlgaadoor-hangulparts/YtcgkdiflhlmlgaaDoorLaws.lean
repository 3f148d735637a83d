/- The five laws of this stage. -/
import Derived.Test.YtcgkdiflhlmlgaaDoorAwake
namespace Go.Proofs.YtcgkdiflhlmlgaaDoor
open Go.RowKit

set_option maxHeartbeats 1600000 in
theorem parts_law (r : Int) (w : World) (hL : Lay w) : Calls Tryd.prog 3 #[.int .i32 r] w fun e w' => e = .returned (.bool true) ∧ Below w.heap.size w w' := by
  have H1 : Hid (∀ w, Calls Tryd.prog 8 #[.int .i32 r] w fun e w' => e = .returned (.bool (isSyl r)) ∧ w = w') := fun w => (syl_any r w).mono fun _ _ ⟨a, b⟩ => ⟨a, b.symm⟩
  have H2 : Hid (∀ w, Calls Tryd.prog 9 #[.int .i32 r] w fun e w' => e = .returned (.bool (isSyl r)) ∧ w = w') := fun w => (rsyl_any r w).mono fun _ _ ⟨a, b⟩ => ⟨a, b.symm⟩
  have H3 := hide (part_any r)
  have H4 : Hid (∀ w, Calls Tryd.prog 11 #[.int .i32 r] w fun e w' => e = .returned (.int .i64 (part r)) ∧ w = w') := fun w => (rpart_any r w).mono fun _ _ ⟨a, b⟩ => ⟨a, b.symm⟩
  have H5 := hide (apart_any r)
  have H6 := hide (rapart_any r)
  have H7 := hide awake_any
  have HS := hide same_any
  have hlen := apt_len r
  generalize isSyl r = s at *
  generalize part r = p at *
  generalize apt r = l at *
  have hpos := hL.pos
  go_enter Tryd.func3, Tryd.ntmps3
  go_wp2_with (first
    | (go_at_call 8; refine (unhide H1 _).mono ?_; rintro e w0 ⟨rfl, rfl⟩)
    | (go_at_call 9; refine (unhide H2 _).mono ?_; rintro e w0 ⟨rfl, rfl⟩)
    | (go_at_call 10; refine (unhide H3 _ hL).mono ?_; rintro e w1 ⟨rfl, g1⟩; have b1 := g1.below; have hL1 := hL.gr g1; have hp1 := hL1.pos; clear g1)
    | (go_at_call 11; refine (unhide H4 _).mono ?_; rintro e w0 ⟨rfl, rfl⟩)
    | (go_at_call 13; refine (unhide H5 _ hL1).mono ?_; rintro e w2 ⟨v2, rfl, r2, b2⟩; have hL2 := hL1.below b2 hp1; have hp2 := hL2.pos; have b12 := b1.trans (b2.mono b1.size); have r2' := r2.row; clear r2)
    | (go_at_call 14; refine (unhide H6 _).mono ?_; rintro e w3 ⟨v3, rfl, r3, b3⟩; have hL3 := hL2.below b3 hp2; have hp3 := hL3.pos; have b13 := b12.trans (b3.mono b12.size); have r3' := r3.row; have r23 := r2'.below b3; clear r3)
    | (go_at_call 12; refine (unhide HS _ _ l _ (by omega) r23 r3').mono ?_; rintro e w4 ⟨rfl, b4⟩; have hL4 := hL3.below b4 hp3; have b14 := b13.trans (b4.mono b13.size))
    | (go_at_call 15; refine (unhide H7 _ hL4).mono ?_; rintro e w5 ⟨rfl, b5⟩; have b15 := b14.trans (b5.mono b14.size)))
  go_ret
  exact ⟨rfl, b15⟩

set_option maxHeartbeats 1600000 in
theorem joins_law (a b : Int) (w : World) (hL : Lay w) : Calls Tryd.prog 4 #[.int .i32 a, .int .i32 b] w fun e w' => e = .returned (.bool true) ∧ Below w.heap.size w w' := by
  have H1 := hide (join_any a b)
  have H2 : Hid (∀ w, Calls Tryd.prog 17 #[.int .i32 a, .int .i32 b] w fun e w' => e = .returned (.tuple #[.int .i32 (jR a b), .bool (jB a b)]) ∧ w = w') := fun w => (rjoin_any a b w).mono fun _ _ ⟨a, b⟩ => ⟨a, b.symm⟩
  have H7 := hide awake_any
  generalize jR a b = x at *
  generalize jB a b = s at *
  go_enter Tryd.func4, Tryd.ntmps4
  go_wp2_with (first
    | (go_at_call 16; refine (unhide H1 _ hL).mono ?_; rintro e w1 ⟨rfl, g1⟩; have b1 := g1.below; have hL1 := hL.gr g1; clear g1)
    | (go_at_call 17; refine (unhide H2 _).mono ?_; rintro e w0 ⟨rfl, rfl⟩)
    | (go_at_call 15; refine (unhide H7 _ hL1).mono ?_; rintro e w5 ⟨rfl, b5⟩; have b15 := b1.trans (b5.mono b1.size)))
  go_ret
  exact ⟨rfl, b15⟩

set_option maxHeartbeats 1600000 in
theorem wholes_law (a : Option Addr) (cap : Nat) (l : List Int) (w : World) (hL : Lay w) (hr : Row w (.slice a l.length cap) l) : Calls Tryd.prog 5 #[.slice a l.length cap] w fun e w' => e = .returned (.bool true) ∧ Below w.heap.size w w' := by
  have H7 := hide awake_any
  by_cases hlen : 5000 < l.length
  · have hz : (5000 : Int) < (l.length : Int) := by omega
    go_enter Tryd.func5, Tryd.ntmps5
    go_wp2_with (go_at_call 15; refine (unhide H7 _ hL).mono ?_; rintro e w5 ⟨rfl, b5⟩)
    go_ret
    exact ⟨rfl, b5⟩
  · have hz : ¬ (5000 : Int) < (l.length : Int) := by omega
    have H1 := hide (fun W hW hR => whole_any (.slice a l.length cap) l W (by omega) hW hR)
    have H2 := hide (fun W hR => rwhole_any (.slice a l.length cap) l W (by omega) hR)
    have HS := hide (fun v1 v2 W => same_any v1 v2 (whl l) W (Nat.le_trans (whl_len l) (by omega)))
    have HR := hide hr
    have hpos := hL.pos
    generalize whl l = z at *
    clear hr
    go_enter Tryd.func5, Tryd.ntmps5
    go_wp2_with (first
      | (go_at_call 18; refine (unhide H1 _ hL (unhide HR)).mono ?_; rintro e w2 ⟨v2, rfl, r2, b2⟩; have hL2 := hL.below b2 hpos; have hp2 := hL2.pos; have r2' := r2.row; have HR2 := hide ((unhide HR).below b2); clear r2)
      | (go_at_call 19; refine (unhide H2 _ (unhide HR2)).mono ?_; rintro e w3 ⟨v3, rfl, r3, b3⟩; have hL3 := hL2.below b3 hp2; have hp3 := hL3.pos; have b13 := b2.trans (b3.mono b2.size); have r3' := r3.row; have r23 := r2'.below b3; clear r3)
      | (go_at_call 12; refine (unhide HS _ _ _ r23 r3').mono ?_; rintro e w4 ⟨rfl, b4⟩; have hL4 := hL3.below b4 hp3; have b14 := b13.trans (b4.mono b13.size))
      | (go_at_call 15; refine (unhide H7 _ hL4).mono ?_; rintro e w5 ⟨rfl, b5⟩; have b15 := b14.trans (b5.mono b14.size)))
    go_ret
    exact ⟨rfl, b15⟩
end Go.Proofs.YtcgkdiflhlmlgaaDoor
