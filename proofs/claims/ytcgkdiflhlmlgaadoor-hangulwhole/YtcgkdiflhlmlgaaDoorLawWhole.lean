/- The law HangulWhole. -/
import Derived.Test.YtcgkdiflhlmlgaaDoorLawBack
namespace Go.Proofs.YtcgkdiflhlmlgaaDoor
open Go.RowKit

theorem hw_of (v : Value) (l z : List Int) (w : World) (hlen : l.length ≤ 20000) (hz : whl l = z) (hL : Lay w) (h : Row w v l) :
    Calls Tryd.prog 18 #[v] w fun e w' => ∃ v, e = .returned v ∧ Row w' v z ∧ Below w.heap.size w w' :=
  (whole_any v l w hlen hL h).mono fun _ _ ⟨v, he, hr, hb⟩ => ⟨v, he, by rw [hz] at hr; exact hr.row, hb⟩
theorem ha_of (v : Value) (l q : List Int) (w : World) (hlen : l.length ≤ 20000) (hq : apts l = q) (hL : Lay w) (h : Row w v l) :
    Calls Tryd.prog 20 #[v] w fun e w' => ∃ v, e = .returned v ∧ Row w' v q ∧ Below w.heap.size w w' :=
  (aparts_any v l w hlen hL h).mono fun _ _ ⟨v, he, hr, hb⟩ => ⟨v, he, by rw [hq] at hr; exact hr.row, hb⟩

set_option maxHeartbeats 3200000 in
theorem whole_law (a : Option Addr) (cap : Nat) (l : List Int) (w : World) (hL : Lay w) (hr : Row w (.slice a l.length cap) l) : Calls Tryd.prog 7 #[.slice a l.length cap] w fun e w' => e = .returned (.bool true) ∧ Below w.heap.size w w' := by
  have H7 := hide awake_any
  by_cases hlen : 5000 < l.length
  · have hz : (5000 : Int) < (l.length : Int) := by omega
    go_enter Tryd.func7, Tryd.ntmps7
    go_wp2_with (go_at_call 15; refine (unhide H7 _ hL).mono ?_; rintro e w5 ⟨rfl, b5⟩)
    go_ret
    exact ⟨rfl, b5⟩
  · have hz : ¬ (5000 : Int) < (l.length : Int) := by omega
    have l1 := whl_len l
    have l2 := apts_len (whl l)
    have W0 := hide (fun W hW hR => hw_of (.slice a l.length cap) l _ W (by omega) rfl hW hR)
    have W1 := hide (fun v W hW hR => hw_of v (whl l) _ W (by omega) (whl_whole l) hW hR)
    have W2 := hide (fun v W hW hR => hw_of v (apts (whl l)) _ W (by omega) (whl_parts l) hW hR)
    have A1 := hide (fun v W hW hR => ha_of v (whl l) _ W (by omega) rfl hW hR)
    have A2 := A1
    have A3 := hide (fun W hW hR => ha_of (.slice a l.length cap) l _ W (by omega) (apts_whl l).symm hW hR)
    have S1 := hide (fun v1 v2 W => same_any v1 v2 (whl l) W (by omega))
    have S2 := S1
    have S3 := hide (fun v1 v2 W => same_any v1 v2 (apts (whl l)) W (by omega))
    have HR := hide hr
    have hpos := hL.pos
    clear l1 l2 hr
    generalize apts (whl l) = q at *
    generalize whl l = z at *
    go_enter Tryd.func7, Tryd.ntmps7
    go_wp2_with (first
      | (go_at_call 18; (first
        | (refine (unhide W0 _ hL (unhide HR)).mono ?_; rintro e w1 ⟨v1, rfl, r1, b1⟩; clear W0; have hL1 := hL.below b1 hpos; have HR1 := hide ((unhide HR).below b1))
        | (refine (unhide W1 _ _ hL1 r1).mono ?_; rintro e w2 ⟨v2, rfl, r2, b2⟩; clear W1; have c2 := b1.trans (b2.mono b1.size); have hL2 := hL.below c2 hpos; have HR2 := hide ((unhide HR1).below b2); have r12 := r1.below b2)
        | (refine (unhide W2 _ _ hL4 r4).mono ?_; rintro e w5 ⟨v5, rfl, r5, b5⟩; clear W2; have c5 := c4.trans (b5.mono c4.size); have hL5 := hL.below c5 hpos; have HR5 := hide ((unhide HR4).below b5); have r15 := r14.below b5)))
      | (go_at_call 12; (first
        | (refine (unhide S1 _ _ _ r2 r12).mono ?_; rintro e w3 ⟨rfl, b3⟩; clear S1; have c3 := c2.trans (b3.mono c2.size); have hL3 := hL.below c3 hpos; have HR3 := hide ((unhide HR2).below b3); have r13 := r12.below b3)
        | (refine (unhide S2 _ _ _ r5 r15).mono ?_; rintro e w6 ⟨rfl, b6⟩; clear S2; have c6 := c5.trans (b6.mono c5.size); have hL6 := hL.below c6 hpos; have HR6 := hide ((unhide HR5).below b6); have r16 := r15.below b6)
        | (refine (unhide S3 _ _ _ r78 r8).mono ?_; rintro e w9 ⟨rfl, b9⟩; clear S3; have c9 := c8.trans (b9.mono c8.size); have hL9 := hL.below c9 hpos)))
      | (go_at_call 20; (first
        | (refine (unhide A1 _ _ hL3 r13).mono ?_; rintro e w4 ⟨v4, rfl, r4, b4⟩; clear A1; have c4 := c3.trans (b4.mono c3.size); have hL4 := hL.below c4 hpos; have HR4 := hide ((unhide HR3).below b4); have r14 := r13.below b4)
        | (refine (unhide A2 _ _ hL6 r16).mono ?_; rintro e w7 ⟨v7, rfl, r7, b7⟩; clear A2; have c7 := c6.trans (b7.mono c6.size); have hL7 := hL.below c7 hpos; have HR7 := hide ((unhide HR6).below b7))
        | (refine (unhide A3 _ hL7 (unhide HR7)).mono ?_; rintro e w8 ⟨v8, rfl, r8, b8⟩; clear A3; have c8 := c7.trans (b8.mono c7.size); have hL8 := hL.below c8 hpos; have r78 := r7.below b8)))
      | (go_at_call 15; refine (unhide H7 _ hL9).mono ?_; rintro e w10 ⟨rfl, b10⟩; have c10 := c9.trans (b10.mono c9.size)))
    go_ret
    exact ⟨rfl, c10⟩
end Go.Proofs.YtcgkdiflhlmlgaaDoor
