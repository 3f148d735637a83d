/- The document's Parts, Show and Norm of layer 14. -/
import Derived.Test.YtpkofpgdnbkknaaDoorRWh14
import Derived.Test.YtpkofpgdnbkknaaDoorRDig14
namespace Go.Proofs.YtpkofpgdnbkknaaDoor
open Go.RowKit

/-- Two floats, as the document's number. -/
abbrev zz (x y : Nat) : Value := .agg #[.float .f64 x, .float .f64 y]
theorem rwhole_no {x : Nat} (h : wh x = none) (w : World) : Calls Tryd.prog 31 #[.float .f64 x] w fun e w' => ∃ n : Int, e = .returned (.tuple #[.int .i64 n, .bool false]) ∧ w' = w :=
  (rwhole_any x w).mono fun _ _ ⟨n, he, _, hw⟩ => ⟨n, by rw [h] at he; exact he, hw⟩
theorem rwhole_yes {x : Nat} {a : Int} (h : wh x = some a) (w : World) : Calls Tryd.prog 31 #[.float .f64 x] w fun e w' => ∃ n : Int, e = .returned (.tuple #[.int .i64 n, .bool true]) ∧ n = a ∧ w' = w :=
  (rwhole_any x w).mono fun _ _ ⟨n, he, hn, hw⟩ => ⟨n, by rw [h] at he; exact he, hn a h, hw⟩
set_option maxHeartbeats 1600000 in
theorem rparts_any (x y : Nat) (w : World) : Calls Tryd.prog 15 #[zz x y] w fun e w' => e = .returned (.tuple #[.int .i64 (reZ (pz x y)), .int .i64 (imZ (pz x y)), .bool (pz x y).isSome]) ∧ Gr w w' := by
  cases hx : wh x with
  | none =>
    rw [pz_none_l hx]
    have HX := hide (fun W => rwhole_no hx W)
    cases hy : wh y with
    | none =>
      have HY := hide (fun W => rwhole_no hy W)
      clear hx hy
      go_enter Tryd.func15, Tryd.ntmps15
      go_wp2_with (first | (go_at_call 31; have m1 := n1; refine (unhide HY _).mono ?_; rintro e w2 ⟨n2, rfl, rfl⟩) | (go_at_call 31; refine (unhide HX _).mono ?_; rintro e w1 ⟨n1, rfl, rfl⟩))
      go_ret3
      exact ⟨rfl, Gr.one w _⟩
    | some b =>
      have HY := hide (fun W => rwhole_yes hy W)
      clear hx hy
      go_enter Tryd.func15, Tryd.ntmps15
      go_wp2_with (first | (go_at_call 31; have m1 := n1; refine (unhide HY _).mono ?_; rintro e w2 ⟨n2, rfl, rfl, rfl⟩) | (go_at_call 31; refine (unhide HX _).mono ?_; rintro e w1 ⟨n1, rfl, rfl⟩))
      go_ret3
      exact ⟨rfl, Gr.one w _⟩
  | some a =>
    have HX := hide (fun W => rwhole_yes hx W)
    cases hy : wh y with
    | none =>
      rw [pz_none_r hy]
      have HY := hide (fun W => rwhole_no hy W)
      clear hx hy
      go_enter Tryd.func15, Tryd.ntmps15
      go_wp2_with (first | (go_at_call 31; have m1 := q1; refine (unhide HY _).mono ?_; rintro e w2 ⟨n2, rfl, rfl⟩) | (go_at_call 31; refine (unhide HX _).mono ?_; rintro e w1 ⟨n1, rfl, rfl, rfl⟩; have q1 := n1))
      go_ret3
      exact ⟨rfl, Gr.one w _⟩
    | some b =>
      rw [pz_some hx hy]
      have HY := hide (fun W => rwhole_yes hy W)
      clear hx hy
      go_enter Tryd.func15, Tryd.ntmps15
      go_wp2_with (first | (go_at_call 31; have m1 := q1; refine (unhide HY _).mono ?_; rintro e w2 ⟨n2, rfl, rfl, rfl⟩) | (go_at_call 31; refine (unhide HX _).mono ?_; rintro e w1 ⟨n1, rfl, rfl, rfl⟩; have q1 := n1))
      go_ret3
      exact ⟨rfl, Gr.one w _⟩
end Go.Proofs.YtpkofpgdnbkknaaDoor
