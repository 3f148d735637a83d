/- The document's digits of layer 17. -/
import Derived.Test.YtifalmpcjkpodaaDoorMath17
import Derived.Test.YtifalmpcjkpodaaDoorStr
import Derived.Deep.RegionWith
namespace Go.Proofs.YtifalmpcjkpodaaDoor
set_option maxRecDepth 100000
open Go.RowKit

theorem conv_gr {w w2 : World} {z : Int} (hg : Gr ((w.alloc (.cells #[.int .u8 z] 5)).drew) w2) : (convert 52 9 (.slice (some ⟨w.heap.size, 0, none⟩) 1 1)).run Tryd.prog w2 = .ok (.string (strOfNums [z])) w2 := conv_one (hg.cell (box1 w _ _))
set_option maxHeartbeats 1600000 in
set_option maxRecDepth 100000 in
theorem rdig_any (n : Nat) (w : World) (hn : n ≤ 9223372036854775807) : Calls Tryd.prog 25 #[.int .i64 n] w fun e w' => e = .returned (.string (strOfNums (digN n))) ∧ Gr w w' := by
  induction n using Nat.strongRecOn generalizing w with
  | _ n ih =>
    by_cases h : n < 10
    · have z1 : (n : Int) < 10 := by omega
      have z2 : IntKind.i64.wrap (48 + (n : Int)) = 48 + n := wrap_in (by omega) (by omega)
      have z3 : IntKind.u8.wrap (48 + (n : Int)) = 48 + n := by simp [IntKind.wrap, IntKind.bits, IntKind.signed]; omega
      have hc := conv_new1 w (48 + n)
      rw [digN_small h]
      clear ih
      go_enter Tryd.func25, Tryd.ntmps25
      go_wp2
      go_ret
      exact ⟨rfl, (Gr.refl _).alloc _⟩
    · have z1 : ¬ (n : Int) < 10 := by omega
      have IH := ih (n / 10) (by omega)
      clear ih
      have z0 : IntKind.i64.wrap ((n : Int) / 10) = (n : Int) / 10 := wrap_in (by omega) (by omega)
      have z5 : IntKind.i64.wrap ((n : Int) % 10) = (n : Int) % 10 := wrap_in (by omega) (by omega)
      have z2 : IntKind.i64.wrap (48 + (n : Int) % 10) = 48 + (n : Int) % 10 := wrap_in (by omega) (by omega)
      have z3 : IntKind.u8.wrap (48 + (n : Int) % 10) = 48 + (n : Int) % 10 := by simp [IntKind.wrap, IntKind.bits, IntKind.signed]; omega
      have hs1 := digN_len 18 (n / 10) (by omega)
      have hs2 : (strOfNums (digN (n / 10))).size + (strOfNums [48 + (n : Int) % 10]).size ≤ 9223372036854775807 := by rw [strOfNums_size, strOfNums_size]; simp; omega
      have e1 : 48 + ((n % 10 : Nat) : Int) = 48 + (n : Int) % 10 := by omega
      rw [digN_big h, ← strOfNums_app, e1]
      have HI : ∀ w, Calls Tryd.prog 25 #[.int .i64 ((n : Int) / 10)] w fun e w' => e = .returned (.string (strOfNums (digN (n / 10)))) ∧ Gr w w' := fun w => by
        have := IH w (by omega)
        rwa [show (((n / 10 : Nat) : Int)) = (n : Int) / 10 by omega] at this
      clear IH e1 hs1
      have q2 : ((n : Int)).tmod 10 = (n : Int) % 10 := Int.tmod_eq_emod_of_nonneg (by omega)
      have hc : ∀ W : World, (convert 52 9 (.slice (some ⟨W.heap.size, 0, none⟩) 1 1)).run Tryd.prog (W.alloc (.cells #[.int .u8 (48 + (n : Int) % 10)] 5)) = .ok (.string (strOfNums [48 + (n : Int) % 10])) (W.alloc (.cells #[.int .u8 (48 + (n : Int) % 10)] 5)) := fun W => conv_new1 W _
      have hc2 : ∀ W : World, (convert 52 9 (.slice (some ⟨W.heap.size, 0, none⟩) 1 1)).run Tryd.prog (W.alloc (.cells #[.int .u8 (48 + (n : Int) % 10)] 5)).drew = .ok (.string (strOfNums [48 + (n : Int) % 10])) (W.alloc (.cells #[.int .u8 (48 + (n : Int) % 10)] 5)).drew := fun W => conv_one (box1 W _ _)
      go_enter Tryd.func25, Tryd.ntmps25
      go_wp2
      go_region_with
        (first
          | (go_at_call 25; refine (HI _).mono ?_; rintro e w2 ⟨rfl, hg⟩; (try have hk := conv_gr hg)))
      all_goals (go_wp2; go_ret; refine ⟨rfl, ?_⟩; first | exact (((Gr.refl w).drew.trans hg).alloc _) | exact ((((Gr.refl w).alloc _).drew).trans hg))
end Go.Proofs.YtifalmpcjkpodaaDoor
