/- Kind: what it answers of any number. -/
import Derived.Test.YtdlbdfndnjdeeaaPlane
import Derived.Test.YtdlbdfndnjdeeaaSrch
namespace Go.Proofs.Ytdlbdfndnjdeeaa
open Go.RowKit
open Go.Sort (grow)

set_option maxHeartbeats 400000 in
theorem holds_any (f t h r : Int) (w : World) :
    Calls Try.prog 45 #[.agg #[.int .i32 f, .int .i32 t, .int .i64 h], .int .i32 r] w fun e w' => e = .returned (.bool (inS ⟨f, t, h⟩ r)) ∧ Gr w w' := by
  generalize hm : inS ⟨f, t, h⟩ r = m
  by_cases h1 : f ≤ r
  · by_cases h2 : r ≤ t
    · go_enter Try.func45, Try.ntmps45
      go_wp2
      go_ret
      exact ⟨ret_bool (by rw [← hm]; simp [inS]; omega), (Gr.refl _).alloc _⟩
    · go_enter Try.func45, Try.ntmps45
      go_wp2
      go_ret
      exact ⟨ret_bool (by rw [← hm]; simp [inS]; omega), (Gr.refl _).alloc _⟩
  · go_enter Try.func45, Try.ntmps45
    go_wp2
    go_ret
    exact ⟨ret_bool (by rw [← hm]; simp [inS]; omega), (Gr.refl _).alloc _⟩

/-- The row of a plane's last two. -/
def lastS (p : Int) : Sp := ⟨p * 65536 + 65534, p * 65536 + 65535, 7⟩
def cellsS (s : Sp) : Array Value := #[.int .i32 s.f, .int .i32 s.t, .int .i64 s.h]

set_option maxHeartbeats 400000 in
theorem lastTwo_any (p : Int) (h0 : 0 ≤ p) (h1 : p ≤ 100) (w : World) :
    Calls Try.prog 49 #[.int .i64 p] w fun e w' => e = .returned (.agg #[.int .i32 (p * 65536 + 65534), .int .i32 (p * 65536 + 65535), .int .i64 7]) ∧ Gr w w' := by
  go_enter Try.func49, Try.ntmps49
  have k1 : IntKind.i64.wrap (p + 1) = p + 1 := by rw [IntKind.wrap_i64]; omega
  have k2 : IntKind.i32.wrap (p + 1) = p + 1 := by simp [IntKind.wrap, IntKind.bits, IntKind.signed]; omega
  have k3 : IntKind.i32.wrap ((p + 1) * 65536) = (p + 1) * 65536 := by simp [IntKind.wrap, IntKind.bits, IntKind.signed]; omega
  have k4 : IntKind.i32.wrap ((p + 1) * 65536 - 1) = p * 65536 + 65535 := by simp [IntKind.wrap, IntKind.bits, IntKind.signed]; omega
  have k5 : IntKind.i32.wrap (p * 65536 + 65535 - 1) = p * 65536 + 65534 := by simp [IntKind.wrap, IntKind.bits, IntKind.signed]; omega
  go_wp2
  refine bodyPost_ret (v := .agg #[.int .i32 (p * 65536 + 65534), .int .i32 (p * 65536 + 65535), .int .i64 7]) (by simp [results, Try.results49, go_sem]) rfl ⟨rfl, ?_⟩
  exact (Gr.refl _).alloc _

set_option maxHeartbeats 400000 in
theorem kind1_any (ba bx i : Nat) (t r : Int) (W : World) (hi : i < 90) (hc : W.cell? ⟨ba, i * 3 + 1, none⟩ = some (.int .i32 t)) (hx : W.cell? ⟨bx, 0, none⟩ = some (.int .i32 r)) :
    Calls Try.prog 44 (#[.int .i64 i] ++ #[.pointer (some ⟨ba, 0, none⟩), .pointer (some ⟨bx, 0, none⟩)]) W fun e w' => e = .returned (.bool (decide (r ≤ t))) ∧ Gr W w' := by
  have hz0 : (0 : Int) ≤ (i : Int) := by omega
  have hzl : (i : Int) < 90 := by omega
  go_enter Try.func44, Try.ntmps44
  go_wp2
  go_quiet (fail)
  go_wp2
  go_ret
  exact ⟨rfl, (Gr.refl _).drewN _⟩

/-- The rows behind the first plane; the whole table. -/
def rowsP : List Sp := (List.range 16).map fun (i : Nat) => lastS ((i : Int) + 1)
def rowsT : List Sp := rowsA ++ rowsP
theorem rowsP_len : rowsP.length = 16 := rfl
theorem rowsP_get (k : Nat) (h : k < 16) : rowsP.getD k sp0 = lastS ((k : Int) + 1) := by
  simp [rowsP, List.getD, h]
def kd (r : Int) : Int := fnd rowsT r

set_option maxHeartbeats 800000 in
theorem behind_any (r : Int) (w : World) :
    Calls Try.prog 41 #[.int .i32 r] w fun e w' => e = .returned (.int .i64 (fnd rowsP r)) ∧ Gr w w' := by
  have HL : Hid (∀ (k : Nat) W, k < 16 → Calls Try.prog 49 #[.int .i64 ((k : Int) + 1)] W fun e w' => e = .returned (.agg #[.int .i32 (((k : Int) + 1) * 65536 + 65534), .int .i32 (((k : Int) + 1) * 65536 + 65535), .int .i64 7]) ∧ Gr W w') := fun k W hk => lastTwo_any _ (by omega) (by omega) W
  go_enter Try.func41, Try.ntmps41
  go_wp2
  go_loopw [5] (fun i wr => ∃ k : Nat, k ≤ 16 ∧ i = .int .i64 k ∧ Gr w wr ∧ Hid (∀ j, j < k → inS (rowsP.getD j sp0) r = false)) (fun i _ => 16 - (intOf i).toNat)
  case atStart => exact ⟨0, Nat.zero_le _, rfl, Gr.refl _, hide (fun j hj => by omega)⟩
  case round =>
    obtain ⟨k, hk, rfl, hg, HE⟩ := hrel
    by_cases hlt : k < 16
    · have hzl : (k : Int) < 16 := by omega
      have hz0 : (0 : Int) ≤ (k : Int) := by omega
      have hin : inS (rowsP.getD k sp0) r = true → Hid (fnd rowsP r = 7) := fun h => by
        show fnd rowsP r = 7
        rw [fnd_at rowsP r k (by rw [rowsP_len]; exact hlt) (unhide HE) h, rowsP_get k hlt]; rfl
      have hout : inS (rowsP.getD k sp0) r = false → Hid (∀ j, j < k + 1 → inS (rowsP.getD j sp0) r = false) := fun h => by
        show ∀ j, j < k + 1 → inS (rowsP.getD j sp0) r = false
        intro j hj
        rcases Nat.lt_succ_iff_lt_or_eq.1 hj with h1 | rfl
        · exact unhide HE j h1
        · exact h
      rw [rowsP_get k hlt] at hin hout
      have hh := fun w => holds_any (((k : Int) + 1) * 65536 + 65534) (((k : Int) + 1) * 65536 + 65535) 7 r w
      have HLK : Hid (∀ W, Calls Try.prog 49 #[.int .i64 ((k : Int) + 1)] W fun e w' => e = .returned (.agg #[.int .i32 (((k : Int) + 1) * 65536 + 65534), .int .i32 (((k : Int) + 1) * 65536 + 65535), .int .i64 7]) ∧ Gr W w') := fun W => unhide HL k W hlt
      have hq : inS ⟨((k : Int) + 1) * 65536 + 65534, ((k : Int) + 1) * 65536 + 65535, 7⟩ r = inS (lastS ((k : Int) + 1)) r := rfl
      rw [hq] at hh
      have k1 : IntKind.i64.wrap ((k : Int) + 1) = (k : Int) + 1 := by rw [IntKind.wrap_i64]; omega
      generalize ((k : Int) + 1) * 65536 + 65534 = f at *
      generalize ((k : Int) + 1) * 65536 + 65535 = t at *
      cases hi : inS (lastS ((k : Int) + 1)) r <;> rw [hi] at hh
      · have HO := hout hi
        have HH := hide hh
        clear hin hout hi hh hq
        go_wp2_with (first
          | (go_at_call 49; refine (unhide HLK _).mono ?_; rintro e w1 ⟨rfl, hg1⟩)
          | (go_at_call 45; refine (unhide HH _).mono ?_; rintro e w2 ⟨rfl, hg2⟩))
        go_roundw
        case rel => exact ⟨k + 1, by omega, by go_num, ((hg.trans hg1).alloc _).trans hg2, HO⟩
        case measure => simp [intOf]; omega
      · have HO := hin hi
        have HH := hide hh
        clear hin hout hi hh hq
        go_wp2_with (first
          | (go_at_call 49; refine (unhide HLK _).mono ?_; rintro e w1 ⟨rfl, hg1⟩; have c3 := (box3 w1 (.int .i32 f) (.int .i32 t) (.int .i64 7) 44).2.2)
          | (go_at_call 45; refine (unhide HH _).mono ?_; rintro e w2 ⟨rfl, hg2⟩; replace c3 := hg2.cell c3))
        go_ret
        exact ⟨ret_int (unhide HO).symm, ((hg.trans hg1).alloc _).trans hg2⟩
    · have hzl : ¬ (k : Int) < 16 := by omega
      have HB : Hid (fnd rowsP r = 0) := fnd_none rowsP r (fun i hi => unhide HE i (by rw [rowsP_len] at hi; omega))
      go_wp2
      go_ret
      exact ⟨ret_int (unhide HB).symm, hg⟩
end Go.Proofs.Ytdlbdfndnjdeeaa
