/- The sort of runes: siftDown. -/
import Derived.Test.YtnlkefdicpeemaaIns
namespace Go.Proofs.Ytnlkefdicpeemaa
open Go.RowKit
open Go.Sort (Holds ltInt swp siftDown PermIn SortedIn)

theorem sift_end (hi first root : Nat) (d : Array Int) (h : hi ≤ 2 * root + 1) : siftDown ltInt hi first root d = d := by
  unfold siftDown; rw [dif_pos h]
theorem sift_right (hi first root : Nat) (d : Array Int) (h : 2 * root + 2 < hi) (h1 : ltInt d[first + (2 * root + 1)]! d[first + (2 * root + 2)]! = true) :
    siftDown ltInt hi first root d = if ltInt d[first + root]! d[first + (2 * root + 2)]! = true then siftDown ltInt hi first (2 * root + 2) (swp d (first + root) (first + (2 * root + 2))) else d := by
  conv => lhs; unfold siftDown
  rw [dif_neg (by omega), if_pos (by rw [show first + (2 * root + 1) + 1 = first + (2 * root + 2) by omega]; simp [h1]; omega)]
  cases h2 : ltInt d[first + root]! d[first + (2 * root + 2)]! <;> simp [h]
theorem sift_left (hi first root : Nat) (d : Array Int) (h : 2 * root + 1 < hi) (h1 : 2 * root + 2 < hi → ltInt d[first + (2 * root + 1)]! d[first + (2 * root + 2)]! = false) :
    siftDown ltInt hi first root d = if ltInt d[first + root]! d[first + (2 * root + 1)]! = true then siftDown ltInt hi first (2 * root + 1) (swp d (first + root) (first + (2 * root + 1))) else d := by
  conv => lhs; unfold siftDown
  rw [dif_neg (by omega), if_neg (by
    rw [show first + (2 * root + 1) + 1 = first + (2 * root + 2) by omega]
    intro hh
    simp at hh
    have := h1 (by omega)
    rw [this] at hh
    simp at hh)]
  cases h2 : ltInt d[first + root]! d[first + (2 * root + 1)]! <;> simp

set_option maxHeartbeats 4000000 in
theorem sift_any (blk off cap lo hi first : Nat) (d : Array Int) (w0 w : World) (hR : Rw w0 blk off d w) (hlo : lo ≤ hi) (hhi : first + hi ≤ d.size) (hsz : d.size ≤ 60000) :
    Calls Try.prog 48 #[.slice (some ⟨blk, off, none⟩) d.size cap, .int .i64 lo, .int .i64 hi, .int .i64 first] w fun e w' => e = .returned (.tuple #[]) ∧ Rw w0 blk off (siftDown ltInt hi first lo d) w' := by
  have RR := hide hR
  clear hR
  generalize hsn : d.size = sz at *
  have SN := hide hsn
  clear hsn
  go_enter Try.func48, Try.ntmps48
  go_wp2
  go_loopw [8] (fun x wr => ∃ (root : Nat) (dk : Array Int), x = .int .i64 root ∧ root ≤ hi ∧ Hid (dk.size = sz) ∧ Hid (Rw w0 blk off dk wr) ∧ Hid (siftDown ltInt hi first root dk = siftDown ltInt hi first lo d)) (fun x _ => hi - (intOf x).toNat)
  case atStart => exact ⟨lo, d, rfl, hlo, SN, RR, rfl⟩
  case round =>
    obtain ⟨root, dk, rfl, hrh, SK, RK, EK⟩ := hrel
    have w1 : IntKind.i64.wrap (2 * (root : Int)) = 2 * (root : Int) := by rw [IntKind.wrap_i64]; omega
    have w2 : IntKind.i64.wrap (2 * (root : Int) + 1) = 2 * (root : Int) + 1 := by rw [IntKind.wrap_i64]; omega
    have w3 : IntKind.i64.wrap (2 * (root : Int) + 1 + 1) = 2 * (root : Int) + 1 + 1 := by rw [IntKind.wrap_i64]; omega
    by_cases hend : hi ≤ 2 * root + 1
    · have hz : (hi : Int) ≤ 2 * (root : Int) + 1 := by omega
      have HE := hide ((sift_end hi first root dk hend).symm.trans (unhide EK))
      go_wp2
      go_end0
      exact ⟨rfl, by rw [← unhide HE]; exact unhide RK⟩
    · have hz : ¬ (hi : Int) ≤ 2 * (root : Int) + 1 := by omega
      have sk := unhide SK
      have k0 := (unhide RK).cell (i := first + root) (by omega)
      have k1 := (unhide RK).cell (i := first + (2 * root + 1)) (by omega)
      have f0 := (unhide RK).fro (i := first + root) (by omega)
      have f1 := (unhide RK).fro (i := first + (2 * root + 1)) (by omega)
      have a0 : (0 : Int) ≤ (first : Int) + (root : Int) := by omega
      have a1 : (first : Int) + (root : Int) < (sz : Int) := by omega
      have a2 : (0 : Int) ≤ (first : Int) + (2 * (root : Int) + 1) := by omega
      have a3 : (first : Int) + (2 * (root : Int) + 1) < (sz : Int) := by omega
      have w4 : IntKind.i64.wrap ((first : Int) + (root : Int)) = (first : Int) + (root : Int) := by rw [IntKind.wrap_i64]; omega
      have w5 : IntKind.i64.wrap ((first : Int) + (2 * (root : Int) + 1)) = (first : Int) + (2 * (root : Int) + 1) := by rw [IntKind.wrap_i64]; omega
      have t0 : ((first : Int) + (root : Int)).toNat = first + root := by omega
      have t1 : ((first : Int) + (2 * (root : Int) + 1)).toNat = first + (2 * root + 1) := by omega
      by_cases h2 : 2 * root + 2 < hi
      · have k2 := (unhide RK).cell (i := first + (2 * root + 2)) (by omega)
        have f2 := (unhide RK).fro (i := first + (2 * root + 2)) (by omega)
        have a4 : (0 : Int) ≤ (first : Int) + (2 * (root : Int) + 1 + 1) := by omega
        have a5 : (first : Int) + (2 * (root : Int) + 1 + 1) < (sz : Int) := by omega
        have a6 : (0 : Int) ≤ (first : Int) + (2 * (root : Int) + 1) + 1 := by omega
        have a7 : (first : Int) + (2 * (root : Int) + 1) + 1 < (sz : Int) := by omega
        have w6 : IntKind.i64.wrap ((first : Int) + (2 * (root : Int) + 1 + 1)) = (first : Int) + (2 * (root : Int) + 1 + 1) := by rw [IntKind.wrap_i64]; omega
        have t2 : ((first : Int) + (2 * (root : Int) + 1 + 1)).toNat = first + (2 * root + 2) := by omega
        have t3 : ((first : Int) + (2 * (root : Int) + 1) + 1).toNat = first + (2 * root + 2) := by omega
        have g2 : decide (2 * (root : Int) + 1 + 1 < (hi : Int)) = true := decide_eq_true (by omega)
        have HSL := hide (sift_left hi first root dk (by omega))
        have HSR := hide (sift_right hi first root dk h2)
        have HW1 := hide (fun n x y => ((unhide RK).drewN n).swap (i := first + root) (j := first + (2 * root + 1)) (by omega) (by omega) (x := x) (y := y))
        have HW2 := hide (fun n x y => ((unhide RK).drewN n).swap (i := first + root) (j := first + (2 * root + 2)) (by omega) (by omega) (x := x) (y := y))
        clear sk
        generalize dk[first + root]! = x0 at *
        generalize dk[first + (2 * root + 1)]! = x1 at *
        generalize dk[first + (2 * root + 2)]! = x2 at *
        cases hl1 : ltInt x1 x2 with
        | false =>
          have HL1 := hide (fun w => less_any x1 x2 w)
          rw [hl1] at HL1
          have EQ := hide (unhide HSL (fun _ => hl1))
          have HSW := HW1
          clear hl1 HSL HSR HW1 HW2 f2
          go_wp2
          go_quiet ((go_at_call 43; exact Calls.quiet_of_same (unhide HL1 _)))
          cases hl : ltInt x0 x1 with
          | false =>
            have HLS := hide (fun w => less_any x0 x1 w)
            rw [hl] at HLS
            have HE : Hid (dk = siftDown ltInt hi first lo d) := by
              have h1 := unhide EQ
              rw [hl, if_neg (by decide), unhide EK] at h1
              exact h1.symm
            clear hl f0
            go_wp2
            go_quiet ((go_at_call 43; exact (unhide HLS _).mono fun e w' h => ⟨h.1, _, h.2⟩))
            go_wp2
            try simp only [Exit.inBlock, Exit.then]
            refine bodyPost_ret (results_none rfl _ _ _) rfl ?_
            exact ⟨rfl, by rw [← unhide HE]; exact ((unhide RK).drewN _).drewN _⟩
          | true =>
            have HLS := hide (fun w => less_any x0 x1 w)
            rw [hl] at HLS
            have HE : Hid (siftDown ltInt hi first (2 * root + 1) (swp dk (first + root) (first + (2 * root + 1))) = siftDown ltInt hi first lo d) := by
              have h1 := unhide EQ
              rw [hl, if_pos rfl, unhide EK] at h1
              exact h1.symm
            clear hl
            go_wp2
            go_quiet ((go_at_call 43; exact (unhide HLS _).mono fun e w' h => ⟨h.1, _, h.2⟩))
            go_wp2
            go_region
            go_wp2
            go_roundw
            case rel => exact ⟨2 * root + 1, swp dk (first + root) (first + (2 * root + 1)), by go_num, by omega, by show (swp dk _ _).size = sz; rw [Go.Sort.swp_size]; exact unhide SK, unhide HSW _ x1 x0 rfl rfl, HE⟩
            case measure => simp [intOf]; omega

        | true =>
          have HL1 := hide (fun w => less_any x1 x2 w)
          rw [hl1] at HL1
          have EQ := hide (unhide HSR hl1)
          have HSW := HW2
          clear hl1 HSL HSR HW1 HW2 f1
          go_wp2
          go_quiet ((go_at_call 43; exact Calls.quiet_of_same (unhide HL1 _)))
          cases hl : ltInt x0 x2 with
          | false =>
            have HLS := hide (fun w => less_any x0 x2 w)
            rw [hl] at HLS
            have HE : Hid (dk = siftDown ltInt hi first lo d) := by
              have h1 := unhide EQ
              rw [hl, if_neg (by decide), unhide EK] at h1
              exact h1.symm
            clear hl f0
            go_wp2
            go_quiet ((go_at_call 43; exact (unhide HLS _).mono fun e w' h => ⟨h.1, _, h.2⟩))
            go_wp2
            try simp only [Exit.inBlock, Exit.then]
            refine bodyPost_ret (results_none rfl _ _ _) rfl ?_
            exact ⟨rfl, by rw [← unhide HE]; exact ((unhide RK).drewN _).drewN _⟩
          | true =>
            have HLS := hide (fun w => less_any x0 x2 w)
            rw [hl] at HLS
            have HE : Hid (siftDown ltInt hi first (2 * root + 2) (swp dk (first + root) (first + (2 * root + 2))) = siftDown ltInt hi first lo d) := by
              have h1 := unhide EQ
              rw [hl, if_pos rfl, unhide EK] at h1
              exact h1.symm
            clear hl
            go_wp2
            go_quiet ((go_at_call 43; exact (unhide HLS _).mono fun e w' h => ⟨h.1, _, h.2⟩))
            go_wp2
            go_region
            go_wp2
            go_roundw
            case rel => exact ⟨2 * root + 2, swp dk (first + root) (first + (2 * root + 2)), by go_num, by omega, by show (swp dk _ _).size = sz; rw [Go.Sort.swp_size]; exact unhide SK, unhide HSW _ x2 x0 rfl rfl, HE⟩
            case measure => simp [intOf]; omega

      · have g2 : decide (2 * (root : Int) + 1 + 1 < (hi : Int)) = false := decide_eq_false (by omega)
        have EQ := hide (sift_left hi first root dk (by omega) (fun h => absurd h h2))
        have HSW := hide (fun n x y => ((unhide RK).drewN n).swap (i := first + root) (j := first + (2 * root + 1)) (by omega) (by omega) (x := x) (y := y))
        clear sk
        generalize dk[first + root]! = x0 at *
        generalize dk[first + (2 * root + 1)]! = x1 at *
        go_wp2
        go_quiet (fail)
        cases hl : ltInt x0 x1 with
        | false =>
          have HLS := hide (fun w => less_any x0 x1 w)
          rw [hl] at HLS
          have HE : Hid (dk = siftDown ltInt hi first lo d) := by
            have h1 := unhide EQ
            rw [hl, if_neg (by decide), unhide EK] at h1
            exact h1.symm
          clear hl f0
          go_wp2
          go_quiet ((go_at_call 43; exact (unhide HLS _).mono fun e w' h => ⟨h.1, _, h.2⟩))
          go_wp2
          try simp only [Exit.inBlock, Exit.then]
          refine bodyPost_ret (results_none rfl _ _ _) rfl ?_
          exact ⟨rfl, by rw [← unhide HE]; exact ((unhide RK).drewN _).drewN _⟩
        | true =>
          have HLS := hide (fun w => less_any x0 x1 w)
          rw [hl] at HLS
          have HE : Hid (siftDown ltInt hi first (2 * root + 1) (swp dk (first + root) (first + (2 * root + 1))) = siftDown ltInt hi first lo d) := by
            have h1 := unhide EQ
            rw [hl, if_pos rfl, unhide EK] at h1
            exact h1.symm
          clear hl
          go_wp2
          go_quiet ((go_at_call 43; exact (unhide HLS _).mono fun e w' h => ⟨h.1, _, h.2⟩))
          go_wp2
          go_region
          go_wp2
          go_roundw
          case rel => exact ⟨2 * root + 1, swp dk (first + root) (first + (2 * root + 1)), by go_num, by omega, by show (swp dk _ _).size = sz; rw [Go.Sort.swp_size]; exact unhide SK, unhide HSW _ x1 x0 rfl rfl, HE⟩
          case measure => simp [intOf]; omega

end Go.Proofs.Ytnlkefdicpeemaa
