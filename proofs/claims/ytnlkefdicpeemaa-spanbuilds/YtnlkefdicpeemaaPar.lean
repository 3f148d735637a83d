/- The sort of runes: partialInsertionSort (gen_par.py writes it). -/
import Derived.Test.YtnlkefdicpeemaaPartEq
import Derived.Deep.CutRange
namespace Go.Proofs.Ytnlkefdicpeemaa
open Go.RowKit
open Go.Sort (Holds ltInt swp PermIn SortedIn scanSorted shiftDown shiftUp partialIns partialInsertionSort)

theorem scan_go (d : Array Int) (b i : Nat) (h : i < b) (hl : ltInt d[i]! d[i - 1]! = false) : scanSorted ltInt d b i = scanSorted ltInt d b (i + 1) := by
  rw [scanSorted, if_pos (by simp [h, hl])]
theorem scan_stop (d : Array Int) (b i : Nat) (h : ¬ i < b ∨ ltInt d[i]! d[i - 1]! = true) : scanSorted ltInt d b i = i := by
  rw [scanSorted, if_neg]
  rcases h with h | h
  · simp [h]
  · simp [h]
theorem down_go (d : Array Int) (j : Nat) (h0 : 0 < j) (hl : ltInt d[j]! d[j - 1]! = true) : shiftDown ltInt j d = shiftDown ltInt (j - 1) (swp d j (j - 1)) := by
  obtain ⟨k, rfl⟩ : ∃ k, j = k + 1 := ⟨j - 1, by omega⟩
  simp only [Nat.add_sub_cancel] at hl ⊢
  rw [shiftDown, hl]; rfl
theorem down_stop (d : Array Int) (j : Nat) (h : j = 0 ∨ ltInt d[j]! d[j - 1]! = false) : shiftDown ltInt j d = d := by
  rcases h with rfl | h
  · rfl
  · cases j with
    | zero => rfl
    | succ k => simp only [Nat.add_sub_cancel] at h; rw [shiftDown, h]; rfl
theorem up_go (d : Array Int) (b j : Nat) (h : j < b) (hl : ltInt d[j]! d[j - 1]! = true) : shiftUp ltInt b j d = shiftUp ltInt b (j + 1) (swp d j (j - 1)) := by
  rw [shiftUp, if_pos h, hl]; rfl
theorem up_stop (d : Array Int) (b j : Nat) (h : ¬ j < b ∨ ltInt d[j]! d[j - 1]! = false) : shiftUp ltInt b j d = d := by
  rw [shiftUp]
  rcases h with h | h
  · rw [if_neg h]
  · rw [h]; simp
def dn (a i : Nat) (d : Array Int) : Array Int := if i - a ≥ 2 then shiftDown ltInt (i - 1) (swp d i (i - 1)) else swp d i (i - 1)
def upw (b i : Nat) (d : Array Int) : Array Int := if b - i ≥ 2 then shiftUp ltInt b (i + 1) d else d
theorem pin_true (a b s i : Nat) (d : Array Int) (h : scanSorted ltInt d b i = b) : partialIns ltInt a b (s + 1) i d = (d, true) := by
  simp only [partialIns, h, if_true]
theorem pin_short (a b s i k : Nat) (d : Array Int) (h : scanSorted ltInt d b i = k) (hk : k ≠ b) (h5 : b - a < 50) : partialIns ltInt a b (s + 1) i d = (d, false) := by
  simp only [partialIns, h, if_neg hk, if_pos h5]
theorem pin_go (a b s i k : Nat) (d : Array Int) (h : scanSorted ltInt d b i = k) (hk : k ≠ b) (h5 : ¬ b - a < 50) : partialIns ltInt a b (s + 1) i d = partialIns ltInt a b s k (upw b k (dn a k d)) := by
  simp only [partialIns, h, if_neg hk, if_neg h5]; rfl

set_option maxRecDepth 8000 in
set_option maxHeartbeats 8000000 in
theorem par_any (blk off cap a b : Nat) (d : Array Int) (w0 w : World) (hR : Rw w0 blk off d w) (hab : a < b) (hb : b ≤ d.size) (hsz : d.size ≤ 60000) :
    Calls Try.prog 42 #[.slice (some ⟨blk, off, none⟩) d.size cap, .int .i64 a, .int .i64 b] w fun e w' => e = .returned (.bool (partialInsertionSort ltInt d a b).2) ∧ Rw w0 blk off (partialInsertionSort ltInt d a b).1 w' := by
  have RR := hide hR
  clear hR
  generalize hsn : d.size = sz at *
  have SN := hide hsn
  clear hsn
  have a1 : IntKind.i64.wrap ((b : Int) - (a : Int)) = (b : Int) - (a : Int) := by rw [IntKind.wrap_i64]; omega
  obtain ⟨PP, hPP⟩ : ∃ PP, PP = partialInsertionSort ltInt d a b := ⟨_, rfl⟩
  rw [← hPP]
  have HPP := hide hPP
  clear hPP
  go_enter Try.func42, Try.ntmps42
  go_wp2
  go_loopw [7, 8] (fun x y wr => ∃ (i n : Nat) (dk : Array Int), x = .int .i64 i ∧ y = .int .i64 n ∧ a < i ∧ i ≤ b ∧ n ≤ 5 ∧ Hid (dk.size = sz) ∧ Hid (Rw w0 blk off dk wr) ∧ Hid (partialIns ltInt a b (5 - n) i dk = PP)) (fun _ y _ => (5 - (intOf y).toNat))
  case atStart => exact ⟨a + 1, 0, d, by go_num, rfl, by omega, by omega, by omega, SN, RR, (unhide HPP).symm⟩
  case round =>
    obtain ⟨i, n, dk, rfl, rfl, hai, hib, hn5, SK, RK, OK⟩ := hrel
    by_cases hlt : n < 5
    · have hltz : (n : Int) < 5 := by omega
      go_wp2
      go_loopw [7] (fun x ws => ∃ (k : Nat), x = .int .i64 k ∧ i ≤ k ∧ k ≤ b ∧ Hid (Rw w0 blk off dk ws) ∧ Hid (scanSorted ltInt dk b i = scanSorted ltInt dk b k)) (fun x _ => (b - (intOf x).toNat))
      case atStart => exact ⟨i, rfl, Nat.le_refl _, hib, RK, rfl⟩
      case round =>
        obtain ⟨k, rfl, hik, hkb, RS, SC⟩ := hrel
        have hs1 : 5 - n = (5 - (n + 1)) + 1 := by omega
        have HS1 := hide hs1
        clear hs1
        by_cases hkl : k < b
        · have d1 : decide ((k : Int) < (b : Int)) = true := decide_eq_true (by omega)
          have d2 : (k : Int) < (b : Int) := by omega
          have d3 : ((k : Int) == (b : Int)) = false := by simp; omega
          have dkb := hide (show k ≠ b by omega)
          have z0 : (0 : Int) ≤ (k : Int) := by omega
          have z1 : (k : Int) < (sz : Int) := by omega
          have z2 : (0 : Int) ≤ (k : Int) - 1 := by omega
          have z3 : (k : Int) - 1 < (sz : Int) := by omega
          have z4 : IntKind.i64.wrap ((k : Int) - 1) = (k : Int) - 1 := by rw [IntKind.wrap_i64]; omega
          have z5 : ((k : Int) - 1).toNat = k - 1 := by omega
          have sk := unhide SK
          have c1 := (unhide RS).cell (i := k) (by omega)
          have c2 := (unhide RS).cell (i := k - 1) (by omega)
          have f1 := (unhide RS).fro (i := k) (by omega)
          have f2 := (unhide RS).fro (i := k - 1) (by omega)
          have HSW := hide (fun n x y => ((unhide RS).drewN n).swap (i := k) (j := k - 1) (by omega) (by omega) (x := x) (y := y))
          clear sk
          generalize hx : dk[k]! = x at c1
          generalize hy : dk[k - 1]! = y at c2
          have HX := hide hx
          have HY := hide hy
          clear hx hy
          obtain ⟨j1, hj1e⟩ : ∃ j1, j1 = k - 1 := ⟨_, rfl⟩
          rw [← hj1e] at c2 f2 z5
          have HJ1 := hide hj1e
          clear hj1e
          have hls := fun w => less_any x y w
          have HLT : Hid (ltInt dk[k]! dk[k - 1]! = ltInt x y) := by show ltInt _ _ = _; rw [unhide HX, unhide HY]
          cases hl : ltInt x y <;> rw [hl] at hls HLT
          · have HLS := hide hls
            have HG : Hid (scanSorted ltInt dk b i = scanSorted ltInt dk b (k + 1)) := hide ((unhide SC).trans (scan_go dk b k hkl (unhide HLT)))
            clear hls hl f1 f2 d3
            go_wp2
            go_quiet ((go_at_call 43; exact (unhide HLS _).mono fun e w' h => ⟨h.1, _, h.2⟩))
            go_wp2
            go_roundw
            case rel => exact ⟨k + 1, by go_num, by omega, by omega, (unhide RS).drewN _, HG⟩
            case measure => simp [intOf]; omega
          · have HLS := hide hls
            have HG : Hid (scanSorted ltInt dk b i = k) := hide ((unhide SC).trans (scan_stop dk b k (.inr (unhide HLT))))
            clear hls hl
            by_cases h50 : b - a < 50
            · have d4 : (b : Int) - (a : Int) < 50 := by omega
              have HE : Hid (PP = (dk, false)) := by
                show PP = _
                rw [← unhide OK, unhide HS1, pin_short a b _ i k dk (unhide HG) (unhide dkb) h50]
              clear f1 f2
              go_wp2
              go_quiet ((go_at_call 43; exact (unhide HLS _).mono fun e w' h => ⟨h.1, _, h.2⟩))
              go_wp2
              go_ret
              exact ⟨ret_bool (by rw [unhide HE]), by rw [unhide HE]; exact (unhide RS).drewN _⟩
            · have d4 : ¬ (b : Int) - (a : Int) < 50 := by omega
              have HE : Hid (partialIns ltInt a b (5 - (n + 1)) k (upw b k (dn a k dk)) = PP) := by
                show _ = PP
                rw [← unhide OK, unhide HS1, pin_go a b _ i k dk (unhide HG) (unhide dkb) h50]
              have RW1 := hide (fun n => unhide HSW n y x (unhide HY).symm (unhide HX).symm)
              have a2 : IntKind.i64.wrap ((k : Int) - (a : Int)) = (k : Int) - (a : Int) := by rw [IntKind.wrap_i64]; omega
              have a3 : IntKind.i64.wrap ((b : Int) - (k : Int)) = (b : Int) - (k : Int) := by rw [IntKind.wrap_i64]; omega
              have hj1k := unhide HJ1
              rw [← hj1k] at RW1
              have hj1z : (k : Int) - 1 = (j1 : Int) := by omega
              have SW : Hid ((swp dk k j1).size = sz) := by show (swp dk k j1).size = sz; rw [Go.Sort.swp_size]; exact unhide SK
              have HDN : Hid (dn a k dk = if k - a ≥ 2 then shiftDown ltInt j1 (swp dk k j1) else swp dk k j1) := by show dn a k dk = _; rw [hj1k]; rfl
              clear hj1k
              go_wp2
              go_quiet ((go_at_call 43; exact (unhide HLS _).mono fun e w' h => ⟨h.1, _, h.2⟩))
              go_wp2
              go_region
              have RW2 := hide (unhide RW1 (nq + 1))
              clear c1 c2 f1 f2 HSW HLT RW1 HX HY HLS z2 z3 z5 HG SC RS d1 d3 z0 z1
              go_upto_if 61 with fail
              go_cut [7] from 13 to 132 (fun s7 wc => s7 = .int .i64 k ∧ Hid (Rw w0 blk off (dn a k dk) wc) ∧ Hid ((dn a k dk).size = sz))
              case first =>
                by_cases h2 : k - a ≥ 2
                · have h2z : 2 ≤ (k : Int) - (a : Int) := by omega
                  have HD2 : Hid (shiftDown ltInt j1 (swp dk k j1) = dn a k dk) := by show _ = _; rw [unhide HDN, if_pos h2]
                  go_wp2
                  go_loopw [9] (fun y ws => ∃ (j : Nat) (dj : Array Int), y = .int .i64 j ∧ j ≤ j1 ∧ Hid (dj.size = sz) ∧ Hid (Rw w0 blk off dj ws) ∧ Hid (shiftDown ltInt j dj = dn a k dk)) (fun y _ => (intOf y).toNat)
                  case atStart => exact ⟨j1, swp dk k j1, by first | rfl | (congr 1; omega), Nat.le_refl _, SW, RW2, HD2⟩
                  case round =>
                    clear RW2 SW HD2
                    obtain ⟨j, dj, rfl, hjj, SJ, RJ, IJ⟩ := hrel
                    have hj1k := unhide HJ1
                    by_cases hj0 : 1 ≤ j
                    · have e0 : (1 : Int) ≤ (j : Int) := by omega
                      have z0 : (0 : Int) ≤ (j : Int) := by omega
                      have z1 : (j : Int) < (sz : Int) := by omega
                      have z2 : (0 : Int) ≤ (j : Int) - 1 := by omega
                      have z3 : (j : Int) - 1 < (sz : Int) := by omega
                      have z4 : IntKind.i64.wrap ((j : Int) - 1) = (j : Int) - 1 := by rw [IntKind.wrap_i64]; omega
                      have z5 : ((j : Int) - 1).toNat = j - 1 := by omega
                      have sk := unhide SJ
                      have c1 := (unhide RJ).cell (i := j) (by omega)
                      have c2 := (unhide RJ).cell (i := j - 1) (by omega)
                      have f1 := (unhide RJ).fro (i := j) (by omega)
                      have f2 := (unhide RJ).fro (i := j - 1) (by omega)
                      have HSW := hide (fun n x y => ((unhide RJ).drewN n).swap (i := j) (j := j - 1) (by omega) (by omega) (x := x) (y := y))
                      clear sk
                      generalize hx : dj[j]! = x at c1
                      generalize hy : dj[j - 1]! = y at c2
                      have HX := hide hx
                      have HY := hide hy
                      clear hx hy
                      obtain ⟨j2, hj2e⟩ : ∃ j2, j2 = j - 1 := ⟨_, rfl⟩
                      rw [← hj2e] at c2 f2 z5
                      have HJ2 := hide hj2e
                      clear hj2e
                      have hls := fun w => less_any x y w
                      have HLT : Hid (ltInt dj[j]! dj[j - 1]! = ltInt x y) := by show ltInt _ _ = _; rw [unhide HX, unhide HY]
                      cases hl : ltInt x y <;> rw [hl] at hls HLT
                      · have HLS := hide hls
                        have HE9 : Hid (dj = dn a k dk) := by show dj = _; rw [← unhide IJ, down_stop dj j (.inr (unhide HLT))]
                        clear hls hl f1 f2
                        go_wp2
                        go_quiet ((go_at_call 43; exact (unhide HLS _).mono fun e w' h => ⟨h.1, _, h.2⟩))
                        go_wp2
                        go_meet
                        case rel => exact ⟨rfl, by rw [← unhide HE9]; exact (unhide RJ).drewN _, by rw [← unhide HE9]; exact SJ⟩
                      · have HLS := hide hls
                        have HG9 : Hid (shiftDown ltInt j2 (swp dj j j2) = dn a k dk) := by
                          have h1 := down_go dj j (by omega) (unhide HLT)
                          rw [← unhide HJ2, unhide IJ] at h1
                          exact h1.symm
                        have SJ2 : Hid ((swp dj j j2).size = sz) := by show (swp dj j j2).size = sz; rw [Go.Sort.swp_size]; exact unhide SJ
                        clear hls hl
                        go_wp2
                        go_quiet ((go_at_call 43; exact (unhide HLS _).mono fun e w' h => ⟨h.1, _, h.2⟩))
                        go_wp2
                        go_region
                        go_wp2
                        go_roundw
                        case rel => exact ⟨j2, swp dj j j2, by have := unhide HJ2; congr 1; omega, by have := unhide HJ2; omega, SJ2, by
                            have h1 := unhide HSW (nq + 1) y x (unhide HY).symm (unhide HX).symm
                            rw [← unhide HJ2] at h1
                            exact h1, HG9⟩
                        case measure => have := unhide HJ2; simp [intOf]; omega
                    · have e0 : ¬ (1 : Int) ≤ (j : Int) := by omega
                      have HE9 : Hid (dj = dn a k dk) := by show dj = _; rw [← unhide IJ, down_stop dj j (.inl (by omega))]
                      go_wp2
                      go_meet
                      case rel => exact ⟨rfl, by rw [← unhide HE9]; exact RJ, by rw [← unhide HE9]; exact SJ⟩
                · have h2z : ¬ 2 ≤ (k : Int) - (a : Int) := by omega
                  have HD2 : Hid (swp dk k j1 = dn a k dk) := by show _ = _; rw [unhide HDN, if_neg h2]
                  go_wp2
                  go_meet
                  case rel => exact ⟨rfl, by rw [← unhide HD2]; exact RW2, by rw [← unhide HD2]; exact SW⟩
              case rest =>
                obtain ⟨rfl, RD, SD⟩ := hcut
                clear RW2 SW HDN z4
                generalize dn a k dk = dd at *
                by_cases h3 : b - k ≥ 2
                · have h3z : 2 ≤ (b : Int) - (k : Int) := by omega
                  have HU : Hid (shiftUp ltInt b (k + 1) dd = upw b k dd) := by show _ = _; rw [upw, if_pos h3]
                  go_wp2
                  go_loopw [10] (fun y ws => ∃ (j : Nat) (dj : Array Int), y = .int .i64 j ∧ k < j ∧ j ≤ b ∧ Hid (dj.size = sz) ∧ Hid (Rw w0 blk off dj ws) ∧ Hid (shiftUp ltInt b j dj = upw b k dd)) (fun y _ => (b - (intOf y).toNat))
                  case atStart => exact ⟨k + 1, dd, by go_num, by omega, by omega, SD, RD, HU⟩
                  case round =>
                    clear RD SD HU
                    obtain ⟨j, dj, rfl, hkj, hjb, SJ, RJ, IJ⟩ := hrel
                    by_cases hjl : j < b
                    · have e0 : (j : Int) < (b : Int) := by omega
                      have z0 : (0 : Int) ≤ (j : Int) := by omega
                      have z1 : (j : Int) < (sz : Int) := by omega
                      have z2 : (0 : Int) ≤ (j : Int) - 1 := by omega
                      have z3 : (j : Int) - 1 < (sz : Int) := by omega
                      have z4 : IntKind.i64.wrap ((j : Int) - 1) = (j : Int) - 1 := by rw [IntKind.wrap_i64]; omega
                      have z5 : ((j : Int) - 1).toNat = j - 1 := by omega
                      have sk := unhide SJ
                      have c1 := (unhide RJ).cell (i := j) (by omega)
                      have c2 := (unhide RJ).cell (i := j - 1) (by omega)
                      have f1 := (unhide RJ).fro (i := j) (by omega)
                      have f2 := (unhide RJ).fro (i := j - 1) (by omega)
                      have HSW := hide (fun n x y => ((unhide RJ).drewN n).swap (i := j) (j := j - 1) (by omega) (by omega) (x := x) (y := y))
                      clear sk
                      generalize hx : dj[j]! = x at c1
                      generalize hy : dj[j - 1]! = y at c2
                      have HX := hide hx
                      have HY := hide hy
                      clear hx hy
                      obtain ⟨j2, hj2e⟩ : ∃ j2, j2 = j - 1 := ⟨_, rfl⟩
                      rw [← hj2e] at c2 f2 z5
                      have HJ2 := hide hj2e
                      clear hj2e
                      have hls := fun w => less_any x y w
                      have HLT : Hid (ltInt dj[j]! dj[j - 1]! = ltInt x y) := by show ltInt _ _ = _; rw [unhide HX, unhide HY]
                      cases hl : ltInt x y <;> rw [hl] at hls HLT
                      · have HLS := hide hls
                        have HE9 : Hid (dj = upw b k dd) := by show dj = _; rw [← unhide IJ, up_stop dj b j (.inr (unhide HLT))]
                        clear hls hl f1 f2
                        go_wp2
                        go_quiet ((go_at_call 43; exact (unhide HLS _).mono fun e w' h => ⟨h.1, _, h.2⟩))
                        go_wp2
                        go_roundw
                        case rel => exact ⟨k, n + 1, dj, rfl, by go_num, by omega, by omega, by omega, SJ, (unhide RJ).drewN _, by rw [unhide HE9]; exact HE⟩
                        case measure => simp [intOf]; omega
                      · have HLS := hide hls
                        have HG9 : Hid (shiftUp ltInt b (j + 1) (swp dj j j2) = upw b k dd) := by
                          have h1 := up_go dj b j hjl (unhide HLT)
                          rw [← unhide HJ2, unhide IJ] at h1
                          exact h1.symm
                        have SJ2 : Hid ((swp dj j j2).size = sz) := by show (swp dj j j2).size = sz; rw [Go.Sort.swp_size]; exact unhide SJ
                        clear hls hl
                        go_wp2
                        go_quiet ((go_at_call 43; exact (unhide HLS _).mono fun e w' h => ⟨h.1, _, h.2⟩))
                        go_wp2
                        go_region
                        go_wp2
                        go_roundw
                        case rel => exact ⟨j + 1, swp dj j j2, by go_num, by omega, by omega, SJ2, by
                            have h1 := unhide HSW (nq + 1) y x (unhide HY).symm (unhide HX).symm
                            rw [← unhide HJ2] at h1
                            exact h1, HG9⟩
                        case measure => simp [intOf]; omega
                    · have e0 : ¬ (j : Int) < (b : Int) := by omega
                      have HE9 : Hid (dj = upw b k dd) := by show dj = _; rw [← unhide IJ, up_stop dj b j (.inl hjl)]
                      go_wp2
                      go_roundw
                      case rel => exact ⟨k, n + 1, dj, rfl, by go_num, by omega, by omega, by omega, SJ, RJ, by rw [unhide HE9]; exact HE⟩
                      case measure => simp [intOf]; omega
                · have h3z : ¬ 2 ≤ (b : Int) - (k : Int) := by omega
                  have HU : Hid (dd = upw b k dd) := by show _ = _; rw [upw, if_neg h3]
                  go_wp2
                  go_roundw
                  case rel => exact ⟨k, n + 1, dd, rfl, by go_num, by omega, by omega, by omega, SD, RD, by rw [← unhide HU] at HE; exact HE⟩
                  case measure => simp [intOf]; omega
        · have d1 : decide ((k : Int) < (b : Int)) = false := decide_eq_false (by omega)
          obtain rfl : k = b := by omega
          have HE : Hid (PP = (dk, true)) := by
            show PP = _
            rw [← unhide OK, unhide HS1, pin_true a k _ i dk ((unhide SC).trans (scan_stop dk k k (.inl hkl)))]
          go_wp2
          go_quiet (fail)
          go_wp2
          go_ret
          exact ⟨ret_bool (by rw [unhide HE]), by rw [unhide HE]; exact (unhide RS).drewN _⟩
    · have hltz : ¬ (n : Int) < 5 := by omega
      have HE : Hid (PP = (dk, false)) := by
        show PP = _
        rw [← unhide OK, show 5 - n = 0 by omega]; rfl
      go_wp2
      go_ret
      exact ⟨ret_bool (by rw [unhide HE]), by rw [unhide HE]; exact unhide RK⟩
end Go.Proofs.Ytnlkefdicpeemaa
