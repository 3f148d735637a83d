/- The sort of runes: cmp.Less and the insertion sort, by the plain functions of the library's Sort. -/
import Derived.Test.YtnlkefdicpeemaaLeaf
import Derived.Sort.AssemblyPlain
import Derived.Sort.Row
namespace Go.Proofs.Ytnlkefdicpeemaa
open Go.RowKit
open Go.Sort (Holds ltInt swp insInner insOuter insertionSort PermIn SortedIn)

/-- The row of runes lies there; what is below its block is as it was. -/
structure Rw (w0 : World) (blk off : Nat) (d : Array Int) (w : World) : Prop where
  holds : Holds (Value.int .i32) w blk off d
  below : Below blk w0 w
  lt : blk < w.heap.size

theorem Rw.cell {w0 w : World} {blk off : Nat} {d : Array Int} (h : Rw w0 blk off d w) {i : Nat} (hi : i < d.size) : w.cell? ⟨blk, off + i, none⟩ = some (.int .i32 d[i]!) := (h.holds i hi).1
theorem Rw.fro {w0 w : World} {blk off : Nat} {d : Array Int} (h : Rw w0 blk off d w) {i : Nat} (hi : i < d.size) : w.frozen? ⟨blk, off + i, none⟩ = false := (h.holds i hi).2
theorem Rw.drewN {w0 w : World} {blk off : Nat} {d : Array Int} (h : Rw w0 blk off d w) (n : Nat) : Rw w0 blk off d (w.drewN n) := ⟨h.holds, below_drewN h.below n, h.lt⟩
theorem Rw.gr {w0 w w1 : World} {blk off : Nat} {d : Array Int} (h : Rw w0 blk off d w) (g : Gr w w1) : Rw w0 blk off d w1 :=
  ⟨fun j hj => ⟨g.cell (h.holds j hj).1, (g.below.frozen (p := ⟨blk, off + j, none⟩) h.lt).trans (h.holds j hj).2⟩, h.below.trans (g.below.mono (Nat.le_of_lt h.lt)), Nat.lt_of_lt_of_le h.lt g.size⟩
theorem Rw.start {w : World} {blk off : Nat} {d : Array Int} (h : Holds (Value.int .i32) w blk off d) (hb : blk < w.heap.size) : Rw w blk off d w := ⟨h, Below.refl _ _, hb⟩
theorem Rw.trans {w0 w1 w2 : World} {blk off : Nat} {d d' : Array Int} (h : Rw w0 blk off d w1) (k : Rw w1 blk off d' w2) : Rw w0 blk off d' w2 := ⟨k.holds, h.below.trans k.below, k.lt⟩

/-- Two stores exchange two runes. -/
theorem Rw.swap {w0 w : World} {blk off : Nat} {d : Array Int} (h : Rw w0 blk off d w) {i j : Nat} (hi : i < d.size) (hj : j < d.size) {x y : Int} (hx : x = d[j]!) (hy : y = d[i]!) :
    Rw w0 blk off (swp d i j) ((w.setCell ⟨blk, off + i, none⟩ (.int .i32 x)).setCell ⟨blk, off + j, none⟩ (.int .i32 y)) := by
  subst hx hy
  refine ⟨fun k hk => ?_, (h.below.setCell (p := ⟨blk, off + i, none⟩) (Nat.le_refl _) _).setCell (p := ⟨blk, off + j, none⟩) (Nat.le_refl _) _, by simpa using h.lt⟩
  rw [Go.Sort.swp_size] at hk
  obtain ⟨h1, h2⟩ := h.holds k hk
  refine ⟨?_, by rw [World.frozen?_setCell, World.frozen?_setCell]; exact h2⟩
  by_cases hkj : k = j
  · subst hkj
    rw [Go.Sort.swp_right d i k hk]
    refine World.cell?_setCell_same' _ _ _ ?_
    by_cases hki : k = i
    · subst hki; rw [World.cell?_setCell_same' _ _ _ (by rw [h1]; rfl)]; rfl
    · rw [World.cell?_setCell_other _ _ _ _ (by intro he; apply hki; simp at he), h1]; rfl
  · rw [World.cell?_setCell_other _ _ _ _ (by intro he; apply hkj; simp at he)]
    by_cases hki : k = i
    · subst hki
      rw [Go.Sort.swp_left d k j hi hkj]
      exact World.cell?_setCell_same' _ _ _ (by rw [h1]; rfl)
    · rw [World.cell?_setCell_other _ _ _ _ (by intro he; apply hki; simp at he), Go.Sort.swp_other d i j k hki hkj]
      exact h1

set_option maxHeartbeats 400000 in
theorem nan_any (x : Int) (w : World) : Calls Try.prog 53 #[.int .i32 x] w fun e w' => e = .returned (.bool false) ∧ w' = w := by
  go_enter Try.func53, Try.ntmps53
  go_wp2
  go_ret
  exact ⟨rfl, rfl⟩

set_option maxHeartbeats 400000 in
theorem less_any (x y : Int) (w : World) : Calls Try.prog 43 #[.int .i32 x, .int .i32 y] w fun e w' => e = .returned (.bool (ltInt x y)) ∧ w' = w := by
  go_enter Try.func43, Try.ntmps43
  go_wp2_with (go_at_call 53; refine (nan_any _ _).mono ?_; rintro e w' ⟨rfl, rfl⟩)
  go_ret
  exact ⟨rfl, rfl⟩

theorem insInner_go (a j : Nat) (d : Array Int) (ha : a < j + 1) (h : ltInt d[j + 1]! d[j]! = true) : insInner ltInt a (j + 1) d = insInner ltInt a j (swp d (j + 1) j) := by
  simp only [insInner]; rw [if_pos (by simp [h]; omega)]
theorem insInner_end (a j : Nat) (d : Array Int) (h : j ≤ a ∨ ltInt d[j]! d[j - 1]! = false) : insInner ltInt a j d = d := by
  cases j with
  | zero => rfl
  | succ j =>
    simp only [insInner]
    rw [if_neg]
    intro hh
    simp at hh
    rcases h with h | h
    · omega
    · simp at h; rw [h] at hh; simp at hh

set_option maxHeartbeats 1600000 in
theorem ins_any (blk off cap a b : Nat) (d : Array Int) (w0 w : World) (hR : Rw w0 blk off d w) (hab : a ≤ b) (hb : b ≤ d.size) (hsz : d.size ≤ 100000) :
    Calls Try.prog 37 #[.slice (some ⟨blk, off, none⟩) d.size cap, .int .i64 a, .int .i64 b] w fun e w' => e = .returned (.tuple #[]) ∧ Rw w0 blk off (insertionSort ltInt d a b) w' := by
  have RR := hide hR
  clear hR
  generalize hsn : d.size = sz at *
  have SN := hide hsn
  clear hsn
  go_enter Try.func37, Try.ntmps37
  go_wp2
  go_loopw [6] (fun x wr => ∃ (i : Nat) (dk : Array Int), x = .int .i64 i ∧ a < i ∧ i ≤ b + 1 ∧ Hid (dk.size = sz) ∧ Hid (Rw w0 blk off dk wr) ∧ Hid (insOuter ltInt a b i dk = insertionSort ltInt d a b)) (fun x _ => (b + 1 - (intOf x).toNat))
  case atStart => exact ⟨a + 1, d, by go_num, by omega, by omega, SN, RR, rfl⟩
  case round =>
    obtain ⟨i, dk, rfl, hai, hib, SK, RK, OK⟩ := hrel
    by_cases hlt : i < b
    · have hltz : (i : Int) < (b : Int) := by omega
      go_wp2
      go_loopw [7] (fun y ws => ∃ (j : Nat) (dj : Array Int), y = .int .i64 j ∧ a ≤ j ∧ j ≤ i ∧ Hid (dj.size = sz) ∧ Hid (Rw w0 blk off dj ws) ∧ Hid (insInner ltInt a j dj = insInner ltInt a i dk)) (fun y _ => (intOf y).toNat)
      case atStart => exact ⟨i, dk, rfl, by omega, Nat.le_refl _, SK, RK, rfl⟩
      case round =>
        obtain ⟨j, dj, rfl, haj, hji, SJ, RJ, IJ⟩ := hrel
        by_cases hja : a < j
        · have d1 : decide ((j : Int) > (a : Int)) = true := decide_eq_true (by omega)
          have d2 : decide ((a : Int) < (j : Int)) = true := decide_eq_true (by omega)
          have hjaz : (a : Int) < (j : Int) := by omega
          have hj0 : (0 : Int) ≤ (j : Int) := by omega
          have hj1 : (j : Int) < (sz : Int) := by omega
          have hj2 : (0 : Int) ≤ (j : Int) - 1 := by omega
          have hj3 : (j : Int) - 1 < (sz : Int) := by omega
          have hw : IntKind.i64.wrap ((j : Int) - 1) = (j : Int) - 1 := by rw [IntKind.wrap_i64]; omega
          have ht : ((j : Int) - 1).toNat = j - 1 := by omega
          have sj := unhide SJ
          have c1 := (unhide RJ).cell (i := j) (by omega)
          have c2 := (unhide RJ).cell (i := j - 1) (by omega)
          have f1 := (unhide RJ).fro (i := j) (by omega)
          have f2 := (unhide RJ).fro (i := j - 1) (by omega)
          have hsw := fun n x y => (unhide (RJ)).drewN n |>.swap (i := j) (j := j - 1) (by omega) (by omega) (x := x) (y := y)
          have hgo := fun h => insInner_go a (j - 1) dj (by omega) h
          have hst := fun h => insInner_end a j dj (.inr h)
          rw [show j - 1 + 1 = j by omega] at hgo
          have HSW := hide hsw
          have HGO := hide hgo
          have HST := hide hst
          clear hsw hgo hst sj
          generalize hx : dj[j]! = x at *
          generalize hy : dj[j - 1]! = y at *
          have HX := hide hx
          have HY := hide hy
          clear hx hy
          obtain ⟨j1, hj1e⟩ : ∃ j1, j1 = j - 1 := ⟨_, rfl⟩
          rw [← hj1e] at c2 f2 ht
          have HJ1 := hide hj1e
          clear hj1e
          have hls := fun w => less_any x y w
          cases hl : ltInt x y <;> rw [hl] at hls
          · have HLS := hide hls
            have HO : Hid (insOuter ltInt a b (i + 1) dj = insertionSort ltInt d a b) := by
              have h1 := unhide HST (by rw [hl])
              have h2 := unhide OK
              unfold insOuter at h2
              rw [if_pos hlt, ← unhide IJ, h1] at h2
              exact h2
            clear hls hl f1 f2
            go_wp2
            go_quiet ((go_at_call 43; exact Calls.quiet_of_same (unhide HLS _)))
            go_wp2
            go_roundw
            case rel => exact ⟨i + 1, dj, by go_num, by omega, by omega, SJ, (unhide RJ).drewN _, HO⟩
            case measure => simp [intOf]; omega
          · have HLS := hide hls
            have HI : Hid (insInner ltInt a j1 (swp dj j j1) = insInner ltInt a i dk) := by
              have h1 := unhide HGO (by rw [hl])
              rw [unhide IJ, ← unhide HJ1] at h1
              exact h1.symm
            clear hls hl
            go_wp2
            go_quiet ((go_at_call 43; exact Calls.quiet_of_same (unhide HLS _)))
            go_wp2
            go_region
            go_wp2
            go_roundw
            case rel => exact ⟨j1, swp dj j j1, by have := unhide HJ1; congr 1; omega, by have := unhide HJ1; omega, by have := unhide HJ1; omega, by show (swp dj j j1).size = sz; rw [Go.Sort.swp_size]; exact unhide SJ, by
                have h1 := unhide HSW (nq + 1) y x rfl rfl
                rw [← unhide HJ1] at h1
                exact h1, HI⟩
            case measure => have := unhide HJ1; simp [intOf]; omega
        · have d1 : decide ((j : Int) > (a : Int)) = false := decide_eq_false (by omega)
          have d2 : decide ((a : Int) < (j : Int)) = false := decide_eq_false (by omega)
          have HO : Hid (insOuter ltInt a b (i + 1) dj = insertionSort ltInt d a b) := by
            have h1 := insInner_end a j dj (.inl (by omega))
            have h2 := unhide OK
            unfold insOuter at h2
            rw [if_pos hlt, ← unhide IJ, h1] at h2
            exact h2
          go_wp2
          go_quiet (fail)
          go_wp2
          go_roundw
          case rel => exact ⟨i + 1, dj, by go_num, by omega, by omega, SJ, (unhide RJ).drewN _, HO⟩
          case measure => simp [intOf]; omega
    · have hltz : ¬ (i : Int) < (b : Int) := by omega
      have HO : Hid (dk = insertionSort ltInt d a b) := by
        have h2 := unhide OK
        unfold insOuter at h2
        rw [if_neg hlt] at h2
        exact h2
      go_wp2
      go_end0
      exact ⟨rfl, by rw [← unhide HO]; exact unhide RK⟩
end Go.Proofs.Ytnlkefdicpeemaa
