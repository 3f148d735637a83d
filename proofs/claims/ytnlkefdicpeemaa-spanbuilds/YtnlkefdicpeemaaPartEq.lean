/- The sort of runes: the two scans of a partition as one invariant; partitionEqual. -/
import Derived.Test.YtnlkefdicpeemaaHeap
namespace Go.Proofs.Ytnlkefdicpeemaa
open Go.RowKit
open Go.Sort (Holds ltInt swp PermIn SortedIn)

/-- Between the scans: what stands ahead of i is small, what stands behind j is large; the pivot stands at a. -/
structure Pe (q : Int → Bool) (p : Int) (a b : Nat) (d : Array Int) (i j : Nat) (dk : Array Int) : Prop where
  ai : a < i
  ij : i ≤ j + 1
  jb : j < b
  sz : dk.size = d.size
  bs : b ≤ d.size
  perm : PermIn a b d dk
  pa : dk[a]! = p
  lo : ∀ t, a < t → t < i → q dk[t]! = false
  hi : ∀ t, j < t → t < b → q dk[t]! = true

theorem Pe.up {q : Int → Bool} {p : Int} {a b : Nat} {d : Array Int} {i j : Nat} {dk : Array Int} (h : Pe q p a b d i j dk) (hij : i ≤ j) (hq : q dk[i]! = false) : Pe q p a b d (i + 1) j dk :=
  { h with ai := Nat.lt_succ_of_lt h.ai, ij := by omega, lo := fun t h1 h2 => if ht : t = i then ht ▸ hq else h.lo t h1 (by omega) }
theorem Pe.down {q : Int → Bool} {p : Int} {a b : Nat} {d : Array Int} {i j : Nat} {dk : Array Int} (h : Pe q p a b d i j dk) (hij : i ≤ j) (hq : q dk[j]! = true) : Pe q p a b d i (j - 1) dk :=
  { h with ij := by omega, jb := by have := h.jb; omega, hi := fun t h1 h2 => if ht : t = j then ht ▸ hq else h.hi t (by omega) h2 }
theorem Pe.turn {q : Int → Bool} {p : Int} {a b : Nat} {d : Array Int} {i j : Nat} {dk : Array Int} (h : Pe q p a b d i j dk) (hij : i < j) (h1 : q dk[i]! = true) (h2 : q dk[j]! = false) : Pe q p a b d (i + 1) (j - 1) (swp dk i j) := by
  have ai := h.ai
  have jb := h.jb
  have sz := h.sz
  have bs := h.bs
  refine ⟨by omega, by omega, by omega, by rw [Go.Sort.swp_size]; exact sz, bs, Go.Sort.permIn_trans _ _ _ _ _ h.perm (Go.Sort.swp_permIn dk a b i j (by omega) (by omega) (by omega) jb (by omega)), ?_, ?_, ?_⟩
  · rw [Go.Sort.swp_other dk i j a (by omega) (by omega)]; exact h.pa
  · intro t ht1 ht2
    by_cases ht : t = i
    · subst ht; rw [Go.Sort.swp_left dk t j (by omega) (by omega)]; exact h2
    · rw [Go.Sort.swp_other dk i j t ht (by omega)]; exact h.lo t ht1 (by omega)
  · intro t ht1 ht2
    by_cases ht : t = j
    · subst ht; rw [Go.Sort.swp_right dk i t (by omega)]; exact h1
    · rw [Go.Sort.swp_other dk i j t (by omega) ht]; exact h.hi t (by omega) ht2
theorem Pe.start {q : Int → Bool} {a b pv : Nat} {d : Array Int} (ha : a ≤ pv) (hp : pv < b) (hb : b ≤ d.size) : Pe q d[pv]! a b d (a + 1) (b - 1) (swp d a pv) :=
  ⟨by omega, by omega, by omega, Go.Sort.swp_size _ _ _, hb, Go.Sort.swp_permIn d a b a pv (by omega) (by omega) ha hp hb, by
    by_cases h : a = pv
    · subst h; rw [Go.Sort.swp_right d a a (by omega)]
    · rw [Go.Sort.swp_left d a pv (by omega) h], fun t h1 h2 => by omega, fun t h1 h2 => by omega⟩

set_option maxHeartbeats 4000000 in
theorem parteq_any (blk off cap a b pv : Nat) (d : Array Int) (w0 w : World) (hR : Rw w0 blk off d w) (ha : a ≤ pv) (hp : pv < b) (hb : b ≤ d.size) (hsz : d.size ≤ 60000) :
    Calls Try.prog 44 #[.slice (some ⟨blk, off, none⟩) d.size cap, .int .i64 a, .int .i64 b, .int .i64 pv] w fun e w' => ∃ (mid : Nat) (d' : Array Int), e = .returned (.int .i64 mid) ∧ Rw w0 blk off d' w' ∧ mid ≤ b ∧ Pe (fun x => ltInt d[pv]! x) d[pv]! a b d mid (mid - 1) d' := by
  have P0 := hide (Pe.start (q := fun x => ltInt d[pv]! x) ha hp hb)
  have RR := hide hR
  have k0 := hR.cell (i := a) (by omega)
  have k1 := hR.cell (i := pv) (by omega)
  have f0 := hR.fro (i := a) (by omega)
  have f1 := hR.fro (i := pv) (by omega)
  have HSW := hide (fun n x y => (hR.drewN n).swap (i := a) (j := pv) (by omega) (by omega) (x := x) (y := y))
  clear hR
  have a1 : (a : Int) < (d.size : Int) := by omega
  have a2 : (pv : Int) < (d.size : Int) := by omega
  have a3 : IntKind.i64.wrap ((b : Int) - 1) = (b : Int) - 1 := by rw [IntKind.wrap_i64]; omega
  have a4 : (b : Int) ≤ 60000 := by omega
  have a5 : (a : Int) < (b : Int) := by omega
  have a6 : (0 : Int) ≤ (a : Int) := by omega
  generalize hq : (fun x => ltInt d[pv]! x) = q at *
  have HQ : Hid (∀ x, q x = ltInt d[pv]! x) := by intro x; rw [← hq]
  clear hq
  generalize hpv : d[pv]! = p at *
  generalize hxa : d[a]! = xa at *
  generalize hsn : d.size = sz at *
  have HPV := hide hpv
  have HXA := hide hxa
  have SN := hide hsn
  clear hpv hxa hsn hb
  obtain ⟨vv, hvv⟩ : ∃ v, (w.setCell ⟨blk, off + a, none⟩ (.int .i32 p)).cell? ⟨blk, off + pv, none⟩ = some v := Rw.some_set k0 k1 _
  go_enter Try.func44, Try.ntmps44
  go_wp2
  go_region
  go_wp2
  go_loopw [9, 10] (fun x y wr => ∃ (i j : Nat) (dk : Array Int), x = .int .i64 i ∧ y = .int .i64 j ∧ Hid (Rw w0 blk off dk wr) ∧ Hid (Pe q p a b d i j dk)) (fun x y _ => (intOf y + 1 - intOf x).toNat)
  case atStart => exact ⟨a + 1, b - 1, swp d a pv, by go_num, by congr 1; omega, unhide HSW 1 p xa rfl rfl, P0⟩
  case round =>
    clear k0 k1 f0 f1 hvv
    obtain ⟨i0, j0, dk, rfl, rfl, RK, PK⟩ := hrel
    have hij0 := (unhide PK).ij
    have hji0 := (unhide PK).jb
    go_wp2
    go_loopw [9] (fun x ws => ∃ (i : Nat), x = .int .i64 i ∧ i0 ≤ i ∧ i ≤ b ∧ Hid (Rw w0 blk off dk ws) ∧ Hid (Pe q p a b d i j0 dk)) (fun x _ => (60001 - intOf x).toNat)
    case atStart => exact ⟨i0, rfl, Nat.le_refl _, by omega, RK, PK⟩
    case round =>
      obtain ⟨i, rfl, h0i, hib, RI, PI⟩ := hrel
      have pe := unhide PI
      have pij := pe.ij
      have pai := pe.ai
      have psz := pe.sz
      have pbs := pe.bs
      have snn := unhide SN
      by_cases hle : i ≤ j0
      · have g1 : decide ((i : Int) ≤ (j0 : Int)) = true := decide_eq_true (by omega)
        have b1 : (0 : Int) ≤ (i : Int) := by omega
        have b2 : (i : Int) < (sz : Int) := by omega
        have c0 := (unhide RI).cell (i := a) (by omega)
        have c1 := (unhide RI).cell (i := i) (by omega)
        rw [pe.pa] at c0
        have HX := hide (rfl : dk[i]! = dk[i]!)
        have HUP := hide (fun hq => pe.up hle hq)
        clear pe psz pbs snn
        generalize hx : dk[i]! = x at c1
        have HXX := hide hx
        clear hx HX
        cases hl : ltInt p x with
        | false =>
          have HLS := hide (fun w => less_any p x w)
          rw [hl] at HLS
          have PU := hide (unhide HUP (by rw [unhide HXX, unhide HQ]; exact hl))
          clear hl
          go_wp2
          go_quiet ((go_at_call 43; exact (unhide HLS _).mono fun e w' h => ⟨h.1, _, h.2⟩))
          go_wp2
          go_roundw
          case rel => exact ⟨i + 1, by go_num, by omega, by omega, (unhide RI).drewN _, PU⟩
          case measure => simp [intOf]; omega
        | true =>
          have HLS := hide (fun w => less_any p x w)
          rw [hl] at HLS
          have QT : Hid (q dk[i]! = true) := by show q dk[i]! = true; rw [unhide HXX, unhide HQ]; exact hl
          clear hl HUP
          go_wp2
          go_quiet ((go_at_call 43; exact (unhide HLS _).mono fun e w' h => ⟨h.1, _, h.2⟩))
          clear HLS c0 c1
          go_wp2
          go_loopw [10] (fun y ws => ∃ (j : Nat), y = .int .i64 j ∧ j ≤ j0 ∧ Hid (Rw w0 blk off dk ws) ∧ Hid (Pe q p a b d i j dk)) (fun y _ => (intOf y + 1).toNat)
          case atStart => exact ⟨j0, rfl, Nat.le_refl _, (unhide RI).drewN _, PI⟩
          case round =>
            obtain ⟨j, rfl, hj0, RJ, PJ⟩ := hrel
            have pe := unhide PJ
            have pij2 := pe.ij
            have psz := pe.sz
            have pbs := pe.bs
            have snn := unhide SN
            by_cases hle2 : i ≤ j
            · have g2 : decide ((i : Int) ≤ (j : Int)) = true := decide_eq_true (by omega)
              have g3 : ¬ (j : Int) < (i : Int) := by omega
              have b3 : (0 : Int) ≤ (j : Int) := by omega
              have b4 : (j : Int) < (sz : Int) := by omega
              have b5 : IntKind.i64.wrap ((j : Int) - 1) = (j : Int) - 1 := by rw [IntKind.wrap_i64]; omega
              have c0 := (unhide RJ).cell (i := a) (by omega)
              have c1 := (unhide RJ).cell (i := i) (by omega)
              have c2 := (unhide RJ).cell (i := j) (by omega)
              have f1 := (unhide RJ).fro (i := i) (by omega)
              have f2 := (unhide RJ).fro (i := j) (by omega)
              rw [pe.pa] at c0
              have HDN := hide (fun hq => pe.down hle2 hq)
              have HTN := hide (fun h hq => pe.turn h (unhide QT) hq)
              have HSW := hide (fun n x y => ((unhide RJ).drewN n).swap (i := i) (j := j) (by omega) (by omega) (x := x) (y := y))
              clear pe psz pbs snn
              rw [unhide HXX] at c1
              generalize hy : dk[j]! = y at c2
              have HYY := hide hy
              clear hy
              cases hl : ltInt p y with
              | true =>
                have HLS := hide (fun w => less_any p y w)
                rw [hl] at HLS
                have PD := hide (unhide HDN (by rw [unhide HYY, unhide HQ]; exact hl))
                clear hl f1 f2 g3 c1
                go_wp2
                go_quiet ((go_at_call 43; exact (unhide HLS _).mono fun e w' h => ⟨h.1, _, h.2⟩))
                go_wp2
                go_roundw
                case rel => exact ⟨j - 1, by congr 1; omega, by omega, (unhide RJ).drewN _, PD⟩
                case measure => simp [intOf]
              | false =>
                have HLS := hide (fun w => less_any p y w)
                rw [hl] at HLS
                have QF : q dk[j]! = false := by rw [unhide HYY, unhide HQ]; exact hl
                have hne : i < j := by
                  rcases Nat.lt_or_ge i j with h | h
                  · exact h
                  · have : i = j := by omega
                    subst this
                    have h1 := unhide QT
                    rw [QF] at h1
                    exact absurd h1 (by decide)
                have hnez : (i : Int) < (j : Int) := by omega
                have PT := hide (unhide HTN hne QF)
                clear hl QF
                go_wp2
                go_quiet ((go_at_call 43; exact (unhide HLS _).mono fun e w' h => ⟨h.1, _, h.2⟩))
                go_wp2
                go_region
                go_wp2
                go_roundw
                case rel => exact ⟨i + 1, j - 1, swp dk i j, by go_num, by congr 1; omega, unhide HSW _ y x (unhide HYY).symm (unhide HXX).symm, PT⟩
                case measure => simp [intOf]; omega
            · have g2 : decide ((i : Int) ≤ (j : Int)) = false := decide_eq_false (by omega)
              have g3 : (j : Int) < (i : Int) := by omega
              clear pe
              go_wp2
              go_quiet (fail)
              go_wp2
              go_ret
              exact ⟨i, dk, rfl, (unhide RJ).drewN _, hib, by have h := unhide PJ; rw [show j = i - 1 by omega] at h; exact h⟩
      · have g1 : decide ((i : Int) ≤ (j0 : Int)) = false := decide_eq_false (by omega)
        have g3 : (j0 : Int) < (i : Int) := by omega
        clear pe
        go_wp2
        go_quiet (fail)
        go_wp2
        refine wp_loop_rounds 1 ?_
        rw [rounds_succ]
        go_wp2
        go_quiet (fail)
        go_wp2
        go_ret
        exact ⟨i, dk, rfl, (unhide RI).drewN _, hib, by have h := unhide PI; rw [show j0 = i - 1 by omega] at h; exact h⟩
end Go.Proofs.Ytnlkefdicpeemaa
