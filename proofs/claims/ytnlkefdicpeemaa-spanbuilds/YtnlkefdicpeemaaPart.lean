/- The sort of runes: partition (gen_part.py writes it). -/
import Derived.Test.YtnlkefdicpeemaaPartEq
namespace Go.Proofs.Ytnlkefdicpeemaa
open Go.RowKit
open Go.Sort (Holds ltInt swp PermIn SortedIn)

set_option maxRecDepth 8000 in
set_option maxHeartbeats 8000000 in
theorem part_any (blk off cap a b pv : Nat) (d : Array Int) (w0 w : World) (hR : Rw w0 blk off d w) (ha : a ≤ pv) (hp : pv < b) (hb : b ≤ d.size) (hsz : d.size ≤ 60000) :
    Calls Try.prog 45 #[.slice (some ⟨blk, off, none⟩) d.size cap, .int .i64 a, .int .i64 b, .int .i64 pv] w fun e w' => ∃ (mid : Nat) (d' : Array Int) (fl : Bool), e = .returned (.tuple #[.int .i64 mid, .bool fl]) ∧ Rw w0 blk off d' w' ∧ ∃ dk, Pe (fun x => !ltInt x d[pv]!) d[pv]! a b d (mid + 1) mid dk ∧ d' = swp dk mid a := by
  have P0 := hide (Pe.start (q := fun x => !ltInt x d[pv]!) ha hp hb)
  have RR := hide hR
  have k0 := hR.cell (i := a) (by omega)
  have k1 := hR.cell (i := pv) (by omega)
  have f0 := hR.fro (i := a) (by omega)
  have f1 := hR.fro (i := pv) (by omega)
  have HSW := hide (fun n x y => (hR.drewN n).swap (i := a) (j := pv) (by omega) (by omega) (x := x) (y := y))
  clear hR
  have a1 : (a : Int) < (d.size : Int) := by omega
  have a2 : (pv : Int) < (d.size : Int) := by omega
  have a3 : IntKind.i64.wrap ((b : Int) - 1) = (b : Int) - 1 := by rw [IntKind.wrap_i64]; omega
  have a4 : (b : Int) ≤ 60000 := by omega
  have a5 : (a : Int) < (b : Int) := by omega
  have a6 : (0 : Int) ≤ (a : Int) := by omega
  generalize hq : (fun x => !ltInt x d[pv]!) = q at *
  have HQ : Hid (∀ x, q x = !ltInt x d[pv]!) := by intro x; rw [← hq]
  clear hq
  generalize hpv : d[pv]! = p at *
  generalize hxa : d[a]! = xa at *
  generalize hsn : d.size = sz at *
  have SN := hide hsn
  clear hpv hxa hsn hb
  obtain ⟨vv, hvv⟩ : ∃ v, (w.setCell ⟨blk, off + a, none⟩ (.int .i32 p)).cell? ⟨blk, off + pv, none⟩ = some v := Rw.some_set k0 k1 _
  go_enter Try.func45, Try.ntmps45
  go_wp2
  go_region
  have RK1 : Hid (Rw w0 blk off (swp d a pv) _) := unhide HSW 1 p xa rfl rfl
  clear k0 k1 f0 f1 hvv HSW RR
  obtain ⟨i01, hi01⟩ : ∃ i01, i01 = a + 1 := ⟨_, rfl⟩
  obtain ⟨j01, hj01⟩ : ∃ j01, j01 = b - 1 := ⟨_, rfl⟩
  have a7 : (a : Int) + 1 = (i01 : Int) := by omega
  have a8 : (b : Int) - 1 = (j01 : Int) := by omega
  obtain ⟨dk1, hdk1⟩ : ∃ dk1, dk1 = swp d a pv := ⟨_, rfl⟩
  rw [← hdk1] at RK1 P0
  rw [← hi01, ← hj01] at P0
  have PK1 := P0
  clear hdk1 P0 hi01 hj01
  have hij01 := (unhide PK1).ij
  have hji01 := (unhide PK1).jb
  go_wp2
  go_loopw [10] (fun x ws => ∃ (i : Nat), x = .int .i64 i ∧ i01 ≤ i ∧ i ≤ b ∧ Hid (Rw w0 blk off dk1 ws) ∧ Hid (Pe q p a b d i j01 dk1)) (fun x _ => (60001 - intOf x).toNat)
  case atStart => exact ⟨i01, by go_num, Nat.le_refl _, by omega, RK1, PK1⟩
  case round =>
    obtain ⟨i1, rfl, h0i1, hib1, RI1, PI1⟩ := hrel
    have pe := unhide PI1
    have pij1 := pe.ij
    have pai1 := pe.ai
    have psz := pe.sz
    have pbs := pe.bs
    have snn := unhide SN
    by_cases hle1 : i1 ≤ j01
    · have g11 : decide ((i1 : Int) ≤ (j01 : Int)) = true := decide_eq_true (by omega)
      have b11 : (0 : Int) ≤ (i1 : Int) := by omega
      have b21 : (i1 : Int) < (sz : Int) := by omega
      have c0 := (unhide RI1).cell (i := a) (by omega)
      have c1 := (unhide RI1).cell (i := i1) (by omega)
      rw [pe.pa] at c0
      have HUP := hide (fun hq => pe.up hle1 hq)
      clear pe psz pbs snn
      generalize hx : dk1[i1]! = x1 at c1
      have HXX1 := hide hx
      clear hx
      cases hl : ltInt x1 p with
      | true =>
        have HLS := hide (fun w => less_any x1 p w)
        rw [hl] at HLS
        have PU := hide (unhide HUP (by rw [unhide HXX1, unhide HQ, hl]; rfl))
        clear hl
        go_wp2
        go_quiet ((go_at_call 43; exact (unhide HLS _).mono fun e w' h => ⟨h.1, _, h.2⟩))
        go_wp2
        go_roundw
        case rel => exact ⟨i1 + 1, by go_num, by omega, by omega, (unhide RI1).drewN _, PU⟩
        case measure => simp [intOf]; omega
      | false =>
        have HLS := hide (fun w => less_any x1 p w)
        rw [hl] at HLS
        have QT1 : Hid (q dk1[i1]! = true) := by show q dk1[i1]! = true; rw [unhide HXX1, unhide HQ, hl]; rfl
        clear hl HUP
        go_wp2
        go_quiet ((go_at_call 43; exact (unhide HLS _).mono fun e w' h => ⟨h.1, _, h.2⟩))
        clear HLS c0 c1
        go_wp2
        go_loopw [11] (fun y ws => ∃ (j : Nat), y = .int .i64 j ∧ j ≤ j01 ∧ Hid (Rw w0 blk off dk1 ws) ∧ Hid (Pe q p a b d i1 j dk1)) (fun y _ => (intOf y + 1).toNat)
        case atStart => exact ⟨j01, by first | rfl | (congr 1; omega), Nat.le_refl _, (unhide RI1).drewN _, PI1⟩
        case round =>
          obtain ⟨j1, rfl, hj01, RJ1, PJ1⟩ := hrel
          have pe := unhide PJ1
          have pij21 := pe.ij
          have psz := pe.sz
          have pbs := pe.bs
          have snn := unhide SN
          have b51 : IntKind.i64.wrap ((j1 : Int) - 1) = (j1 : Int) - 1 := by rw [IntKind.wrap_i64]; omega
          by_cases hle21 : i1 ≤ j1
          · have g21 : decide ((i1 : Int) ≤ (j1 : Int)) = true := decide_eq_true (by omega)
            have g31 : ¬ (j1 : Int) < (i1 : Int) := by omega
            have b31 : (0 : Int) ≤ (j1 : Int) := by omega
            have b41 : (j1 : Int) < (sz : Int) := by omega
            have c0 := (unhide RJ1).cell (i := a) (by omega)
            have c1 := (unhide RJ1).cell (i := i1) (by omega)
            have c2 := (unhide RJ1).cell (i := j1) (by omega)
            have f1 := (unhide RJ1).fro (i := i1) (by omega)
            have f2 := (unhide RJ1).fro (i := j1) (by omega)
            rw [pe.pa] at c0
            have HDN := hide (fun hq => pe.down hle21 hq)
            have HTN := hide (fun h hq => pe.turn h (unhide QT1) hq)
            have HSW1 := hide (fun n x y => ((unhide RJ1).drewN n).swap (i := i1) (j := j1) (by omega) (by omega) (x := x) (y := y))
            clear pe psz pbs snn
            rw [unhide HXX1] at c1
            generalize hy : dk1[j1]! = y1 at c2
            have HYY1 := hide hy
            clear hy
            cases hl : ltInt y1 p with
            | false =>
              have HLS := hide (fun w => less_any y1 p w)
              rw [hl] at HLS
              have PD := hide (unhide HDN (by rw [unhide HYY1, unhide HQ, hl]; rfl))
              clear hl f1 f2 g31 c1
              go_wp2
              go_quiet ((go_at_call 43; exact (unhide HLS _).mono fun e w' h => ⟨h.1, _, h.2⟩))
              go_wp2
              go_roundw
              case rel => exact ⟨j1 - 1, by congr 1; omega, by omega, (unhide RJ1).drewN _, PD⟩
              case measure => simp [intOf]
            | true =>
              have HLS := hide (fun w => less_any y1 p w)
              rw [hl] at HLS
              have QF : q dk1[j1]! = false := by rw [unhide HYY1, unhide HQ, hl]; rfl
              have hne1 : i1 < j1 := by
                rcases Nat.lt_or_ge i1 j1 with h | h
                · exact h
                · have : i1 = j1 := by omega
                  subst this
                  have h1 := unhide QT1
                  rw [QF] at h1
                  exact absurd h1 (by decide)
              have hnez1 : (i1 : Int) < (j1 : Int) := by omega
              have hnji1 : ¬ j1 < i1 := by omega
              have PT1 := hide (unhide HTN hne1 QF)
              clear hl QF HDN HTN
              go_wp2
              go_quiet ((go_at_call 43; exact (unhide HLS _).mono fun e w' h => ⟨h.1, _, h.2⟩))
              go_wp2
              go_region
              clear HLS c0 c1 c2 f1 f2
              go_wp2
              go_loopw [10, 11] (fun x y wr => ∃ (i j : Nat) (dk : Array Int), x = .int .i64 i ∧ y = .int .i64 j ∧ Hid (Rw w0 blk off dk wr) ∧ Hid (Pe q p a b d i j dk)) (fun x y _ => (intOf y + 1 - intOf x).toNat)
              case atStart => exact ⟨i1 + 1, j1 - 1, swp dk1 i1 j1, by go_num, by congr 1; omega, unhide HSW1 _ y1 x1 (unhide HYY1).symm (unhide HXX1).symm, PT1⟩
              case round =>
                obtain ⟨i02, j02, dk2, rfl, rfl, RK2, PK2⟩ := hrel
                have hij02 := (unhide PK2).ij
                have hji02 := (unhide PK2).jb
                go_wp2
                go_loopw [10] (fun x ws => ∃ (i : Nat), x = .int .i64 i ∧ i02 ≤ i ∧ i ≤ b ∧ Hid (Rw w0 blk off dk2 ws) ∧ Hid (Pe q p a b d i j02 dk2)) (fun x _ => (60001 - intOf x).toNat)
                case atStart => exact ⟨i02, by go_num, Nat.le_refl _, by omega, RK2, PK2⟩
                case round =>
                  obtain ⟨i2, rfl, h0i2, hib2, RI2, PI2⟩ := hrel
                  have pe := unhide PI2
                  have pij2 := pe.ij
                  have pai2 := pe.ai
                  have psz := pe.sz
                  have pbs := pe.bs
                  have snn := unhide SN
                  by_cases hle2 : i2 ≤ j02
                  · have g12 : decide ((i2 : Int) ≤ (j02 : Int)) = true := decide_eq_true (by omega)
                    have b12 : (0 : Int) ≤ (i2 : Int) := by omega
                    have b22 : (i2 : Int) < (sz : Int) := by omega
                    have c0 := (unhide RI2).cell (i := a) (by omega)
                    have c1 := (unhide RI2).cell (i := i2) (by omega)
                    rw [pe.pa] at c0
                    have HUP := hide (fun hq => pe.up hle2 hq)
                    clear pe psz pbs snn
                    generalize hx : dk2[i2]! = x2 at c1
                    have HXX2 := hide hx
                    clear hx
                    cases hl : ltInt x2 p with
                    | true =>
                      have HLS := hide (fun w => less_any x2 p w)
                      rw [hl] at HLS
                      have PU := hide (unhide HUP (by rw [unhide HXX2, unhide HQ, hl]; rfl))
                      clear hl
                      go_wp2
                      go_quiet ((go_at_call 43; exact (unhide HLS _).mono fun e w' h => ⟨h.1, _, h.2⟩))
                      go_wp2
                      go_roundw
                      case rel => exact ⟨i2 + 1, by go_num, by omega, by omega, (unhide RI2).drewN _, PU⟩
                      case measure => simp [intOf]; omega
                    | false =>
                      have HLS := hide (fun w => less_any x2 p w)
                      rw [hl] at HLS
                      have QT2 : Hid (q dk2[i2]! = true) := by show q dk2[i2]! = true; rw [unhide HXX2, unhide HQ, hl]; rfl
                      clear hl HUP
                      go_wp2
                      go_quiet ((go_at_call 43; exact (unhide HLS _).mono fun e w' h => ⟨h.1, _, h.2⟩))
                      clear HLS c0 c1
                      go_wp2
                      go_loopw [11] (fun y ws => ∃ (j : Nat), y = .int .i64 j ∧ j ≤ j02 ∧ Hid (Rw w0 blk off dk2 ws) ∧ Hid (Pe q p a b d i2 j dk2)) (fun y _ => (intOf y + 1).toNat)
                      case atStart => exact ⟨j02, by first | rfl | (congr 1; omega), Nat.le_refl _, (unhide RI2).drewN _, PI2⟩
                      case round =>
                        obtain ⟨j2, rfl, hj02, RJ2, PJ2⟩ := hrel
                        have pe := unhide PJ2
                        have pij22 := pe.ij
                        have psz := pe.sz
                        have pbs := pe.bs
                        have snn := unhide SN
                        have b52 : IntKind.i64.wrap ((j2 : Int) - 1) = (j2 : Int) - 1 := by rw [IntKind.wrap_i64]; omega
                        by_cases hle22 : i2 ≤ j2
                        · have g22 : decide ((i2 : Int) ≤ (j2 : Int)) = true := decide_eq_true (by omega)
                          have g32 : ¬ (j2 : Int) < (i2 : Int) := by omega
                          have b32 : (0 : Int) ≤ (j2 : Int) := by omega
                          have b42 : (j2 : Int) < (sz : Int) := by omega
                          have c0 := (unhide RJ2).cell (i := a) (by omega)
                          have c1 := (unhide RJ2).cell (i := i2) (by omega)
                          have c2 := (unhide RJ2).cell (i := j2) (by omega)
                          have f1 := (unhide RJ2).fro (i := i2) (by omega)
                          have f2 := (unhide RJ2).fro (i := j2) (by omega)
                          rw [pe.pa] at c0
                          have HDN := hide (fun hq => pe.down hle22 hq)
                          have HTN := hide (fun h hq => pe.turn h (unhide QT2) hq)
                          have HSW2 := hide (fun n x y => ((unhide RJ2).drewN n).swap (i := i2) (j := j2) (by omega) (by omega) (x := x) (y := y))
                          clear pe psz pbs snn
                          rw [unhide HXX2] at c1
                          generalize hy : dk2[j2]! = y2 at c2
                          have HYY2 := hide hy
                          clear hy
                          cases hl : ltInt y2 p with
                          | false =>
                            have HLS := hide (fun w => less_any y2 p w)
                            rw [hl] at HLS
                            have PD := hide (unhide HDN (by rw [unhide HYY2, unhide HQ, hl]; rfl))
                            clear hl f1 f2 g32 c1
                            go_wp2
                            go_quiet ((go_at_call 43; exact (unhide HLS _).mono fun e w' h => ⟨h.1, _, h.2⟩))
                            go_wp2
                            go_roundw
                            case rel => exact ⟨j2 - 1, by congr 1; omega, by omega, (unhide RJ2).drewN _, PD⟩
                            case measure => simp [intOf]
                          | true =>
                            have HLS := hide (fun w => less_any y2 p w)
                            rw [hl] at HLS
                            have QF : q dk2[j2]! = false := by rw [unhide HYY2, unhide HQ, hl]; rfl
                            have hne2 : i2 < j2 := by
                              rcases Nat.lt_or_ge i2 j2 with h | h
                              · exact h
                              · have : i2 = j2 := by omega
                                subst this
                                have h1 := unhide QT2
                                rw [QF] at h1
                                exact absurd h1 (by decide)
                            have hnez2 : (i2 : Int) < (j2 : Int) := by omega
                            have hnji2 : ¬ j2 < i2 := by omega
                            have PT2 := hide (unhide HTN hne2 QF)
                            clear hl QF HDN HTN
                            go_wp2
                            go_quiet ((go_at_call 43; exact (unhide HLS _).mono fun e w' h => ⟨h.1, _, h.2⟩))
                            go_wp2
                            go_region
                            clear HLS c0 c1 c2 f1 f2
                            go_wp2
                            go_roundw
                            case rel => exact ⟨i2 + 1, j2 - 1, swp dk2 i2 j2, by go_num, by congr 1; omega, unhide HSW2 _ y2 x2 (unhide HYY2).symm (unhide HXX2).symm, PT2⟩
                            case measure => simp [intOf]; omega
                        · have g2 : decide ((i2 : Int) ≤ (j2 : Int)) = false := decide_eq_false (by omega)
                          have g3 : (j2 : Int) < (i2 : Int) := by omega
                          clear pe psz pbs snn
                          have pe := unhide PJ2
                          have pij9 := pe.ij
                          have pai9 := pe.ai
                          have psz := pe.sz
                          have pbs := pe.bs
                          have pjb := pe.jb
                          have snn := unhide SN
                          have c0 := (unhide RJ2).cell (i := a) (by omega)
                          have c2 := (unhide RJ2).cell (i := j2) (by omega)
                          have f1 := (unhide RJ2).fro (i := a) (by omega)
                          have f2 := (unhide RJ2).fro (i := j2) (by omega)
                          have b3 : (0 : Int) ≤ (j2 : Int) := by omega
                          have b4 : (j2 : Int) < (sz : Int) := by omega
                          rw [pe.pa] at c0
                          have HSW9 := hide (fun n x y => ((unhide RJ2).drewN n).swap (i := j2) (j := a) (by omega) (by omega) (x := x) (y := y))
                          have HPA := hide pe.pa
                          have PF : Hid (Pe q p a b d (j2 + 1) j2 dk2) := by
                            have h := pe
                            rw [show i2 = j2 + 1 by omega] at h
                            exact h
                          clear pe psz pbs snn pjb
                          generalize hy9 : dk2[j2]! = y9 at c2
                          have HY9 := hide hy9
                          clear hy9
                          obtain ⟨vv, hvv⟩ : ∃ v, ∀ n, ((wr.drewN n).setCell ⟨blk, off + j2, none⟩ (.int .i32 p)).cell? ⟨blk, off + a, none⟩ = some v := by
                            obtain ⟨v, hv⟩ := Rw.some_set c2 c0 (.int .i32 p)
                            exact ⟨v, fun _ => hv⟩
                          go_wp2
                          go_quiet (fail)
                          go_wp2
                          go_region
                          go_wp2
                          go_ret2
                          exact ⟨j2, _, false, rfl, unhide HSW9 _ p y9 (unhide HPA).symm (unhide HY9).symm, dk2, unhide PF, rfl⟩
                  · have g1 : decide ((i2 : Int) ≤ (j02 : Int)) = false := decide_eq_false (by omega)
                    have g3 : (j02 : Int) < (i2 : Int) := by omega
                    clear pe psz pbs snn
                    have pe := unhide PI2
                    have pij9 := pe.ij
                    have pai9 := pe.ai
                    have psz := pe.sz
                    have pbs := pe.bs
                    have pjb := pe.jb
                    have snn := unhide SN
                    have c0 := (unhide RI2).cell (i := a) (by omega)
                    have c2 := (unhide RI2).cell (i := j02) (by omega)
                    have f1 := (unhide RI2).fro (i := a) (by omega)
                    have f2 := (unhide RI2).fro (i := j02) (by omega)
                    have b3 : (0 : Int) ≤ (j02 : Int) := by omega
                    have b4 : (j02 : Int) < (sz : Int) := by omega
                    rw [pe.pa] at c0
                    have HSW9 := hide (fun n x y => ((unhide RI2).drewN n).swap (i := j02) (j := a) (by omega) (by omega) (x := x) (y := y))
                    have HPA := hide pe.pa
                    have PF : Hid (Pe q p a b d (j02 + 1) j02 dk2) := by
                      have h := pe
                      rw [show i2 = j02 + 1 by omega] at h
                      exact h
                    clear pe psz pbs snn pjb
                    generalize hy9 : dk2[j02]! = y9 at c2
                    have HY9 := hide hy9
                    clear hy9
                    obtain ⟨vv, hvv⟩ : ∃ v, ∀ n, ((wr.drewN n).setCell ⟨blk, off + j02, none⟩ (.int .i32 p)).cell? ⟨blk, off + a, none⟩ = some v := by
                      obtain ⟨v, hv⟩ := Rw.some_set c2 c0 (.int .i32 p)
                      exact ⟨v, fun _ => hv⟩
                    go_wp2
                    go_quiet (fail)
                    go_wp2
                    refine wp_loop_rounds 1 ?_
                    rw [rounds_succ]
                    go_wp2
                    go_quiet (fail)
                    go_wp2
                    go_region
                    go_wp2
                    go_ret2
                    exact ⟨j02, _, false, rfl, unhide HSW9 _ p y9 (unhide HPA).symm (unhide HY9).symm, dk2, unhide PF, rfl⟩
          · have g2 : decide ((i1 : Int) ≤ (j1 : Int)) = false := decide_eq_false (by omega)
            have g3 : (j1 : Int) < (i1 : Int) := by omega
            clear pe psz pbs snn
            have pe := unhide PJ1
            have pij9 := pe.ij
            have pai9 := pe.ai
            have psz := pe.sz
            have pbs := pe.bs
            have pjb := pe.jb
            have snn := unhide SN
            have c0 := (unhide RJ1).cell (i := a) (by omega)
            have c2 := (unhide RJ1).cell (i := j1) (by omega)
            have f1 := (unhide RJ1).fro (i := a) (by omega)
            have f2 := (unhide RJ1).fro (i := j1) (by omega)
            have b3 : (0 : Int) ≤ (j1 : Int) := by omega
            have b4 : (j1 : Int) < (sz : Int) := by omega
            rw [pe.pa] at c0
            have HSW9 := hide (fun n x y => ((unhide RJ1).drewN n).swap (i := j1) (j := a) (by omega) (by omega) (x := x) (y := y))
            have HPA := hide pe.pa
            have PF : Hid (Pe q p a b d (j1 + 1) j1 dk1) := by
              have h := pe
              rw [show i1 = j1 + 1 by omega] at h
              exact h
            clear pe psz pbs snn pjb
            generalize hy9 : dk1[j1]! = y9 at c2
            have HY9 := hide hy9
            clear hy9
            obtain ⟨vv, hvv⟩ : ∃ v, ∀ n, ((wr.drewN n).setCell ⟨blk, off + j1, none⟩ (.int .i32 p)).cell? ⟨blk, off + a, none⟩ = some v := by
              obtain ⟨v, hv⟩ := Rw.some_set c2 c0 (.int .i32 p)
              exact ⟨v, fun _ => hv⟩
            go_wp2
            go_quiet (fail)
            go_wp2
            go_region
            go_wp2
            go_ret2
            exact ⟨j1, _, true, rfl, unhide HSW9 _ p y9 (unhide HPA).symm (unhide HY9).symm, dk1, unhide PF, rfl⟩
    · have g1 : decide ((i1 : Int) ≤ (j01 : Int)) = false := decide_eq_false (by omega)
      have g3 : (j01 : Int) < (i1 : Int) := by omega
      clear pe psz pbs snn
      have pe := unhide PI1
      have pij9 := pe.ij
      have pai9 := pe.ai
      have psz := pe.sz
      have pbs := pe.bs
      have pjb := pe.jb
      have snn := unhide SN
      have c0 := (unhide RI1).cell (i := a) (by omega)
      have c2 := (unhide RI1).cell (i := j01) (by omega)
      have f1 := (unhide RI1).fro (i := a) (by omega)
      have f2 := (unhide RI1).fro (i := j01) (by omega)
      have b3 : (0 : Int) ≤ (j01 : Int) := by omega
      have b4 : (j01 : Int) < (sz : Int) := by omega
      rw [pe.pa] at c0
      have HSW9 := hide (fun n x y => ((unhide RI1).drewN n).swap (i := j01) (j := a) (by omega) (by omega) (x := x) (y := y))
      have HPA := hide pe.pa
      have PF : Hid (Pe q p a b d (j01 + 1) j01 dk1) := by
        have h := pe
        rw [show i1 = j01 + 1 by omega] at h
        exact h
      clear pe psz pbs snn pjb
      generalize hy9 : dk1[j01]! = y9 at c2
      have HY9 := hide hy9
      clear hy9
      obtain ⟨vv, hvv⟩ : ∃ v, ∀ n, ((wr.drewN n).setCell ⟨blk, off + j01, none⟩ (.int .i32 p)).cell? ⟨blk, off + a, none⟩ = some v := by
        obtain ⟨v, hv⟩ := Rw.some_set c2 c0 (.int .i32 p)
        exact ⟨v, fun _ => hv⟩
      go_wp2
      go_quiet (fail)
      go_wp2
      refine wp_loop_rounds 1 ?_
      rw [rounds_succ]
      go_wp2
      go_quiet (fail)
      go_wp2
      go_region
      go_wp2
      go_ret2
      exact ⟨j01, _, true, rfl, unhide HSW9 _ p y9 (unhide HPA).symm (unhide HY9).symm, dk1, unhide PF, rfl⟩
end Go.Proofs.Ytnlkefdicpeemaa
