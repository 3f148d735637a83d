/- The law SpanLast. -/
import Derived.Test.YtnlkefdicpeemaaBuildAll
import Derived.Test.YtnlkefdicpeemaaFind
namespace Go.Proofs.Ytnlkefdicpeemaa
open Go.RowKit

theorem below_gr2 {w a b : World} (h : Below w.heap.size w a) (g : Gr a b) : Below w.heap.size w b := h.trans (g.below.mono h.size)
theorem below_on2 {w a b : World} (h : Below w.heap.size w a) (g : Below a.heap.size a b) : Below w.heap.size w b := h.trans (g.mono h.size)

set_option maxHeartbeats 3200000 in
theorem last_law (v : Value) (l : List Sp) (r : Int) (w : World) (hT : Tab w v l) :
    Calls Try.prog 5 #[v, .int .i32 r] w fun e w' => e = .returned (.bool true) ∧ Below w.heap.size w w' := by
  have HA := hide awake_any
  by_cases h7 : 700 < l.length
  · obtain ⟨a, c, rfl, -⟩ := hT
    have hz : (700 : Int) < (l.length : Int) := by omega
    go_enter Try.func5, Try.ntmps5
    go_wp2_with (go_at_call 8; refine (unhide HA _).mono ?_; rintro e w7 ⟨rfl, hb7⟩)
    go_ret
    exact ⟨rfl, hb7⟩
  · have hz : ¬ (700 : Int) < (l.length : Int) := by omega
    by_cases hno : 200 < l.length ∨ allMay l = false
    · have HB := hide (build_no v l w hT hno)
      obtain ⟨a, c, rfl, -⟩ := hT
      go_enter Try.func5, Try.ntmps5
      go_wp2_with (first
        | (go_at_call 15; refine (unhide HB).mono ?_; rintro e w1 ⟨rfl, g1⟩)
        | (go_at_call 8; refine (unhide HA _).mono ?_; rintro e w7 ⟨rfl, hb7⟩))
      go_ret
      exact ⟨rfl, below_on2 g1.below hb7⟩
    · have hl : l.length ≤ 200 := by omega
      have hm : allMay l = true := by
        cases h : allMay l with
        | true => rfl
        | false => exact absurd (.inr h) hno
      have HB := hide (build_all v l w hT hl hm)
      clear hno hm
      obtain ⟨a, c, rfl, hc⟩ := hT
      have HC := hide hc
      clear hc
      go_enter Try.func5, Try.ntmps5
      go_wp2_with (go_at_call 15; refine (unhide HB).mono ?_; rintro e w1 ⟨u, t, rfl, HT, HU, hb1⟩)
      go_loopw [7, 8] (fun x y wr => ∃ k : Nat, k ≤ l.length ∧ x = .int .i64 (lastV (l.take k) r) ∧ y = .int .i64 (k : Int) ∧ Gr w1 wr) (fun _ y _ => l.length - (intOf y).toNat)
      case atStart => exact ⟨0, Nat.zero_le _, by simp [lastV], rfl, Gr.refl _⟩
      case round =>
        obtain ⟨k, hk, rfl, rfl, hg⟩ := hrel
        by_cases hlt : k < l.length
        · obtain ⟨b, o, rfl, hcc⟩ := unhide HC (by omega)
          have hzl : (k : Int) < (l.length : Int) := by omega
          have hz0 : (0 : Int) ≤ (k : Int) := by omega
          obtain ⟨g1, g2, g3⟩ := hcc k hlt
          replace g1 := hg.cell ((hb1.cell (p := ⟨b, o + k * 3, none⟩) (cell_lt g1)).trans g1)
          replace g2 := hg.cell ((hb1.cell (p := ⟨b, o + k * 3 + 1, none⟩) (cell_lt g2)).trans g2)
          replace g3 := hg.cell ((hb1.cell (p := ⟨b, o + k * 3 + 2, none⟩) (cell_lt g3)).trans g3)
          have hnx := lastV_take l r k hlt
          clear hcc
          generalize l.getD k sp0 = s at *
          obtain ⟨f, t9, h⟩ := s
          dsimp only at g1 g2 g3 hnx
          generalize lastV (l.take k) r = q at *
          have HNX := hide hnx
          clear hnx
          by_cases p1 : f ≤ r
          · by_cases p2 : r ≤ t9
            · have HQ : Hid (lastV (l.take (k + 1)) r = h) := by show _ = _; rw [unhide HNX, if_pos ((inS_iff _ _).2 ⟨p1, p2⟩)]
              go_wp2
              go_roundw
              case rel => exact ⟨k + 1, by omega, by rw [unhide HQ], by go_num, hg⟩
              case measure => simp [intOf]; omega
            · have HQ : Hid (lastV (l.take (k + 1)) r = q) := by show _ = _; rw [unhide HNX, if_neg (fun h9 => p2 ((inS_iff _ _).1 h9).2)]
              go_wp2
              go_roundw
              case rel => exact ⟨k + 1, by omega, by rw [unhide HQ], by go_num, hg⟩
              case measure => simp [intOf]; omega
          · have HQ : Hid (lastV (l.take (k + 1)) r = q) := by show _ = _; rw [unhide HNX, if_neg (fun h9 => p1 ((inS_iff _ _).1 h9).1)]
            go_wp2
            go_roundw
            case rel => exact ⟨k + 1, by omega, by rw [unhide HQ], by go_num, hg⟩
            case measure => simp [intOf]; omega
        · have hzl : ¬ (k : Int) < (l.length : Int) := by omega
          obtain rfl : k = l.length := by omega
          obtain ⟨q1, q2, q3⟩ := unhide HT
          have H1 : Hid (∀ W, Gr w1 W → Calls Try.prog 9 #[u] W fun e w' => e = .returned (.int .i64 0) ∧ Gr W w') := fun W hW => by
            have := check_any u t W (hW.tab (unhide HU))
            rwa [tb_chk q1 q2] at this
          have H2 : Hid (∀ W, Gr w1 W → Calls Try.prog 11 #[u, .int .i32 r] W fun e w' => e = .returned (.int .i64 (lastV l r)) ∧ Gr W w') := fun W hW => by
            have := find_any u t r W (hW.tab (unhide HU))
            rwa [fndT_yes (tb_chk q1 q2), q3] at this
          rw [List.take_length]
          clear q1 q2 q3 HT
          generalize lastV l r = q at *
          have hb := below_gr2 hb1 hg
          go_wp2_with (first
            | (go_at_call 9; refine (unhide H1 _ hg).mono ?_; rintro e w2 ⟨rfl, g2⟩; replace hb := below_gr2 hb g2; replace g2 := hg.trans g2)
            | (go_at_call 11; refine (unhide H2 _ g2).mono ?_; rintro e w3 ⟨rfl, g3⟩; replace hb := below_gr2 hb g3)
            | (go_at_call 8; refine (unhide HA _).mono ?_; rintro e w7 ⟨rfl, hb7⟩; replace hb := below_on2 hb hb7))
          go_ret
          exact ⟨rfl, hb⟩
end Go.Proofs.Ytnlkefdicpeemaa
