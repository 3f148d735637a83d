/- The document's Kind, Is and Class. -/
import Derived.Test.YtdlbdfndnjdeeaaAsc
import Derived.Test.YtdlbdfndnjdeeaaCls
namespace Go.Proofs.Ytdlbdfndnjdeeaa
open Go.RowKit

theorem rowsT_len : rowsT.length = 106 := by kernel_rfl

set_option maxHeartbeats 1600000 in
theorem rkind_ascii (r : Int) (h0 : 0 ≤ r) (h1 : r < 128) (w : World) : Calls Try.prog 39 #[.int .i32 r] w fun e w' => e = .returned (.int .i64 (kd r)) ∧ Below w.heap.size w w' := by
  have HA := hide (ascii_any r h0 h1)
  rw [← asc_kd r h0 h1]
  generalize asc r = q at *
  go_enter Try.func39, Try.ntmps39
  go_wp2_with (go_at_call 47; refine (unhide HA _).mono ?_; rintro e w1 ⟨rfl, hg1⟩)
  go_ret
  exact ⟨rfl, hg1.below⟩

set_option maxHeartbeats 1600000 in
theorem rkind_rows (r : Int) (h : r < 0 ∨ 128 ≤ r) (w : World) : Calls Try.prog 39 #[.int .i32 r] w fun e w' => e = .returned (.int .i64 (kd r)) ∧ Below w.heap.size w w' := by
  have main : ∀ b1 b2 : Bool, decide (0 ≤ r) = b1 → decide (r < 128) = b2 → (b1 && b2) = false → Calls Try.prog 39 #[.int .i32 r] w fun e w' => e = .returned (.int .i64 (kd r)) ∧ Below w.heap.size w w' := by
    intro b1 b2 hb1 hb2 hb
    have HR := hide (rows_tab w)
    have HL := hide rowsT_len
    unfold kd
    generalize rowsT = T at *
    have HX : Hid (Calls Try.prog 39 #[.int .i32 r] w fun e w' => e = .returned (.int .i64 (fnd T r)) ∧ Below w.heap.size w w') := by
      cases b1
      · have q1 : ¬ 0 ≤ r := of_decide_eq_false hb1
        clear hb1 hb2 hb
        show Calls Try.prog 39 _ _ _
        go_enter Try.func39, Try.ntmps39
        go_wp2_with (go_at_call 48; refine (unhide HR).mono ?_; rintro e w1 ⟨g, cap, rfl, HC, hb1⟩)
        go_loopw [4] (fun i wr => ∃ k : Nat, k ≤ 106 ∧ i = .int .i64 k ∧ Gr w1 wr ∧ Hid (∀ j, j < k → inS (T.getD j sp0) r = false)) (fun i _ => 106 - (intOf i).toNat)
        case atStart => exact ⟨0, Nat.zero_le _, rfl, Gr.refl _, hide (fun j hj => by omega)⟩
        case round =>
          obtain ⟨k, hk, rfl, hg, HE⟩ := hrel
          by_cases hlt : k < 106
          · have hzl : (k : Int) < 106 := by omega
            have hz0 : (0 : Int) ≤ (k : Int) := by omega
            obtain ⟨g1, g2, g3⟩ := unhide HC k hlt
            replace g1 := hg.cell g1
            replace g2 := hg.cell g2
            replace g3 := hg.cell g3
            have hin : inS (T.getD k sp0) r = true → Hid (fnd T r = (T.getD k sp0).h) := fun h => fnd_at T r k (by rw [unhide HL]; exact hlt) (unhide HE) h
            have hout : inS (T.getD k sp0) r = false → Hid (∀ j, j < k + 1 → inS (T.getD j sp0) r = false) := fun h => by
              show ∀ j, j < k + 1 → inS (T.getD j sp0) r = false
              intro j hj
              rcases Nat.lt_succ_iff_lt_or_eq.1 hj with h1 | rfl
              · exact unhide HE j h1
              · exact h
            generalize T.getD k sp0 = s at *
            obtain ⟨f, t, h⟩ := s
            dsimp only at g1 g2 g3 hin
            by_cases p1 : f ≤ r
            · by_cases p2 : r ≤ t
              · have HO := hin (by rw [inS_iff]; exact ⟨p1, p2⟩)
                clear hin hout
                go_wp2
                go_ret
                exact ⟨ret_int (unhide HO).symm, hb1.trans (hg.below.mono hb1.size)⟩
              · have HO := hout (by rw [inS_not]; intro h9; exact p2 h9.2)
                clear hin hout
                go_wp2
                go_roundw
                case rel => exact ⟨k + 1, by omega, by go_num, hg, HO⟩
                case measure => simp [intOf]; omega
            · have HO := hout (by rw [inS_not]; intro h9; exact p1 h9.1)
              clear hin hout
              go_wp2
              go_roundw
              case rel => exact ⟨k + 1, by omega, by go_num, hg, HO⟩
              case measure => simp [intOf]; omega
          · have hzl : ¬ (k : Int) < 106 := by omega
            have HB : Hid (fnd T r = 0) := fnd_none T r (fun i hi => unhide HE i (by rw [unhide HL] at hi; omega))
            go_wp2
            go_ret
            exact ⟨ret_int (unhide HB).symm, hb1.trans (hg.below.mono hb1.size)⟩
      · cases b2
        · have q1 : 0 ≤ r := of_decide_eq_true hb1
          have q2 : ¬ r < 128 := of_decide_eq_false hb2
          clear hb1 hb2 hb
          show Calls Try.prog 39 _ _ _
          go_enter Try.func39, Try.ntmps39
          go_wp2_with (go_at_call 48; refine (unhide HR).mono ?_; rintro e w1 ⟨g, cap, rfl, HC, hb1⟩)
          go_loopw [4] (fun i wr => ∃ k : Nat, k ≤ 106 ∧ i = .int .i64 k ∧ Gr w1 wr ∧ Hid (∀ j, j < k → inS (T.getD j sp0) r = false)) (fun i _ => 106 - (intOf i).toNat)
          case atStart => exact ⟨0, Nat.zero_le _, rfl, Gr.refl _, hide (fun j hj => by omega)⟩
          case round =>
            obtain ⟨k, hk, rfl, hg, HE⟩ := hrel
            by_cases hlt : k < 106
            · have hzl : (k : Int) < 106 := by omega
              have hz0 : (0 : Int) ≤ (k : Int) := by omega
              obtain ⟨g1, g2, g3⟩ := unhide HC k hlt
              replace g1 := hg.cell g1
              replace g2 := hg.cell g2
              replace g3 := hg.cell g3
              have hin : inS (T.getD k sp0) r = true → Hid (fnd T r = (T.getD k sp0).h) := fun h => fnd_at T r k (by rw [unhide HL]; exact hlt) (unhide HE) h
              have hout : inS (T.getD k sp0) r = false → Hid (∀ j, j < k + 1 → inS (T.getD j sp0) r = false) := fun h => by
                show ∀ j, j < k + 1 → inS (T.getD j sp0) r = false
                intro j hj
                rcases Nat.lt_succ_iff_lt_or_eq.1 hj with h1 | rfl
                · exact unhide HE j h1
                · exact h
              generalize T.getD k sp0 = s at *
              obtain ⟨f, t, h⟩ := s
              dsimp only at g1 g2 g3 hin
              by_cases p1 : f ≤ r
              · by_cases p2 : r ≤ t
                · have HO := hin (by rw [inS_iff]; exact ⟨p1, p2⟩)
                  clear hin hout
                  go_wp2
                  go_ret
                  exact ⟨ret_int (unhide HO).symm, hb1.trans (hg.below.mono hb1.size)⟩
                · have HO := hout (by rw [inS_not]; intro h9; exact p2 h9.2)
                  clear hin hout
                  go_wp2
                  go_roundw
                  case rel => exact ⟨k + 1, by omega, by go_num, hg, HO⟩
                  case measure => simp [intOf]; omega
              · have HO := hout (by rw [inS_not]; intro h9; exact p1 h9.1)
                clear hin hout
                go_wp2
                go_roundw
                case rel => exact ⟨k + 1, by omega, by go_num, hg, HO⟩
                case measure => simp [intOf]; omega
            · have hzl : ¬ (k : Int) < 106 := by omega
              have HB : Hid (fnd T r = 0) := fnd_none T r (fun i hi => unhide HE i (by rw [unhide HL] at hi; omega))
              go_wp2
              go_ret
              exact ⟨ret_int (unhide HB).symm, hb1.trans (hg.below.mono hb1.size)⟩
        · cases hb
    exact unhide HX
  refine main _ _ rfl rfl ?_
  rcases h with h | h
  · rw [decide_eq_false (show ¬ 0 ≤ r by omega)]; rfl
  · rw [decide_eq_false (show ¬ r < 128 by omega)]; exact Bool.and_false _

/-- The document's Kind, of any number. -/
theorem rkind_any (r : Int) (w : World) : Calls Try.prog 39 #[.int .i32 r] w fun e w' => e = .returned (.int .i64 (kd r)) ∧ Below w.heap.size w w' := by
  by_cases h0 : 0 ≤ r
  · by_cases h1 : r < 128
    · exact rkind_ascii r h0 h1 w
    · exact rkind_rows r (.inr (by omega)) w
  · exact rkind_rows r (.inl (by omega)) w

theorem Ints.below {w w2 : World} {v : Value} {l : List Int} (h : Ints w v l) (hb : Below w.heap.size w w2) : Ints w2 v l := by
  obtain ⟨a, cap, rfl, hc⟩ := h
  refine ⟨a, cap, rfl, fun i => ?_⟩
  obtain ⟨b, off, rfl, hcc⟩ := hc i
  exact ⟨b, off, rfl, fun j hj => (hb.cell (p := ⟨b, off + j, none⟩) (cell_lt (hcc j hj))).trans (hcc j hj)⟩



end Go.Proofs.Ytdlbdfndnjdeeaa
