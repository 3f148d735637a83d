/- The document's next and Last. -/
import Derived.Test.YtnlkefdicpeemaaLawLeast
namespace Go.Proofs.Ytnlkefdicpeemaa
open Go.RowKit

/-- A number behind r, and no edge of the first k spans lies between. -/
structure Nx (l : List Sp) (r : Int) (k : Nat) (b : Int) : Prop where
  lo : r < b
  hi : b ≤ 1114112
  no : ∀ j, j < k → ((l.getD j sp0).f ≤ r ∨ b ≤ (l.getD j sp0).f) ∧ ((l.getD j sp0).t + 1 ≤ r ∨ b ≤ (l.getD j sp0).t + 1)
theorem Nx.step {l : List Sp} {r : Int} {k : Nat} {b b' : Int} (h : Nx l r k b) (h1 : r < b') (h2 : b' ≤ b) (hf : (l.getD k sp0).f ≤ r ∨ b' ≤ (l.getD k sp0).f) (ht : (l.getD k sp0).t + 1 ≤ r ∨ b' ≤ (l.getD k sp0).t + 1) : Nx l r (k + 1) b' := by
  refine ⟨h1, Int.le_trans h2 h.hi, fun j hj => ?_⟩
  rcases Nat.lt_succ_iff_lt_or_eq.1 hj with h3 | rfl
  · have := h.no j h3
    omega
  · exact ⟨hf, ht⟩

set_option maxHeartbeats 3200000 in
theorem next_some (l : List Sp) (r : Int) (a : Option Addr) (c : Nat) (w : World) (hl : l.length ≤ 200) (_h0 : 0 ≤ r) (h1 : r < 1114112) (hm : ∀ k, k < l.length → 0 ≤ (l.getD k sp0).f ∧ (l.getD k sp0).f ≤ (l.getD k sp0).t ∧ (l.getD k sp0).t ≤ 1114111)
    (hc : 0 < l.length → ∃ b off, a = some ⟨b, off, none⟩ ∧ ∀ j, j < l.length → w.cell? ⟨b, off + j * 3, none⟩ = some (.int .i32 (l.getD j sp0).f) ∧ w.cell? ⟨b, off + j * 3 + 1, none⟩ = some (.int .i32 (l.getD j sp0).t) ∧ w.cell? ⟨b, off + j * 3 + 2, none⟩ = some (.int .i64 (l.getD j sp0).h)) :
    Calls Try.prog 27 #[.slice a l.length c, .int .i32 r] w fun e w' => ∃ b : Int, e = .returned (.int .i32 b) ∧ Hid (Nx l r l.length b) ∧ Gr w w' := by
  have HC := hide hc
  have HM := hide hm
  clear hc hm
  go_enter Try.func27, Try.ntmps27
  go_wp2
  go_loopw [5, 6] (fun x y wr => ∃ (k : Nat) (b : Int), k ≤ l.length ∧ x = .int .i32 b ∧ y = .int .i64 (k : Int) ∧ Gr w wr ∧ r < b ∧ b ≤ 1114112 ∧ Hid (Nx l r k b)) (fun _ y _ => l.length - (intOf y).toNat)
  case atStart => exact ⟨0, 1114112, Nat.zero_le _, rfl, rfl, Gr.refl _, h1, Int.le_refl _, hide ⟨h1, Int.le_refl _, fun j hj => by omega⟩⟩
  case round =>
    obtain ⟨k, b, hk, rfl, rfl, hg, hb1, hb2, NX⟩ := hrel
    by_cases hlt : k < l.length
    · obtain ⟨bb, o, rfl, hcc⟩ := unhide HC (by omega)
      have hzl : (k : Int) < (l.length : Int) := by omega
      have hz0 : (0 : Int) ≤ (k : Int) := by omega
      obtain ⟨g1, g2, g3⟩ := hcc k hlt
      replace g1 := hg.cell g1
      replace g2 := hg.cell g2
      have hmk := unhide HM k hlt
      have HST := hide (fun b' h1 h2 h3 h4 => (unhide NX).step (b' := b') h1 h2 h3 h4)
      clear hcc g3 NX
      generalize l.getD k sp0 = s at *
      obtain ⟨f, t, h⟩ := s
      dsimp only at g1 g2 hmk HST
      have k1 : IntKind.i32.wrap (t + 1) = t + 1 := by simp [IntKind.wrap, IntKind.bits, IntKind.signed]; omega
      by_cases p1 : r < f
      · by_cases p2 : f < b
        · have p3 : r ≤ t := by omega
          have p4 : ¬ t + 1 < f := by omega
          have HQ := hide (unhide HST f p1 (by omega) (by omega) (by omega))
          clear HST
          go_wp2
          go_roundw
          case rel => exact ⟨k + 1, f, by omega, rfl, by go_num, hg, p1, by omega, HQ⟩
          case measure => simp [intOf]; omega
        · have p3 : r ≤ t := by omega
          have p4 : ¬ t + 1 < b := by omega
          have HQ := hide (unhide HST b hb1 (Int.le_refl _) (by omega) (by omega))
          clear HST
          go_wp2
          go_roundw
          case rel => exact ⟨k + 1, b, by omega, rfl, by go_num, hg, hb1, hb2, HQ⟩
          case measure => simp [intOf]; omega
      · by_cases p3 : r ≤ t
        · by_cases p4 : t + 1 < b
          · have HQ := hide (unhide HST (t + 1) (by omega) (by omega) (by omega) (by omega))
            clear HST
            go_wp2
            go_roundw
            case rel => exact ⟨k + 1, t + 1, by omega, rfl, by go_num, hg, by omega, by omega, HQ⟩
            case measure => simp [intOf]; omega
          · have HQ := hide (unhide HST b hb1 (Int.le_refl _) (by omega) (by omega))
            clear HST
            go_wp2
            go_roundw
            case rel => exact ⟨k + 1, b, by omega, rfl, by go_num, hg, hb1, hb2, HQ⟩
            case measure => simp [intOf]; omega
        · have HQ := hide (unhide HST b hb1 (Int.le_refl _) (by omega) (by omega))
          clear HST
          go_wp2
          go_roundw
          case rel => exact ⟨k + 1, b, by omega, rfl, by go_num, hg, hb1, hb2, HQ⟩
          case measure => simp [intOf]; omega
    · have hzl : ¬ (k : Int) < (l.length : Int) := by omega
      obtain rfl : k = l.length := by omega
      go_wp2
      go_ret
      exact ⟨b, rfl, NX, hg⟩

set_option maxHeartbeats 1600000 in
theorem rlast_some (l : List Sp) (r : Int) (a : Option Addr) (c : Nat) (w : World) (hl : l.length ≤ 200)
    (hc : 0 < l.length → ∃ b off, a = some ⟨b, off, none⟩ ∧ ∀ j, j < l.length → w.cell? ⟨b, off + j * 3, none⟩ = some (.int .i32 (l.getD j sp0).f) ∧ w.cell? ⟨b, off + j * 3 + 1, none⟩ = some (.int .i32 (l.getD j sp0).t) ∧ w.cell? ⟨b, off + j * 3 + 2, none⟩ = some (.int .i64 (l.getD j sp0).h)) :
    Calls Try.prog 28 #[.slice a l.length c, .int .i32 r] w fun e w' => e = .returned (.int .i64 (lastV l r)) ∧ Gr w w' := by
  have HC := hide hc
  clear hc
  have a1 : IntKind.i64.wrap ((l.length : Int) - 1) = (l.length : Int) - 1 := by rw [IntKind.wrap_i64]; omega
  obtain ⟨q, hq⟩ : ∃ q, lastV l r = q := ⟨_, rfl⟩
  rw [hq]
  have HQ := hide hq
  clear hq
  go_enter Try.func28, Try.ntmps28
  go_wp2
  go_loopw [5] (fun y wr => ∃ k : Nat, k ≤ l.length ∧ y = .int .i64 ((k : Int) - 1) ∧ Gr w wr ∧ Hid (lastV (l.take k) r = q)) (fun y _ => (intOf y + 1).toNat)
  case atStart => exact ⟨l.length, Nat.le_refl _, rfl, Gr.refl _, by rw [List.take_length]; exact HQ⟩
  case round =>
    obtain ⟨k, hk, rfl, hg, LK⟩ := hrel
    by_cases hlt : 0 < k
    · obtain ⟨bb, o, rfl, hcc⟩ := unhide HC (by omega)
      obtain ⟨j, hj⟩ : ∃ j, k = j + 1 := ⟨k - 1, by omega⟩
      subst hj
      have e9 : ((j + 1 : Nat) : Int) - 1 = (j : Int) := by omega
      rw [e9]
      have hz0 : (0 : Int) ≤ (j : Int) := by omega
      have hzl : (j : Int) < (l.length : Int) := by omega
      have k2 : IntKind.i64.wrap ((j : Int) - 1) = (j : Int) - 1 := by rw [IntKind.wrap_i64]; omega
      obtain ⟨g1, g2, g3⟩ := hcc j (by omega)
      replace g1 := hg.cell g1
      replace g2 := hg.cell g2
      replace g3 := hg.cell g3
      have hnx := lastV_take l r j (by omega)
      rw [unhide LK] at hnx
      clear hcc LK e9
      generalize l.getD j sp0 = s at *
      obtain ⟨f, t, h⟩ := s
      dsimp only at g1 g2 g3 hnx
      have HNX := hide hnx
      clear hnx
      by_cases p1 : f ≤ r
      · by_cases p2 : r ≤ t
        · have HE : Hid (q = h) := by show q = h; rw [unhide HNX, if_pos ((inS_iff _ _).2 ⟨p1, p2⟩)]
          go_wp2
          go_ret
          exact ⟨ret_int (unhide HE).symm, hg⟩
        · have HE : Hid (lastV (l.take j) r = q) := by show _ = q; rw [unhide HNX, if_neg (fun h9 => p2 ((inS_iff _ _).1 h9).2)]
          go_wp2
          go_roundw
          case rel => exact ⟨j, by omega, rfl, hg, HE⟩
          case measure => simp [intOf]
      · have HE : Hid (lastV (l.take j) r = q) := by show _ = q; rw [unhide HNX, if_neg (fun h9 => p1 ((inS_iff _ _).1 h9).1)]
        go_wp2
        go_roundw
        case rel => exact ⟨j, by omega, rfl, hg, HE⟩
        case measure => simp [intOf]
    · have hz9 : ¬ (0 : Int) ≤ (k : Int) - 1 := by omega
      obtain rfl : k = 0 := by omega
      have HE : Hid (q = 0) := by show q = 0; rw [← unhide LK]; rfl
      go_wp2
      go_ret
      exact ⟨ret_int (unhide HE).symm, hg⟩
end Go.Proofs.Ytnlkefdicpeemaa
