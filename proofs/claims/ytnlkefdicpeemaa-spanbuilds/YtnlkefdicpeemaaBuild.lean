/- Build of any spans. -/
import Derived.Test.YtnlkefdicpeemaaBuild1
namespace Go.Proofs.Ytnlkefdicpeemaa
open Go.RowKit

/-- May all be? -/
def allMay (l : List Sp) : Bool := l.all mayS
theorem allMay_at {l : List Sp} (h : allMay l = true) (k : Nat) (hk : k < l.length) : mayS (l.getD k sp0) = true := List.all_eq_true.1 h _ (getD_mem l k hk)
theorem allMay_bad {l : List Sp} {k : Nat} (hk : k < l.length) (h : mayS (l.getD k sp0) = false) : allMay l = false := by
  cases ha : allMay l with
  | false => rfl
  | true => rw [allMay_at ha k hk] at h; cases h

set_option maxHeartbeats 400000 in
theorem build_long (a : Option Addr) (n c : Nat) (w : World) (hl : 200 < n) :
    Calls Try.prog 15 #[.slice a n c] w fun e w' => e = .returned (.tuple #[.slice none 0 0, .int .i64 20]) ∧ Gr w w' := by
  have hz : (200 : Int) < (n : Int) := by omega
  go_enter Try.func15, Try.ntmps15
  go_wp2
  go_step3
  go_wp2
  try rw [Exit.noGoto_ret]
  go_ret2
  exact ⟨rfl, Gr.refl _⟩

set_option maxHeartbeats 800000 in
theorem build_bad (b o c : Nat) (l : List Sp) (w : World) (hl : l.length ≤ 200) (hm : allMay l = false) (hc : ∀ j, j < l.length →
    w.cell? ⟨b, o + j * 3, none⟩ = some (.int .i32 (l.getD j sp0).f) ∧ w.cell? ⟨b, o + j * 3 + 1, none⟩ = some (.int .i32 (l.getD j sp0).t) ∧ w.cell? ⟨b, o + j * 3 + 2, none⟩ = some (.int .i64 (l.getD j sp0).h)) :
    Calls Try.prog 15 #[.slice (some ⟨b, o, none⟩) l.length c] w fun e w' => e = .returned (.tuple #[.slice none 0 0, .int .i64 20]) ∧ Gr w w' := by
  have HC := hide hc
  have HM := hide hm
  clear hc hm
  have hln : ¬ (200 : Int) < (l.length : Int) := by omega
  go_enter Try.func15, Try.ntmps15
  go_wp2
  go_step3
  go_wp2
  go_loopw [17] (fun x wr => ∃ k : Nat, k ≤ l.length ∧ x = .int .i64 k ∧ Gr w wr ∧ Hid (∀ j, j < k → mayS (l.getD j sp0) = true)) (fun x _ => l.length - (intOf x).toNat)
  case atStart => exact ⟨0, Nat.zero_le _, rfl, Gr.refl _, hide (fun j hj => by omega)⟩
  case round =>
    obtain ⟨k, hk, rfl, hg, HA⟩ := hrel
    by_cases hlt : k < l.length
    · have hzl : (k : Int) < (l.length : Int) := by omega
      have hz0 : (0 : Int) ≤ (k : Int) := by omega
      obtain ⟨g1, g2, g3⟩ := unhide HC k hlt
      replace g1 := hg.cell g1
      replace g2 := hg.cell g2
      replace g3 := hg.cell g3
      have hnx : mayS (l.getD k sp0) = true → Hid (∀ j, j < k + 1 → mayS (l.getD j sp0) = true) := fun he => by
        show ∀ j, j < k + 1 → mayS (l.getD j sp0) = true
        intro j hj
        rcases Nat.lt_succ_iff_lt_or_eq.1 hj with h | rfl
        · exact unhide HA j h
        · exact he
      generalize l.getD k sp0 = s at *
      obtain ⟨f, t, h⟩ := s
      dsimp only at g1 g2 g3
      have hmb := fun w => mayBe_any f t h w
      cases hm : mayS ⟨f, t, h⟩ <;> rw [hm] at hmb
      · have HMB := hide hmb
        clear hmb hm hnx
        go_wp2_with (go_at_call 18; refine (unhide HMB _).mono ?_; rintro e w' ⟨rfl, hg2⟩)
        try rw [Exit.noGoto_ret]
        go_ret2
        exact ⟨rfl, (hg.alloc _).trans hg2⟩
      · have HN := hnx hm
        have HMB := hide hmb
        clear hmb hm hnx
        go_wp2_with (go_at_call 18; refine (unhide HMB _).mono ?_; rintro e w' ⟨rfl, hg2⟩)
        go_roundw
        case rel => exact ⟨k + 1, by omega, by go_num, (hg.alloc _).trans hg2, HN⟩
        case measure => simp [intOf]; omega
    · have hbad : allMay l = true := by
        unfold allMay
        rw [List.all_eq_true]
        intro s hs
        obtain ⟨j, hj, rfl⟩ := mem_getD l s hs
        exact unhide HA j (by omega)
      rw [unhide HM] at hbad
      cases hbad

/-- Build, refused. -/
theorem build_no (v : Value) (l : List Sp) (w : World) (h : Tab w v l) (hno : 200 < l.length ∨ allMay l = false) :
    Calls Try.prog 15 #[v] w fun e w' => e = .returned (.tuple #[.slice none 0 0, .int .i64 20]) ∧ Gr w w' := by
  obtain ⟨a, c, rfl, hc⟩ := h
  by_cases hl : 200 < l.length
  · exact build_long a _ c w hl
  · have hm : allMay l = false := hno.resolve_left hl
    have h0 : 0 < l.length := by
      rcases Nat.eq_zero_or_pos l.length with h0 | h0
      · obtain rfl : l = [] := List.length_eq_zero_iff.1 h0
        cases hm
      · exact h0
    obtain ⟨b, o, rfl, hcc⟩ := hc h0
    exact build_bad b o c l w (by omega) hm hcc

/-- Build, done. -/
theorem build_yes (v : Value) (l : List Sp) (w : World) (h : Tab w v l) (hl : l.length ≤ 200) (hm : allMay l = true) (hsort : SortDoes (edsTo l (2 * l.length)).toArray) :
    Calls Try.prog 15 #[v] w fun e w' => ∃ (u : Value) (es : List Int), e = .returned (.tuple #[u, .int .i64 0]) ∧ es.Pairwise (· < ·) ∧ es.length ≤ 2 * l.length ∧ (∀ x, x ∈ es ↔ ∃ s, s ∈ l ∧ (x = s.f ∨ x = s.t + 1)) ∧ Tab w' u (bldTo l es es.length) ∧ Below w.heap.size w w' := by
  obtain ⟨a, c, rfl, hc⟩ := h
  by_cases h0 : 0 < l.length
  · obtain ⟨b, o, rfl, hcc⟩ := hc h0
    exact build_some b o c l w hl (fun k hk => allMay_at hm k hk) hsort _ (fun _ => rfl) hcc
  · exact build_some 0 0 c l w hl (fun k hk => allMay_at hm k hk) hsort a (fun h => absurd h h0) (fun j hj => by omega)

/-- Runes that rise are one list, if they are the same runes. -/
theorem rise_unique : ∀ (a b : List Int), a.Pairwise (· < ·) → b.Pairwise (· < ·) → (∀ x, x ∈ a ↔ x ∈ b) → a = b
  | [], [], _, _, _ => rfl
  | [], y :: b, _, _, h => absurd ((h y).2 (by simp)) (by simp)
  | x :: a, [], _, _, h => absurd ((h x).1 (by simp)) (by simp)
  | x :: a, y :: b, ha, hb, h => by
    rw [List.pairwise_cons] at ha hb
    have hxy : x = y := by
      have h1 := (h x).1 (by simp)
      have h2 := (h y).2 (by simp)
      rcases List.mem_cons.1 h1 with e | h1
      · exact e
      · rcases List.mem_cons.1 h2 with e | h2
        · exact e.symm
        · have := ha.1 y h2
          have := hb.1 x h1
          omega
    subst hxy
    rw [rise_unique a b ha.2 hb.2 (fun z => ?_)]
    constructor
    · intro hz
      rcases List.mem_cons.1 ((h z).1 (by simp [hz])) with e | h1
      · have := ha.1 z hz; omega
      · exact h1
    · intro hz
      rcases List.mem_cons.1 ((h z).2 (by simp [hz])) with e | h1
      · have := hb.1 z hz; omega
      · exact h1

theorem sort_small (d : Array Int) (h : d.size ≤ 12) : SortDoes d := sort_of_pdq d (by omega) (pdq_small d 0 d.size (Nat.zero_le _) (Nat.le_refl _) (by omega) (by omega))
end Go.Proofs.Ytnlkefdicpeemaa
