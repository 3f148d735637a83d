/- The document's Folded of layer 9. -/
import Derived.Test.YtbffmopenjjjlaaDoorRMap9
namespace Go.Proofs.YtbffmopenjjjlaaDoor
open Go.RowKit

theorem Rn.cell1 {w : World} {B g N cap : Nat} {y : Int} (h : Rn B (.slice (.some ⟨g, 0, none⟩) N cap) [y] w) : w.cell? ⟨g, 0, none⟩ = some (.int .i32 y) := Rn.last (t := []) h
theorem self_len {x : Int} (h : (foldL x).length ≠ 1) : selfF x = false := decide_eq_false fun e => h (by rw [e]; rfl)
theorem self_one {x y : Int} (h : foldL x = [y]) : selfF x = decide (y = x) := by unfold selfF; rw [h]; simp
theorem folded_bad {l : List Int} {k : Nat} (hk : k < l.length) (h : selfF (l.getD k 0) = false) : foldedB l = false := by
  unfold foldedB
  rw [List.all_eq_false]
  exact ⟨l.getD k 0, by simp [List.getD, hk], by rw [h]; simp⟩
theorem folded_good {l : List Int} (h : ∀ j, j < l.length → selfF (l.getD j 0) = true) : foldedB l = true := by
  unfold foldedB
  rw [List.all_eq_true]
  intro x hx
  obtain ⟨i, hi, e⟩ := List.mem_iff_getElem.1 hx
  have := h i hi
  simp only [List.getD, hi, List.getElem?_eq_getElem, Option.getD_some] at this
  rw [← e]; exact this

set_option maxHeartbeats 800000 in
theorem rfolded9_empty (a : Option Addr) (cap : Nat) (w : World) :
    Calls Tryd.prog 14 #[.slice a 0 cap] w fun e w' => e = .returned (.bool true) ∧ Below w.heap.size w w' := by
  go_enter Tryd.func14, Tryd.ntmps14
  go_wp2
  refine wp_loop_rounds 1 ?_
  rw [rounds_succ]
  go_wp2
  go_ret
  exact ⟨rfl, Below.refl _ _⟩

set_option maxHeartbeats 6400000 in
theorem rfolded9_some (b off cap : Nat) (l : List Int) (w : World) (hlen : l.length ≤ 20000) (h0 : 0 < l.length) (hin : ∀ i, i < l.length → In32' (l.getD i 0))
    (hcell : ∀ i, i < l.length → w.cell? ⟨b, off + i, none⟩ = some (.int .i32 (l.getD i 0))) :
    Calls Tryd.prog 14 #[.slice (some ⟨b, off, none⟩) l.length cap] w fun e w' => e = .returned (.bool (foldedB l)) ∧ Below w.heap.size w w' := by
  have HC := hide hcell
  have HIN := hide hin
  clear hcell hin
  go_enter Tryd.func14, Tryd.ntmps14
  go_wp2
  go_loopw [3] (fun i wr => ∃ k : Nat, k ≤ l.length ∧ i = .int .i64 (k : Int) ∧ Hid (∀ j, j < k → selfF (l.getD j 0) = true) ∧ Below w.heap.size w wr) (fun i _ => l.length - (intOf i).toNat)
  case atStart => exact ⟨0, Nat.zero_le _, rfl, hide (fun j hj => by omega), Below.refl _ _⟩
  case round =>
    obtain ⟨k, hk, rfl, HJ, hb⟩ := hrel
    have hsz := hb.size
    by_cases hlt : k < l.length
    · have hzl : (k : Int) < (l.length : Int) := by omega
      have hz0' : (0 : Int) ≤ (k : Int) := by omega
      have g1 := unhide HC k hlt
      have k1 : wr.cell? ⟨b, off + k, none⟩ = some (.int .i32 (l.getD k 0)) := (hb.cell (by exact cell_lt g1)).trans g1
      have HA := hide (fun W => rone9_any (l.getD k 0) W (unhide HIN k hlt))
      have HBAD := hide (folded_bad hlt)
      have HSL := hide (self_len (x := l.getD k 0))
      have HSO := hide (fun y => self_one (x := l.getD k 0) (y := y))
      have HJ2 : Hid (selfF (l.getD k 0) = true → ∀ j, j < k + 1 → selfF (l.getD j 0) = true) := fun h j hj => by
        by_cases e : j = k
        · subst e; exact h
        · exact unhide HJ j (by omega)
      obtain ⟨hp0, hp3⟩ := fold_len (l.getD k 0)
      clear g1 HJ
      generalize selfF (l.getD k 0) = S at *
      generalize l.getD k 0 = x at *
      generalize foldL x = p at *
      obtain ⟨q, hq⟩ : ∃ q, q = p.length := ⟨_, rfl⟩
      rw [← hq] at hp3 hp0 HSL
      have HQ := hide hq
      clear hq
      by_cases h1 : q = 1
      · subst h1
        obtain ⟨y, rfl⟩ : ∃ y, p = [y] := by
          have := unhide HQ
          match p, this with
          | [y], _ => exact ⟨y, rfl⟩
        by_cases hy : y = x
        · have HS := hide (unhide HJ2 ((unhide HSO y rfl).trans (decide_eq_true hy)))
          have hyz : (y == x) = true := by simpa using hy
          subst hy
          go_wp2_with (go_at_call 9; refine (unhide HA _).mono ?_; rintro e w2 ⟨v2, rfl, hr2, hb2⟩; obtain ⟨g2, c2, hv2, hBg2, hgs2⟩ := hr2.held (by simp); have d2 := (hv2 ▸ hr2).cell1; subst hv2; clear hr2; have hb3 := hb.trans (hb2.mono hsz); have k2 : w2.cell? ⟨b, off + k, none⟩ = some (.int .i32 y) := (hb2.cell (by exact cell_lt k1)).trans k1)
          go_quiet (fail)
          go_wp2
          go_roundw
          case rel => exact ⟨k + 1, by omega, by go_num, HS, below_drewN hb3 _⟩
          case measure => simp [intOf]; omega
        · have HF := hide (unhide HBAD ((unhide HSO y rfl).trans (decide_eq_false hy)))
          have hyz : (y == x) = false := by simpa using hy
          go_wp2_with (go_at_call 9; refine (unhide HA _).mono ?_; rintro e w2 ⟨v2, rfl, hr2, hb2⟩; obtain ⟨g2, c2, hv2, hBg2, hgs2⟩ := hr2.held (by simp); have d2 := (hv2 ▸ hr2).cell1; subst hv2; clear hr2; have hb3 := hb.trans (hb2.mono hsz); have k2 : w2.cell? ⟨b, off + k, none⟩ = some (.int .i32 x) := (hb2.cell (by exact cell_lt k1)).trans k1)
          go_quiet (fail)
          go_wp2
          go_ret
          exact ⟨ret_bool (unhide HF).symm, below_drewN hb3 _⟩
      · have HF := hide (unhide HBAD (unhide HSL h1))
        have hqz : ((q : Int) == 1) = false := by simp; omega
        have hqn : ¬ (q : Int) = 1 := by omega
        go_wp2_with (go_at_call 9; refine (unhide HA _).mono ?_; rintro e w2 ⟨v2, rfl, hr2, hb2⟩; obtain ⟨g2, c2, hv2, hBg2, hgs2⟩ := hr2.held (by rw [← unhide HQ]; exact hp0); rw [← unhide HQ] at hv2; subst hv2; clear hr2; have hb3 := hb.trans (hb2.mono hsz); have k2 : w2.cell? ⟨b, off + k, none⟩ = some (.int .i32 x) := (hb2.cell (by exact cell_lt k1)).trans k1)
        go_quiet (fail)
        go_wp2
        go_ret
        exact ⟨ret_bool (unhide HF).symm, below_drewN hb3 _⟩
    · have hzl : ¬ (k : Int) < (l.length : Int) := by omega
      obtain rfl : k = l.length := by omega
      have HF := hide (folded_good (unhide HJ))
      go_wp2
      go_ret
      exact ⟨ret_bool (unhide HF).symm, hb⟩
theorem rfolded9_any (v : Value) (l : List Int) (w : World) (hlen : l.length ≤ 20000) (hin : ∀ i, i < l.length → In32' (l.getD i 0)) (h : Row w v l) :
    Calls Tryd.prog 14 #[v] w fun e w' => e = .returned (.bool (foldedB l)) ∧ Below w.heap.size w w' := by
  obtain ⟨a, c, rfl, h1⟩ := h
  by_cases h0 : l.length = 0
  · obtain rfl : l = [] := List.eq_nil_of_length_eq_zero h0
    exact rfolded9_empty a c w
  · obtain ⟨b1, o1, rfl, k1⟩ := h1 (by omega)
    exact rfolded9_some b1 o1 c l w hlen (by omega) hin k1
end Go.Proofs.YtbffmopenjjjlaaDoor
