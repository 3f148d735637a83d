/- Few of layer 21. -/
import Derived.Test.YtjjildpdelkejaaM29
namespace Go.Proofs.Ytjjildpdelkejaa
open Go.RowKit

theorem fewC_no {l : List Ty} {cs : List Cl} {k : Nat} (hk : k < cs.length) (h : smC (cs.getD k cl0) = false) : fewC l cs = false := by
  unfold fewC
  rw [all_bad (d := cl0) hk h, Bool.and_false, Bool.and_false]
theorem fewC_yes {l : List Ty} {cs : List Cl} (h1 : fewT l = true) (h2 : cs.length ≤ 20) (h : ∀ k, k < cs.length → smC (cs.getD k cl0) = true) : fewC l cs = true := by
  unfold fewC
  rw [h1, all_good (d := cl0) h, decide_eq_true h2]
  rfl
theorem smC_no {c : Cl} (h : 20 < c.mus.length ∨ 20 < c.may.length ∨ 1000 < c.nam.size ∨ 1000 < c.abv.size) : smC c = false := decide_eq_false (by omega)
theorem smC_yes {c : Cl} (h1 : ¬ 20 < c.mus.length) (h2 : ¬ 20 < c.may.length) (h3 : ¬ 1000 < c.nam.size) (h4 : ¬ 1000 < c.abv.size) : smC c = true := decide_eq_true (by omega)
set_option maxHeartbeats 6400000 in
theorem few21_any (va vc : Value) (l : List Ty) (cs : List Cl) (w : World) (hT : TysV w va l) (hC : ClsV w vc cs) : Calls Try.prog 8 #[.agg #[va, vc]] w fun e w' => e = .returned (.bool (fewC l cs)) ∧ Below w.heap.size w w' := by
  have b0 := Below.one w (.cells #[va, vc] 25)
  have CF := hide (few20_any va l _ (hT.below b0))
  have HC := hide hC
  obtain ⟨aa, ca, rfl⟩ := hT.shape
  obtain ⟨ac, cc, rfl⟩ := hC.shape
  clear hT hC
  have S0 : Hid (Bs w.heap.size (.slice aa l.length ca) (.slice ac cs.length cc) (w.alloc (.cells #[.slice aa l.length ca, .slice ac cs.length cc] 25))) := heap_new w _
  obtain ⟨s0, s1⟩ := (unhide S0).cells
  cases hf : fewT l
  · rw [hf] at CF
    have HE : Hid (fewC l cs = false) := by show _ = _; unfold fewC; rw [hf]; rfl
    rw [unhide HE]
    clear hf HE HC
    go_enter Try.func8, Try.ntmps8
    go_wp2_with (go_at_call 23; refine (unhide CF).mono ?_; rintro e w1 ⟨rfl, rfl⟩)
    go_ret
    exact ⟨rfl, b0⟩
  rw [hf] at CF
  by_cases h20 : 20 < cs.length
  · have z : (20 : Int) < (cs.length : Int) := by omega
    have HE : Hid (fewC l cs = false) := by show _ = _; unfold fewC; rw [decide_eq_false (by omega), Bool.false_and, Bool.and_false]
    rw [unhide HE]
    clear hf HE HC
    go_enter Try.func8, Try.ntmps8
    go_wp2_with (go_at_call 23; refine (unhide CF).mono ?_; rintro e w1 ⟨rfl, rfl⟩)
    go_ret
    exact ⟨rfl, b0⟩
  have z : ¬ (20 : Int) < (cs.length : Int) := by omega
  have HNO : Hid (∀ k, k < cs.length → smC (cs.getD k cl0) = false → fewC l cs = false) := fun k hk h => fewC_no hk h
  have HYE : Hid ((∀ k, k < cs.length → smC (cs.getD k cl0) = true) → fewC l cs = true) := fun h => fewC_yes hf (by omega) h
  clear hf
  generalize fewC l cs = R at *
  go_enter Try.func8, Try.ntmps8
  go_wp2_with (go_at_call 23; refine (unhide CF).mono ?_; rintro e w1 ⟨rfl, rfl⟩)
  clear s0 s1 CF
  obtain ⟨w0, hw0⟩ : ∃ w0, w.alloc (.cells #[.slice aa l.length ca, .slice ac cs.length cc] 25) = w0 := ⟨_, rfl⟩
  rw [hw0] at b0 S0 ⊢
  clear hw0
  go_loopw [3] (fun i wr => ∃ k : Nat, k ≤ cs.length ∧ i = .int .i64 (k : Int) ∧ Hid (∀ j, j < k → smC (cs.getD j cl0) = true) ∧ Below w0.heap.size w0 wr) (fun i _ => cs.length - (intOf i).toNat)
  case atStart => exact ⟨0, Nat.zero_le _, rfl, fun j hj => absurd hj (Nat.not_lt_zero _), Below.refl _ _⟩
  case round =>
    obtain ⟨k, hk, rfl, HK, hb⟩ := hrel
    have hsz := hb.size
    have hbw := b0.trans (hb.mono b0.size)
    obtain ⟨s0, s1⟩ := ((unhide S0).keep hb).cells
    by_cases hlt : k < cs.length
    · have hzl : (k : Int) < (cs.length : Int) := by omega
      have hz0 : (0 : Int) ≤ (k : Int) := by omega
      obtain ⟨ac', cc', hvv, _, hcl⟩ := (unhide HC).below hbw
      cases hvv
      obtain ⟨b, off, rfl, hce⟩ := hcl (by omega)
      obtain ⟨d0, d1, d2, ⟨vm, d3, hm⟩, ⟨vy, d4, hy⟩⟩ := hce k hlt
      obtain ⟨am, cm, rfl, hm9⟩ := hm
      obtain ⟨ay, cy, rfl, hy9⟩ := hy
      have HN := hide (unhide HNO k hlt)
      have HG : Hid (smC (cs.getD k cl0) = true → ∀ j, j < k + 1 → smC (cs.getD j cl0) = true) := fun h => next_of (p := fun j => smC (cs.getD j cl0) = true) (unhide HK) h
      clear hcl hce hm9 hy9 HNO HYE HK
      generalize cs.getD k cl0 = c at *
      have b1 := Below.one wr (.cells #[.string c.nam, .string c.abv, .bool c.bar, .slice am c.mus.length cm, .slice ay c.may.length cy] 49)
      have t1 := hb.trans (b1.mono hsz)
      have tw := hbw.trans (b1.mono hbw.size)
      have hX : Bc wr.heap.size c (.slice am c.mus.length cm) (.slice ay c.may.length cy) (wr.alloc (.cells #[.string c.nam, .string c.abv, .bool c.bar, .slice am c.mus.length cm, .slice ay c.may.length cy] 49)) := heap_new wr _
      obtain ⟨x0, x1, x2, x3, x4⟩ := hX.cells
      clear hX
      by_cases h1 : 20 < c.mus.length
      · have z1 : (20 : Int) < (c.mus.length : Int) := by omega
        have HE : Hid (false = R) := (unhide HN (smC_no (.inl h1))).symm
        go_wp2
        go_ret
        exact ⟨ret_bool (unhide HE), tw⟩
      have z1 : ¬ (20 : Int) < (c.mus.length : Int) := by omega
      by_cases h2 : 20 < c.may.length
      · have z2 : (20 : Int) < (c.may.length : Int) := by omega
        have HE : Hid (false = R) := (unhide HN (smC_no (.inr (.inl h2)))).symm
        go_wp2
        go_ret
        exact ⟨ret_bool (unhide HE), tw⟩
      have z2 : ¬ (20 : Int) < (c.may.length : Int) := by omega
      by_cases h3 : 1000 < c.nam.size
      · have z3 : (1000 : Int) < (c.nam.size : Int) := by omega
        have HE : Hid (false = R) := (unhide HN (smC_no (.inr (.inr (.inl h3))))).symm
        go_wp2
        go_ret
        exact ⟨ret_bool (unhide HE), tw⟩
      have z3 : ¬ (1000 : Int) < (c.nam.size : Int) := by omega
      by_cases h4 : 1000 < c.abv.size
      · have z4 : (1000 : Int) < (c.abv.size : Int) := by omega
        have HE : Hid (false = R) := (unhide HN (smC_no (.inr (.inr (.inr h4))))).symm
        go_wp2
        go_ret
        exact ⟨ret_bool (unhide HE), tw⟩
      have z4 : ¬ (1000 : Int) < (c.abv.size : Int) := by omega
      have HK2 := hide (unhide HG (smC_yes h1 h2 h3 h4))
      go_wp2
      go_roundw
      case rel => exact ⟨k + 1, by omega, by go_num, unhide HK2, t1⟩
      case measure => simp [intOf]; omega
    · have hzl : ¬ (k : Int) < (cs.length : Int) := by omega
      obtain rfl : k = cs.length := by omega
      have HE : Hid (true = R) := (unhide HYE (unhide HK)).symm
      clear HK HNO HYE
      go_wp2
      go_ret
      exact ⟨ret_bool (unhide HE), hbw⟩
end Go.Proofs.Ytjjildpdelkejaa
