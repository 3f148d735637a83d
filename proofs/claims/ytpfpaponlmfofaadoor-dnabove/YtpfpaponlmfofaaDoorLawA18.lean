/- The law DnAbove of layer 18. -/
import Derived.Test.YtpfpaponlmfofaaDoorAw18
import Derived.Test.YtpfpaponlmfofaaDoorDr18
import Derived.Test.YtpfpaponlmfofaaDoorRSam18
import Derived.Test.YtpfpaponlmfofaaDoorFew18
namespace Go.Proofs.YtpfpaponlmfofaaDoor
set_option maxRecDepth 100000
open Go.RowKit

theorem nm_first {w : World} {v : Value} {r : List Pr} {n : List (List Pr)} {M : Nat} (hM : M = (r :: n).length) (h : NmV w v (r :: n)) : ∃ g off cap, v = .slice (some ⟨g, off, none⟩) M cap ∧ 1 ≤ cap ∧ NmV w (.slice (some ⟨g, off, none⟩) 1 cap) [r] := by
  subst hM
  obtain ⟨a, cap, rfl, h1, h2, hc⟩ := h
  obtain ⟨b, off, rfl, hce⟩ := hc (by simp)
  rw [List.length_cons] at h1
  refine ⟨b, off, cap, rfl, by omega, _, _, rfl, by simp; omega, by simp, fun _ => ⟨b, off, rfl, fun j hj => ?_⟩⟩
  obtain rfl : j = 0 := by simp at hj; omega
  simpa using hce 0 (by simp)
theorem bl_ok {n : List (List Pr)} {r : List Pr} (h : blB n r = true) : okN (r :: n) = true ∧ n.length ≤ 6 := by
  unfold blB at h
  simp only [Bool.and_eq_true, decide_eq_true_eq] at h
  obtain ⟨h1, h2, h3⟩ := h
  have hn := okN_parts h1
  have hr := (okN_parts h2).2 r (by simp)
  refine ⟨?_, hn.1⟩
  unfold okN
  rw [decide_eq_true (by simp; omega), Bool.true_and, List.all_cons, hr, Bool.true_and, List.all_eq_true]
  exact hn.2
set_option maxHeartbeats 3200000 in
theorem above18_law (v rv : Value) (n : List (List Pr)) (r : List Pr) (w : World) (hL : Ly w) (hV : NmV w v n) (hR : PsV w rv r) : Calls Tryd.prog 8 #[v, rv] w fun e w' => e = .returned (.bool true) ∧ Below w.heap.size w w' := by
  have CF := hide (few_any v n w hV)
  have CG := hide (few_any _ [r] _ (one_nm hR 40))
  have CA := hide awake18
  have HL := hide hL
  have HV := hide hV
  have HR := hide hR
  have CB := hide (fun W hb => below_any v rv n r W (hV.below hb) (hR.below hb))
  obtain ⟨ra, rc, hrv⟩ := hR.shape
  obtain ⟨na, nc, hnv⟩ := hV.shape
  have hnl : n.length ≤ 9223372036854775807 := by obtain ⟨_, _, _, _, h, _⟩ := hV; exact h
  subst hrv
  subst hnv
  clear hL hV hR
  have b0 := Below.one w (.cells #[.slice ra r.length rc] 40)
  cases hf : fewN n <;> rw [hf] at CF
  · clear hf CG CB HV HR
    go_enter Tryd.func8, Tryd.ntmps8
    go_wp2_with (first
      | (go_at_call 10; refine (unhide CA _ (unhide HL)).mono ?_; rintro e w5 ⟨rfl, b5⟩)
      | (go_at_call 9; refine (unhide CF).mono ?_; rintro e w1 ⟨rfl, rfl⟩))
    go_ret
    exact ⟨rfl, b5⟩
  clear hf
  cases hf2 : fewN [r] <;> rw [hf2] at CG
  · clear hf2 CB HV HR
    go_enter Tryd.func8, Tryd.ntmps8
    go_wp2_with (first
      | (go_at_call 10; refine (unhide CA _ ((unhide HL).keep b0)).mono ?_; rintro e w5 ⟨rfl, b5⟩; have bb := b0.trans (b5.mono b0.size))
      | (go_at_call 9; have M1 := F1; refine (unhide CG).mono ?_; rintro e w1 ⟨rfl, rfl⟩)
      | (go_at_call 9; refine (unhide CF).mono ?_; rintro e w1 ⟨rfl, rfl⟩; have F1 := trivial))
    go_ret
    exact ⟨rfl, bb⟩
  clear hf2
  cases hb : blB n r
  · have e2 : blN n r = [] := by unfold blN; rw [hb]; rfl
    have e3 : blE n r = 220 := by unfold blE; rw [hb]; rfl
    rw [e2, e3] at CB
    clear e2 e3 hb HV HR
    go_enter Tryd.func8, Tryd.ntmps8
    go_wp2_with (first
      | (go_at_call 10; refine (unhide CA _ ((unhide HL).keep b2)).mono ?_; rintro e w5 ⟨rfl, b5⟩; have bb := b2.trans (b5.mono b2.size))
      | (go_at_call 24; refine (unhide CB _ b0).mono ?_; rintro e w2 ⟨v2, rfl, h2, b2'⟩; obtain ⟨a2, c2, rfl⟩ := h2.shape; clear h2; have b2 := b0.trans (b2'.mono b0.size))
      | (go_at_call 9; have M1 := F1; refine (unhide CG).mono ?_; rintro e w1 ⟨rfl, rfl⟩)
      | (go_at_call 9; refine (unhide CF).mono ?_; rintro e w1 ⟨rfl, rfl⟩; have F1 := trivial))
    go_ret
    exact ⟨rfl, bb⟩
  · obtain ⟨hok, hn6⟩ := bl_ok hb
    have e2 : blN n r = r :: n := by unfold blN; rw [hb]; rfl
    have e3 : blE n r = 0 := by unfold blE; rw [hb]; rfl
    rw [e2, e3] at CB
    have C3 := hide (fun v W h => above_any v (r :: n) W h)
    have e4 : abB (r :: n) = true := by unfold abB; rw [hok]; rfl
    have e5 : abN (r :: n) = n := by unfold abN; rw [e4]; rfl
    rw [e4, e5] at C3
    have C5 := hide (fun v u W h1 h2 => rsame_any v u n n W h1 h2)
    rw [(eqN_iff n n).2 rfl] at C5
    have C6 := hide (fun v u W h1 h2 => rsame_any v u [r] [r] W h1 h2)
    rw [(eqN_iff [r] [r]).2 rfl] at C6
    have C7 := hide (fun v W h => check_any v (r :: n) W h)
    rw [chk_yes hok] at C7
    obtain ⟨M, hM⟩ : ∃ M, M = (r :: n).length := ⟨_, rfl⟩
    have wM : IntKind.i64.wrap ((n.length : Int) + 1) = (M : Int) := by rw [hM, List.length_cons]; exact wrap_in (by omega) (by omega)
    have eM : (n.length : Int) + 1 = (M : Int) := by rw [hM, List.length_cons]; rfl
    have HM := hide hM
    clear e2 e3 e4 e5 hb hok hM
    generalize n.length = nl at *
    go_enter Tryd.func8, Tryd.ntmps8
    go_wp2_with (first
      | (go_at_call 10; refine (unhide CA _ ((unhide HL).keep b6)).mono ?_; rintro e w7 ⟨rfl, b7⟩; have bb := b6.trans (b7.mono b6.size))
      | (go_at_call 13; refine (unhide C7 _ _ ((unhide HV2).below b25)).mono ?_; rintro e w6 ⟨rfl, g6⟩; have b6 := b5.trans (g6.below.mono b5.size))
      | (go_at_call 21; have M5 := g4; refine (unhide C6 _ _ _ (((unhide HF2).below b24).below (Below.one w4 (.cells #[.slice ra r.length rc] 40))) (one_nm ((unhide HR).below b4) _)).mono ?_; rintro e w5 ⟨rfl, g5⟩; have s4 := b4.size; have b5 := (b4.alloc s4 (.cells #[.slice ra r.length rc] 40)).trans (g5.below.mono (Nat.le_trans s4 (Gr.one _ _).size)); have s24 := b24.size; have b25 := (b24.alloc s24 (.cells #[.slice ra r.length rc] 40)).trans (g5.below.mono (Nat.le_trans s24 (Gr.one _ _).size)))
      | (go_at_call 21; refine (unhide C5 _ _ _ (unhide HV3) ((unhide HV).below b3)).mono ?_; rintro e w4 ⟨rfl, g4⟩; have b4 := b3.trans (g4.below.mono b3.size); have b24 := b23.trans (g4.below.mono b23.size))
      | (go_at_call 22; refine (unhide C3 _ _ (unhide HV2)).mono ?_; rintro e w3 ⟨v3, rfl, h3, b23⟩; have HV3 := hide h3; clear h3; have b3 := b2.trans (b23.mono b2.size))
      | (go_at_call 24; refine (unhide CB _ b0).mono ?_; rintro e w2 ⟨v2, rfl, h2, b2'⟩; obtain ⟨g2, o2, c2, rfl, hc2, hf2⟩ := nm_first (unhide HM) h2; have HV2 := hide h2; have HF2 := hide hf2; clear h2 hf2; have b2 := b0.trans (b2'.mono b0.size); have zc2 : (1 : Int) ≤ (c2 : Int) := (by omega))
      | (go_at_call 9; have M1 := F1; refine (unhide CG).mono ?_; rintro e w1 ⟨rfl, rfl⟩)
      | (go_at_call 9; refine (unhide CF).mono ?_; rintro e w1 ⟨rfl, rfl⟩; have F1 := trivial))
    go_ret
    exact ⟨rfl, bb⟩
end Go.Proofs.YtpfpaponlmfofaaDoor
