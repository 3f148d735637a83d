/- Contracts of the landed blanks: Piece. -/
import Derived.Test.YtddliikhjilngaaGreatDoorM14
namespace Go.Proofs.YtddliikhjilngaaGreatDoor
set_option maxRecDepth 100000
open Go.RowKit

theorem spAt_zero (l : List Int) : spAt l 0 = spF mk11 l := by
  unfold spAt
  cases l with
  | nil => rfl
  | cons x t =>
    rw [if_pos (by simp)]
    rfl
theorem spAt_last (l : List Int) : spAt l ((l.length : Int) - 1) = lastSp l := by
  unfold spAt lastSp
  by_cases h : l = []
  · subst h; rfl
  · have h0 : 0 < l.length := List.length_pos_iff.2 h
    rw [if_pos (by omega)]
    have e1 : ((l.length : Int) - 1).toNat = l.length - 1 := by omega
    have e2 : l.length - 1 + 1 = l.length := by omega
    rw [e1, e2, List.drop_length]
    rw [List.getLast?_eq_getElem?]
    unfold sp fre
    rw [Bool.and_true]
    have h1 : l.length - 1 < l.length := by omega
    simp [List.getD, h1]
theorem spF_none : ∀ (l : List Int) (o : Bool), l ≠ [] → inn mk11 false o l = [] → spF mk11 l = true
  | [], _, h, _ => absurd rfl h
  | x :: t, o, _, h => by
    cases hs : sp mk11 x t
    · rw [inn_no hs] at h
      simp at h
    · exact hs
theorem pie_none (k : Int) (l : List Int) (hk : k = 1 ∨ k = 2 ∨ k = 3) (h : inn mk11 false false l = []) :
    pieM mk11 k l = fra ((decide (k = 1) || spAt l 0) || (decide (k = 3) || spAt l ((l.length : Int) - 1))) false (inn mk11 false false l) := by
  rw [spAt_zero, spAt_last]
  unfold pieM
  rw [if_pos h, h]
  by_cases hl : l = []
  · subst hl
    rcases hk with rfl | rfl | rfl <;> rfl
  · rw [spF_none l false hl h, if_pos (.inl hl)]
    simp [fra]
theorem pie_some (k : Int) (l : List Int) (h : inn mk11 false false l ≠ []) :
    pieM mk11 k l = fra (decide (k = 1) || spAt l 0) (decide (k = 3) || spAt l ((l.length : Int) - 1)) (inn mk11 false false l) := by
  rw [spAt_zero, spAt_last]
  unfold pieM fra
  rw [if_neg h]
  simp
set_option maxHeartbeats 3200000 in
theorem bpie1_none (v : Value) (l : List Int) (w : World) (hlen : l.length ≤ 5000) (hR : Row w v l) (hF : Fits v) (hm : inn mk11 false false (firmL mk11 l) = []) :
    Calls Tryz.prog 36 #[.int .i64 1, v] w fun e w' => ∃ v', e = .returned v' ∧ Row w' v' (pieM mk11 1 (firmL mk11 l)) ∧ Below w.heap.size w w' ∧ Fits v' := by
  have hfl := firm_len l
  have HFI := hide (bfirm_any v l w (by omega) hF hR)
  clear hR hF
  generalize firmL mk11 l = L at *
  have HS0 := hide (fun v1 w1 => bsp_any v1 L 0 w1 trivial (by omega))
  have HS1 := hide (fun v1 w1 => bsp_any v1 L ((L.length : Int) - 1) w1 trivial (by omega))
  have HWO := hide (fun v1 w1 => bwords_any v1 L w1 (by omega))
  have hil := inn_len11 (M := mk11) L false false
  have HFA := hide (fun h b C u w1 => bframed_any h b C u (inn mk11 false false L) w1 (by omega))
  have HE := hide (pie_none 1 L (by decide) hm)
  rw [unhide HE]
  clear HE
  generalize spAt L 0 = p at *
  generalize spAt L ((L.length : Int) - 1) = q at *
  generalize inn mk11 false false L = I at *
  subst hm
  cases q
  · go_enter Tryz.func36, Tryz.ntmps36
    go_wp2_with (first
      | (go_at_call 60; refine (unhide HFA _ _ _ _ _ (unhide O3)).mono ?_; rintro e w4 ⟨v4, rfl, r4, b4⟩; have c4 := c3.trans (b4.mono c3.size))
      | (go_at_call 59; refine (unhide HWO _ _ (unhide F1) (unhide R2)).mono ?_; rintro e w3 ⟨v3, rfl, r3, b3⟩; have c3 := c2.trans (b3.mono c2.size); have O3 := hide r3; obtain ⟨a3, x3, hv3⟩ := r3.shape; subst hv3; clear r3)
      | (go_at_call 58; refine (unhide HS1 _ _ (unhide R1)).mono ?_; rintro e w2 ⟨rfl, b2⟩; have c2 := c1.trans (b2.mono c1.size); have R2 := hide ((unhide R1).below b2))
      | (go_at_call 57; refine (unhide HFI).mono ?_; rintro e w1 ⟨v1, rfl, r1, b1, f1⟩; have c1 := b1; have R1 := hide r1; have F1 := hide f1; obtain ⟨a1, e1, hv1, -⟩ := r1; subst hv1; clear f1))
    go_ret
    exact ⟨_, rfl, r4.row, c4, r4.fits⟩
  · go_enter Tryz.func36, Tryz.ntmps36
    go_wp2_with (first
      | (go_at_call 60; refine (unhide HFA _ _ _ _ _ (unhide O3)).mono ?_; rintro e w4 ⟨v4, rfl, r4, b4⟩; have c4 := c3.trans (b4.mono c3.size))
      | (go_at_call 59; refine (unhide HWO _ _ (unhide F1) (unhide R2)).mono ?_; rintro e w3 ⟨v3, rfl, r3, b3⟩; have c3 := c2.trans (b3.mono c2.size); have O3 := hide r3; obtain ⟨a3, x3, hv3⟩ := r3.shape; subst hv3; clear r3)
      | (go_at_call 58; refine (unhide HS1 _ _ (unhide R1)).mono ?_; rintro e w2 ⟨rfl, b2⟩; have c2 := c1.trans (b2.mono c1.size); have R2 := hide ((unhide R1).below b2))
      | (go_at_call 57; refine (unhide HFI).mono ?_; rintro e w1 ⟨v1, rfl, r1, b1, f1⟩; have c1 := b1; have R1 := hide r1; have F1 := hide f1; obtain ⟨a1, e1, hv1, -⟩ := r1; subst hv1; clear f1))
    go_ret
    exact ⟨_, rfl, r4.row, c4, r4.fits⟩
set_option maxHeartbeats 3200000 in
theorem bpie1_some (v : Value) (l : List Int) (w : World) (hlen : l.length ≤ 5000) (hR : Row w v l) (hF : Fits v) (hm : inn mk11 false false (firmL mk11 l) ≠ []) :
    Calls Tryz.prog 36 #[.int .i64 1, v] w fun e w' => ∃ v', e = .returned v' ∧ Row w' v' (pieM mk11 1 (firmL mk11 l)) ∧ Below w.heap.size w w' ∧ Fits v' := by
  have hfl := firm_len l
  have HFI := hide (bfirm_any v l w (by omega) hF hR)
  clear hR hF
  generalize firmL mk11 l = L at *
  have HS0 := hide (fun v1 w1 => bsp_any v1 L 0 w1 trivial (by omega))
  have HS1 := hide (fun v1 w1 => bsp_any v1 L ((L.length : Int) - 1) w1 trivial (by omega))
  have HWO := hide (fun v1 w1 => bwords_any v1 L w1 (by omega))
  have hil := inn_len11 (M := mk11) L false false
  have HFA := hide (fun h b C u w1 => bframed_any h b C u (inn mk11 false false L) w1 (by omega))
  have HE := hide (pie_some 1 L hm)
  rw [unhide HE]
  clear HE
  generalize spAt L 0 = p at *
  generalize spAt L ((L.length : Int) - 1) = q at *
  generalize inn mk11 false false L = I at *
  have hI0 : 0 < I.length := List.length_pos_iff.2 hm
  obtain ⟨NI, hNI⟩ : ∃ N, N = I.length := ⟨_, rfl⟩
  rw [← hNI] at hI0 hil
  have HNI := hide hNI
  have hIz : ((NI : Int) == 0) = false := beq_eq_false_iff_ne.2 (by omega)
  clear hNI hm
  cases q
  · go_enter Tryz.func36, Tryz.ntmps36
    go_wp2_with (first
      | (go_at_call 60; refine (unhide HFA _ _ _ _ _ (unhide O3)).mono ?_; rintro e w4 ⟨v4, rfl, r4, b4⟩; have c4 := c3.trans (b4.mono c3.size))
      | (go_at_call 59; refine (unhide HWO _ _ (unhide F1) (unhide R2)).mono ?_; rintro e w3 ⟨v3, rfl, r3, b3⟩; have c3 := c2.trans (b3.mono c2.size); have O3 := hide r3; obtain ⟨a3, x3, hv3⟩ := r3.shape; rw [← unhide HNI] at hv3; subst hv3; clear r3)
      | (go_at_call 58; refine (unhide HS1 _ _ (unhide R1)).mono ?_; rintro e w2 ⟨rfl, b2⟩; have c2 := c1.trans (b2.mono c1.size); have R2 := hide ((unhide R1).below b2))
      | (go_at_call 57; refine (unhide HFI).mono ?_; rintro e w1 ⟨v1, rfl, r1, b1, f1⟩; have c1 := b1; have R1 := hide r1; have F1 := hide f1; obtain ⟨a1, e1, hv1, -⟩ := r1; subst hv1; clear f1))
    go_ret
    exact ⟨_, rfl, r4.row, c4, r4.fits⟩
  · go_enter Tryz.func36, Tryz.ntmps36
    go_wp2_with (first
      | (go_at_call 60; refine (unhide HFA _ _ _ _ _ (unhide O3)).mono ?_; rintro e w4 ⟨v4, rfl, r4, b4⟩; have c4 := c3.trans (b4.mono c3.size))
      | (go_at_call 59; refine (unhide HWO _ _ (unhide F1) (unhide R2)).mono ?_; rintro e w3 ⟨v3, rfl, r3, b3⟩; have c3 := c2.trans (b3.mono c2.size); have O3 := hide r3; obtain ⟨a3, x3, hv3⟩ := r3.shape; rw [← unhide HNI] at hv3; subst hv3; clear r3)
      | (go_at_call 58; refine (unhide HS1 _ _ (unhide R1)).mono ?_; rintro e w2 ⟨rfl, b2⟩; have c2 := c1.trans (b2.mono c1.size); have R2 := hide ((unhide R1).below b2))
      | (go_at_call 57; refine (unhide HFI).mono ?_; rintro e w1 ⟨v1, rfl, r1, b1, f1⟩; have c1 := b1; have R1 := hide r1; have F1 := hide f1; obtain ⟨a1, e1, hv1, -⟩ := r1; subst hv1; clear f1))
    go_ret
    exact ⟨_, rfl, r4.row, c4, r4.fits⟩
set_option maxHeartbeats 3200000 in
theorem bpie2_none (v : Value) (l : List Int) (w : World) (hlen : l.length ≤ 5000) (hR : Row w v l) (hF : Fits v) (hm : inn mk11 false false l = []) :
    Calls Tryz.prog 36 #[.int .i64 2, v] w fun e w' => ∃ v', e = .returned v' ∧ Row w' v' (pieM mk11 2 l) ∧ Below w.heap.size w w' ∧ Fits v' := by
  have HS0 := hide (fun v1 w1 => bsp_any v1 l 0 w1 trivial (by omega))
  have HS1 := hide (fun v1 w1 => bsp_any v1 l ((l.length : Int) - 1) w1 trivial (by omega))
  have HWO := hide (fun v1 w1 => bwords_any v1 l w1 (by omega))
  have hil := inn_len11 (M := mk11) l false false
  have HFA := hide (fun h b C u w1 => bframed_any h b C u (inn mk11 false false l) w1 (by omega))
  have HE := hide (pie_none 2 l (by decide) hm)
  rw [unhide HE]
  clear HE
  generalize spAt l 0 = p at *
  generalize spAt l ((l.length : Int) - 1) = q at *
  generalize inn mk11 false false l = I at *
  subst hm
  have HR := hide hR
  have HF := hide hF
  obtain ⟨a, cap, rfl, -⟩ := hR
  clear hF
  cases p
  · cases q
    · go_enter Tryz.func36, Tryz.ntmps36
      go_wp2_with (first
        | (go_at_call 60; refine (unhide HFA _ _ _ _ _ (unhide O3)).mono ?_; rintro e w4 ⟨v4, rfl, r4, b4⟩; have c4 := c3.trans (b4.mono c3.size))
        | (go_at_call 59; refine (unhide HWO _ _ (unhide HF) (unhide R2)).mono ?_; rintro e w3 ⟨v3, rfl, r3, b3⟩; have c3 := c2.trans (b3.mono c2.size); have O3 := hide r3; obtain ⟨a3, x3, hv3⟩ := r3.shape; subst hv3; clear r3)
        | (go_at_call 58; refine (unhide HS1 _ _ (unhide R1)).mono ?_; rintro e w2 ⟨rfl, b2⟩; have c2 := c1.trans (b2.mono c1.size); have R2 := hide ((unhide R1).below b2))
        | (go_at_call 58; refine (unhide HS0 _ _ (unhide HR)).mono ?_; rintro e w1 ⟨rfl, b1⟩; have c1 := b1; have R1 := hide ((unhide HR).below b1)))
      go_ret
      exact ⟨_, rfl, r4.row, c4, r4.fits⟩
    · go_enter Tryz.func36, Tryz.ntmps36
      go_wp2_with (first
        | (go_at_call 60; refine (unhide HFA _ _ _ _ _ (unhide O3)).mono ?_; rintro e w4 ⟨v4, rfl, r4, b4⟩; have c4 := c3.trans (b4.mono c3.size))
        | (go_at_call 59; refine (unhide HWO _ _ (unhide HF) (unhide R2)).mono ?_; rintro e w3 ⟨v3, rfl, r3, b3⟩; have c3 := c2.trans (b3.mono c2.size); have O3 := hide r3; obtain ⟨a3, x3, hv3⟩ := r3.shape; subst hv3; clear r3)
        | (go_at_call 58; refine (unhide HS1 _ _ (unhide R1)).mono ?_; rintro e w2 ⟨rfl, b2⟩; have c2 := c1.trans (b2.mono c1.size); have R2 := hide ((unhide R1).below b2))
        | (go_at_call 58; refine (unhide HS0 _ _ (unhide HR)).mono ?_; rintro e w1 ⟨rfl, b1⟩; have c1 := b1; have R1 := hide ((unhide HR).below b1)))
      go_ret
      exact ⟨_, rfl, r4.row, c4, r4.fits⟩
  · cases q
    · go_enter Tryz.func36, Tryz.ntmps36
      go_wp2_with (first
        | (go_at_call 60; refine (unhide HFA _ _ _ _ _ (unhide O3)).mono ?_; rintro e w4 ⟨v4, rfl, r4, b4⟩; have c4 := c3.trans (b4.mono c3.size))
        | (go_at_call 59; refine (unhide HWO _ _ (unhide HF) (unhide R2)).mono ?_; rintro e w3 ⟨v3, rfl, r3, b3⟩; have c3 := c2.trans (b3.mono c2.size); have O3 := hide r3; obtain ⟨a3, x3, hv3⟩ := r3.shape; subst hv3; clear r3)
        | (go_at_call 58; refine (unhide HS1 _ _ (unhide R1)).mono ?_; rintro e w2 ⟨rfl, b2⟩; have c2 := c1.trans (b2.mono c1.size); have R2 := hide ((unhide R1).below b2))
        | (go_at_call 58; refine (unhide HS0 _ _ (unhide HR)).mono ?_; rintro e w1 ⟨rfl, b1⟩; have c1 := b1; have R1 := hide ((unhide HR).below b1)))
      go_ret
      exact ⟨_, rfl, r4.row, c4, r4.fits⟩
    · go_enter Tryz.func36, Tryz.ntmps36
      go_wp2_with (first
        | (go_at_call 60; refine (unhide HFA _ _ _ _ _ (unhide O3)).mono ?_; rintro e w4 ⟨v4, rfl, r4, b4⟩; have c4 := c3.trans (b4.mono c3.size))
        | (go_at_call 59; refine (unhide HWO _ _ (unhide HF) (unhide R2)).mono ?_; rintro e w3 ⟨v3, rfl, r3, b3⟩; have c3 := c2.trans (b3.mono c2.size); have O3 := hide r3; obtain ⟨a3, x3, hv3⟩ := r3.shape; subst hv3; clear r3)
        | (go_at_call 58; refine (unhide HS1 _ _ (unhide R1)).mono ?_; rintro e w2 ⟨rfl, b2⟩; have c2 := c1.trans (b2.mono c1.size); have R2 := hide ((unhide R1).below b2))
        | (go_at_call 58; refine (unhide HS0 _ _ (unhide HR)).mono ?_; rintro e w1 ⟨rfl, b1⟩; have c1 := b1; have R1 := hide ((unhide HR).below b1)))
      go_ret
      exact ⟨_, rfl, r4.row, c4, r4.fits⟩
set_option maxHeartbeats 3200000 in
theorem bpie2_some (v : Value) (l : List Int) (w : World) (hlen : l.length ≤ 5000) (hR : Row w v l) (hF : Fits v) (hm : inn mk11 false false l ≠ []) :
    Calls Tryz.prog 36 #[.int .i64 2, v] w fun e w' => ∃ v', e = .returned v' ∧ Row w' v' (pieM mk11 2 l) ∧ Below w.heap.size w w' ∧ Fits v' := by
  have HS0 := hide (fun v1 w1 => bsp_any v1 l 0 w1 trivial (by omega))
  have HS1 := hide (fun v1 w1 => bsp_any v1 l ((l.length : Int) - 1) w1 trivial (by omega))
  have HWO := hide (fun v1 w1 => bwords_any v1 l w1 (by omega))
  have hil := inn_len11 (M := mk11) l false false
  have HFA := hide (fun h b C u w1 => bframed_any h b C u (inn mk11 false false l) w1 (by omega))
  have HE := hide (pie_some 2 l hm)
  rw [unhide HE]
  clear HE
  generalize spAt l 0 = p at *
  generalize spAt l ((l.length : Int) - 1) = q at *
  generalize inn mk11 false false l = I at *
  have hI0 : 0 < I.length := List.length_pos_iff.2 hm
  obtain ⟨NI, hNI⟩ : ∃ N, N = I.length := ⟨_, rfl⟩
  rw [← hNI] at hI0 hil
  have HNI := hide hNI
  have hIz : ((NI : Int) == 0) = false := beq_eq_false_iff_ne.2 (by omega)
  clear hNI hm
  have HR := hide hR
  have HF := hide hF
  obtain ⟨a, cap, rfl, -⟩ := hR
  clear hF
  cases p
  · cases q
    · go_enter Tryz.func36, Tryz.ntmps36
      go_wp2_with (first
        | (go_at_call 60; refine (unhide HFA _ _ _ _ _ (unhide O3)).mono ?_; rintro e w4 ⟨v4, rfl, r4, b4⟩; have c4 := c3.trans (b4.mono c3.size))
        | (go_at_call 59; refine (unhide HWO _ _ (unhide HF) (unhide R2)).mono ?_; rintro e w3 ⟨v3, rfl, r3, b3⟩; have c3 := c2.trans (b3.mono c2.size); have O3 := hide r3; obtain ⟨a3, x3, hv3⟩ := r3.shape; rw [← unhide HNI] at hv3; subst hv3; clear r3)
        | (go_at_call 58; refine (unhide HS1 _ _ (unhide R1)).mono ?_; rintro e w2 ⟨rfl, b2⟩; have c2 := c1.trans (b2.mono c1.size); have R2 := hide ((unhide R1).below b2))
        | (go_at_call 58; refine (unhide HS0 _ _ (unhide HR)).mono ?_; rintro e w1 ⟨rfl, b1⟩; have c1 := b1; have R1 := hide ((unhide HR).below b1)))
      go_ret
      exact ⟨_, rfl, r4.row, c4, r4.fits⟩
    · go_enter Tryz.func36, Tryz.ntmps36
      go_wp2_with (first
        | (go_at_call 60; refine (unhide HFA _ _ _ _ _ (unhide O3)).mono ?_; rintro e w4 ⟨v4, rfl, r4, b4⟩; have c4 := c3.trans (b4.mono c3.size))
        | (go_at_call 59; refine (unhide HWO _ _ (unhide HF) (unhide R2)).mono ?_; rintro e w3 ⟨v3, rfl, r3, b3⟩; have c3 := c2.trans (b3.mono c2.size); have O3 := hide r3; obtain ⟨a3, x3, hv3⟩ := r3.shape; rw [← unhide HNI] at hv3; subst hv3; clear r3)
        | (go_at_call 58; refine (unhide HS1 _ _ (unhide R1)).mono ?_; rintro e w2 ⟨rfl, b2⟩; have c2 := c1.trans (b2.mono c1.size); have R2 := hide ((unhide R1).below b2))
        | (go_at_call 58; refine (unhide HS0 _ _ (unhide HR)).mono ?_; rintro e w1 ⟨rfl, b1⟩; have c1 := b1; have R1 := hide ((unhide HR).below b1)))
      go_ret
      exact ⟨_, rfl, r4.row, c4, r4.fits⟩
  · cases q
    · go_enter Tryz.func36, Tryz.ntmps36
      go_wp2_with (first
        | (go_at_call 60; refine (unhide HFA _ _ _ _ _ (unhide O3)).mono ?_; rintro e w4 ⟨v4, rfl, r4, b4⟩; have c4 := c3.trans (b4.mono c3.size))
        | (go_at_call 59; refine (unhide HWO _ _ (unhide HF) (unhide R2)).mono ?_; rintro e w3 ⟨v3, rfl, r3, b3⟩; have c3 := c2.trans (b3.mono c2.size); have O3 := hide r3; obtain ⟨a3, x3, hv3⟩ := r3.shape; rw [← unhide HNI] at hv3; subst hv3; clear r3)
        | (go_at_call 58; refine (unhide HS1 _ _ (unhide R1)).mono ?_; rintro e w2 ⟨rfl, b2⟩; have c2 := c1.trans (b2.mono c1.size); have R2 := hide ((unhide R1).below b2))
        | (go_at_call 58; refine (unhide HS0 _ _ (unhide HR)).mono ?_; rintro e w1 ⟨rfl, b1⟩; have c1 := b1; have R1 := hide ((unhide HR).below b1)))
      go_ret
      exact ⟨_, rfl, r4.row, c4, r4.fits⟩
    · go_enter Tryz.func36, Tryz.ntmps36
      go_wp2_with (first
        | (go_at_call 60; refine (unhide HFA _ _ _ _ _ (unhide O3)).mono ?_; rintro e w4 ⟨v4, rfl, r4, b4⟩; have c4 := c3.trans (b4.mono c3.size))
        | (go_at_call 59; refine (unhide HWO _ _ (unhide HF) (unhide R2)).mono ?_; rintro e w3 ⟨v3, rfl, r3, b3⟩; have c3 := c2.trans (b3.mono c2.size); have O3 := hide r3; obtain ⟨a3, x3, hv3⟩ := r3.shape; rw [← unhide HNI] at hv3; subst hv3; clear r3)
        | (go_at_call 58; refine (unhide HS1 _ _ (unhide R1)).mono ?_; rintro e w2 ⟨rfl, b2⟩; have c2 := c1.trans (b2.mono c1.size); have R2 := hide ((unhide R1).below b2))
        | (go_at_call 58; refine (unhide HS0 _ _ (unhide HR)).mono ?_; rintro e w1 ⟨rfl, b1⟩; have c1 := b1; have R1 := hide ((unhide HR).below b1)))
      go_ret
      exact ⟨_, rfl, r4.row, c4, r4.fits⟩
set_option maxHeartbeats 3200000 in
theorem bpie3_none (v : Value) (l : List Int) (w : World) (hlen : l.length ≤ 5000) (hR : Row w v l) (hF : Fits v) (hm : inn mk11 false false l = []) :
    Calls Tryz.prog 36 #[.int .i64 3, v] w fun e w' => ∃ v', e = .returned v' ∧ Row w' v' (pieM mk11 3 l) ∧ Below w.heap.size w w' ∧ Fits v' := by
  have HS0 := hide (fun v1 w1 => bsp_any v1 l 0 w1 trivial (by omega))
  have HS1 := hide (fun v1 w1 => bsp_any v1 l ((l.length : Int) - 1) w1 trivial (by omega))
  have HWO := hide (fun v1 w1 => bwords_any v1 l w1 (by omega))
  have hil := inn_len11 (M := mk11) l false false
  have HFA := hide (fun h b C u w1 => bframed_any h b C u (inn mk11 false false l) w1 (by omega))
  have HE := hide (pie_none 3 l (by decide) hm)
  rw [unhide HE]
  clear HE
  generalize spAt l 0 = p at *
  generalize spAt l ((l.length : Int) - 1) = q at *
  generalize inn mk11 false false l = I at *
  subst hm
  have HR := hide hR
  have HF := hide hF
  obtain ⟨a, cap, rfl, -⟩ := hR
  clear hF
  cases p
  · go_enter Tryz.func36, Tryz.ntmps36
    go_wp2_with (first
      | (go_at_call 60; refine (unhide HFA _ _ _ _ _ (unhide O2)).mono ?_; rintro e w3 ⟨v3, rfl, r3, b3⟩; have c3 := c2.trans (b3.mono c2.size))
      | (go_at_call 59; refine (unhide HWO _ _ (unhide HF) (unhide R1)).mono ?_; rintro e w2 ⟨v2, rfl, r2, b2⟩; have c2 := c1.trans (b2.mono c1.size); have O2 := hide r2; obtain ⟨a2, x2, hv2⟩ := r2.shape; subst hv2; clear r2)
      | (go_at_call 58; refine (unhide HS0 _ _ (unhide HR)).mono ?_; rintro e w1 ⟨rfl, b1⟩; have c1 := b1; have R1 := hide ((unhide HR).below b1)))
    go_ret
    exact ⟨_, rfl, r3.row, c3, r3.fits⟩
  · go_enter Tryz.func36, Tryz.ntmps36
    go_wp2_with (first
      | (go_at_call 60; refine (unhide HFA _ _ _ _ _ (unhide O2)).mono ?_; rintro e w3 ⟨v3, rfl, r3, b3⟩; have c3 := c2.trans (b3.mono c2.size))
      | (go_at_call 59; refine (unhide HWO _ _ (unhide HF) (unhide R1)).mono ?_; rintro e w2 ⟨v2, rfl, r2, b2⟩; have c2 := c1.trans (b2.mono c1.size); have O2 := hide r2; obtain ⟨a2, x2, hv2⟩ := r2.shape; subst hv2; clear r2)
      | (go_at_call 58; refine (unhide HS0 _ _ (unhide HR)).mono ?_; rintro e w1 ⟨rfl, b1⟩; have c1 := b1; have R1 := hide ((unhide HR).below b1)))
    go_ret
    exact ⟨_, rfl, r3.row, c3, r3.fits⟩
set_option maxHeartbeats 3200000 in
theorem bpie3_some (v : Value) (l : List Int) (w : World) (hlen : l.length ≤ 5000) (hR : Row w v l) (hF : Fits v) (hm : inn mk11 false false l ≠ []) :
    Calls Tryz.prog 36 #[.int .i64 3, v] w fun e w' => ∃ v', e = .returned v' ∧ Row w' v' (pieM mk11 3 l) ∧ Below w.heap.size w w' ∧ Fits v' := by
  have HS0 := hide (fun v1 w1 => bsp_any v1 l 0 w1 trivial (by omega))
  have HS1 := hide (fun v1 w1 => bsp_any v1 l ((l.length : Int) - 1) w1 trivial (by omega))
  have HWO := hide (fun v1 w1 => bwords_any v1 l w1 (by omega))
  have hil := inn_len11 (M := mk11) l false false
  have HFA := hide (fun h b C u w1 => bframed_any h b C u (inn mk11 false false l) w1 (by omega))
  have HE := hide (pie_some 3 l hm)
  rw [unhide HE]
  clear HE
  generalize spAt l 0 = p at *
  generalize spAt l ((l.length : Int) - 1) = q at *
  generalize inn mk11 false false l = I at *
  have hI0 : 0 < I.length := List.length_pos_iff.2 hm
  obtain ⟨NI, hNI⟩ : ∃ N, N = I.length := ⟨_, rfl⟩
  rw [← hNI] at hI0 hil
  have HNI := hide hNI
  have hIz : ((NI : Int) == 0) = false := beq_eq_false_iff_ne.2 (by omega)
  clear hNI hm
  have HR := hide hR
  have HF := hide hF
  obtain ⟨a, cap, rfl, -⟩ := hR
  clear hF
  cases p
  · go_enter Tryz.func36, Tryz.ntmps36
    go_wp2_with (first
      | (go_at_call 60; refine (unhide HFA _ _ _ _ _ (unhide O2)).mono ?_; rintro e w3 ⟨v3, rfl, r3, b3⟩; have c3 := c2.trans (b3.mono c2.size))
      | (go_at_call 59; refine (unhide HWO _ _ (unhide HF) (unhide R1)).mono ?_; rintro e w2 ⟨v2, rfl, r2, b2⟩; have c2 := c1.trans (b2.mono c1.size); have O2 := hide r2; obtain ⟨a2, x2, hv2⟩ := r2.shape; rw [← unhide HNI] at hv2; subst hv2; clear r2)
      | (go_at_call 58; refine (unhide HS0 _ _ (unhide HR)).mono ?_; rintro e w1 ⟨rfl, b1⟩; have c1 := b1; have R1 := hide ((unhide HR).below b1)))
    go_ret
    exact ⟨_, rfl, r3.row, c3, r3.fits⟩
  · go_enter Tryz.func36, Tryz.ntmps36
    go_wp2_with (first
      | (go_at_call 60; refine (unhide HFA _ _ _ _ _ (unhide O2)).mono ?_; rintro e w3 ⟨v3, rfl, r3, b3⟩; have c3 := c2.trans (b3.mono c2.size))
      | (go_at_call 59; refine (unhide HWO _ _ (unhide HF) (unhide R1)).mono ?_; rintro e w2 ⟨v2, rfl, r2, b2⟩; have c2 := c1.trans (b2.mono c1.size); have O2 := hide r2; obtain ⟨a2, x2, hv2⟩ := r2.shape; rw [← unhide HNI] at hv2; subst hv2; clear r2)
      | (go_at_call 58; refine (unhide HS0 _ _ (unhide HR)).mono ?_; rintro e w1 ⟨rfl, b1⟩; have c1 := b1; have R1 := hide ((unhide HR).below b1)))
    go_ret
    exact ⟨_, rfl, r3.row, c3, r3.fits⟩
set_option maxHeartbeats 400000 in
theorem bpie_other (k : Int) (v : Value) (l : List Int) (w : World) (hR : Row w v l) (h1 : k ≠ 1) (h2 : k ≠ 2) (h3 : k ≠ 3) : Calls Tryz.prog 36 #[.int .i64 k, v] w fun e w' => ∃ v', e = .returned v' ∧ Row w' v' [] ∧ Below w.heap.size w w' ∧ Fits v' := by
  obtain ⟨a, cap, rfl, -⟩ := hR
  have n1 : (k == 1) = false := by simpa using h1
  have n2 : (k == 2) = false := by simpa using h2
  have n3 : (k == 3) = false := by simpa using h3
  go_enter Tryz.func36, Tryz.ntmps36
  go_wp2
  go_ret
  exact ⟨_, rfl, Row.nil _ _ _, Below.refl _ _, fits_of (Nat.le_refl _)⟩
theorem bpie_fit (k : Int) (v : Value) (l : List Int) (w : World) (_ : Ly11 w) (hlen : l.length ≤ 5000) (hR : Row w v l) (hF : Fits v) : Calls Tryz.prog 36 #[.int .i64 k, v] w fun e w' => ∃ v', e = .returned v' ∧ Row w' v' (pieL mk11 k l) ∧ Below w.heap.size w w' ∧ Fits v' := by
  unfold pieL
  by_cases h1 : k = 1
  · subst h1
    rw [if_pos rfl]
    by_cases hm : inn mk11 false false (firmL mk11 l) = []
    · exact bpie1_none v l w hlen hR hF hm
    · exact bpie1_some v l w hlen hR hF hm
  · rw [if_neg h1]
    by_cases h2 : k = 2
    · subst h2
      rw [if_pos (.inl rfl)]
      by_cases hm : inn mk11 false false l = []
      · exact bpie2_none v l w hlen hR hF hm
      · exact bpie2_some v l w hlen hR hF hm
    · by_cases h3 : k = 3
      · subst h3
        rw [if_pos (.inr rfl)]
        by_cases hm : inn mk11 false false l = []
        · exact bpie3_none v l w hlen hR hF hm
        · exact bpie3_some v l w hlen hR hF hm
      · rw [if_neg (by omega)]
        exact bpie_other k v l w hR h1 h2 h3
theorem bpie_any (k : Int) (v : Value) (l : List Int) (w : World) (hL : Ly11 w) (hlen : l.length ≤ 5000) (hR : Row w v l) (hF : Fits v) : Calls Tryz.prog 36 #[.int .i64 k, v] w fun e w' => ∃ v', e = .returned v' ∧ Row w' v' (pieL mk11 k l) ∧ Below w.heap.size w w' :=
  (bpie_fit k v l w hL hlen hR hF).mono fun _ _ ⟨v', he, hr, hb, _⟩ => ⟨v', he, hr, hb⟩
end Go.Proofs.YtddliikhjilngaaGreatDoor
