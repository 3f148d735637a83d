/- The document's Under and Above of layer 17, and the sameness of two lists. -/
import Derived.Test.YtifalmpcjkpodaaDoorRCmp17
namespace Go.Proofs.YtifalmpcjkpodaaDoor
set_option maxRecDepth 100000
open Go.RowKit

theorem chk_yes {l : List Int} (h : okO l = true) : chkO l = 0 := by unfold chkO; rw [h]; rfl
theorem chk_no {l : List Int} (h : okO l = false) : chkO l = 170 := by unfold chkO; rw [h]; rfl
theorem Row.take {w : World} {a : Option Addr} {cap : Nat} {l : List Int} (h : Row w (.slice a l.length cap) l) (n c : Nat) (hn : n ≤ l.length) : Row w (.slice a n c) (l.take n) := by
  obtain ⟨a', cap', e, hc⟩ := h
  cases e
  have e : (l.take n).length = n := by simp; omega
  refine ⟨a, c, by rw [e], fun hi => ?_⟩
  rw [e] at hi
  obtain ⟨b, off, rfl, hcc⟩ := hc (by omega)
  refine ⟨b, off, rfl, fun j hj => ?_⟩
  rw [e] at hj
  rw [hcc j (by omega)]
  simp [List.getD, hj]
theorem Row.shape {w : World} {v : Value} {l : List Int} (h : Row w v l) : ∃ a c, v = .slice a l.length c := by
  obtain ⟨a, c, e, _⟩ := h
  exact ⟨a, c, e⟩
set_option maxHeartbeats 1600000 in
theorem runder_any (a b : Option Addr) (l m : List Int) (c d : Nat) (w : World) (h1 : Row w (.slice a l.length c) l) (h2 : Row w (.slice b m.length d) m) (hc : l.length ≤ c) (hl : l.length ≤ 9223372036854775806) (hm : m.length ≤ 9223372036854775806) :
    Calls Tryd.prog 22 #[.slice a l.length c, .slice b m.length d] w fun e w' => e = .returned (.bool (underO l m)) ∧ Gr w w' := by
  have C1 := rcheck_any _ l w h1 (by omega)
  have C2 := rcheck_any _ m w h2 (by omega)
  have H1 := hide h1
  have H2 := hide h2
  clear h1 h2
  cases o1 : okO l
  · have HU : Hid (underO l m = false) := by unfold underO; rw [o1]; rfl
    rw [chk_no o1] at C1
    clear o1
    go_enter Tryd.func22, Tryd.ntmps22
    go_wp2_with (first | (go_at_call 13; refine C1.mono ?_; rintro e w' ⟨rfl, rfl⟩))
    go_ret
    exact ⟨ret_bool (unhide HU).symm, Gr.refl _⟩
  · rw [chk_yes o1] at C1
    cases o2 : okO m
    · have HU : Hid (underO l m = false) := by unfold underO; rw [o1, o2]; rfl
      rw [chk_no o2] at C2
      clear o1 o2
      go_enter Tryd.func22, Tryd.ntmps22
      go_wp2_with (first | (go_at_call 13; first | (refine C1.mono ?_; clear C1; rintro e w' ⟨rfl, rfl⟩) | (refine C2.mono ?_; rintro e w' ⟨rfl, rfl⟩)))
      go_ret
      exact ⟨ret_bool (unhide HU).symm, Gr.refl _⟩
    · rw [chk_yes o2] at C2
      by_cases hlt : m.length ≤ l.length
      · have HU : Hid (underO l m = decide (cmpL (l.take m.length) m = 0)) := by unfold underO; rw [o1, o2, decide_eq_true hlt]; rfl
        clear o1 o2
        have z1 : (m.length : Int) ≤ (l.length : Int) := by omega
        have z2 : (m.length : Int) ≤ (c : Int) := by omega
        have z3 : (0 : Int) ≤ (m.length : Int) := by omega
        have z4 : ((m.length : Int)).toNat = m.length := by omega
        have CM : ∀ c', Calls Tryd.prog 20 #[.slice a m.length c', .slice b m.length d] w fun e w' => e = .returned (.int .i64 (cmpL (l.take m.length) m)) ∧ Gr w w' := fun c' =>
          rcmp_any _ _ (l.take m.length) m w ((unhide H1).take m.length c' hlt) (unhide H2) (by simp; omega) hm
        generalize cmpL (l.take m.length) m = x at *
        by_cases x0 : x = 0
        · go_enter Tryd.func22, Tryd.ntmps22
          go_wp2_with (first | (go_at_call 13; first | (refine C1.mono ?_; clear C1; rintro e w' ⟨rfl, rfl⟩) | (refine C2.mono ?_; rintro e w' ⟨rfl, rfl⟩)) | (go_at_call 20; refine (CM _).mono ?_; clear CM; rintro e w2 ⟨rfl, hg⟩))
          go_ret
          exact ⟨ret_bool (by rw [unhide HU, decide_eq_true x0]), hg⟩
        · go_enter Tryd.func22, Tryd.ntmps22
          go_wp2_with (first | (go_at_call 13; first | (refine C1.mono ?_; clear C1; rintro e w' ⟨rfl, rfl⟩) | (refine C2.mono ?_; rintro e w' ⟨rfl, rfl⟩)) | (go_at_call 20; refine (CM _).mono ?_; clear CM; rintro e w2 ⟨rfl, hg⟩))
          go_ret
          exact ⟨ret_bool (by rw [unhide HU, decide_eq_false x0]; simpa using x0), hg⟩
      · have HU : Hid (underO l m = false) := by unfold underO; rw [o1, o2, decide_eq_false hlt]; rfl
        clear o1 o2
        have z1 : ¬ (m.length : Int) ≤ (l.length : Int) := by omega
        go_enter Tryd.func22, Tryd.ntmps22
        go_wp2_with (first | (go_at_call 13; first | (refine C1.mono ?_; clear C1; rintro e w' ⟨rfl, rfl⟩) | (refine C2.mono ?_; rintro e w' ⟨rfl, rfl⟩)))
        go_ret
        exact ⟨ret_bool (unhide HU).symm, Gr.refl _⟩
set_option maxHeartbeats 800000 in
theorem same17_any (a b : Option Addr) (l m : List Int) (c d : Nat) (w : World) (h1 : Row w (.slice a l.length c) l) (h2 : Row w (.slice b m.length d) m) (hl : l.length ≤ 9223372036854775806) (hm : m.length ≤ 9223372036854775806) :
    Calls Tryd.prog 14 #[.slice a l.length c, .slice b m.length d] w fun e w' => e = .returned (.bool (decide (l = m))) ∧ Gr w w' := by
  have CM := rcmp_any _ _ l m w h1 h2 hl hm
  clear h1 h2
  by_cases hlen : l.length = m.length
  · rw [hlen] at CM ⊢
    clear hlen
    by_cases h : l = m
    · have HU : Hid (decide (l = m) = true) := decide_eq_true h
      rw [show cmpL l m = 0 by rw [h]; exact cmp_self m] at CM
      clear h
      go_enter Tryd.func14, Tryd.ntmps14
      go_wp2_with (go_at_call 20; refine CM.mono ?_; clear CM; rintro e w2 ⟨rfl, hg⟩)
      go_ret
      exact ⟨ret_bool (unhide HU).symm, hg⟩
    · have HU : Hid (decide (l = m) = false) := decide_eq_false h
      have x0 : ¬ cmpL l m = 0 := fun e => h (cmp_zero _ _ e)
      clear h
      generalize cmpL l m = x at *
      go_enter Tryd.func14, Tryd.ntmps14
      go_wp2_with (go_at_call 20; refine CM.mono ?_; clear CM; rintro e w2 ⟨rfl, hg⟩)
      go_ret
      exact ⟨ret_bool (by rw [unhide HU]; simpa using x0), hg⟩
  · have z1 : ¬ (l.length : Int) = (m.length : Int) := by omega
    have HU : Hid (decide (l = m) = false) := decide_eq_false (fun e => hlen (by rw [e]))
    clear CM
    go_enter Tryd.func14, Tryd.ntmps14
    go_wp2
    go_ret
    exact ⟨ret_bool (unhide HU).symm, Gr.refl _⟩
end Go.Proofs.YtifalmpcjkpodaaDoor
