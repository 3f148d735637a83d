/- The document's Above of layer 17. -/
import Derived.Test.YtifalmpcjkpodaaDoorRPar17
namespace Go.Proofs.YtifalmpcjkpodaaDoor
set_option maxRecDepth 100000
open Go.RowKit

theorem Row.news {w : World} {b off n c : Nat} {l : List Int} (h : Row w (.slice (some ⟨b, off, none⟩) n c) l) : ∀ j v, (l.map (Value.int .i64))[j]? = .some v → w.cell? ((⟨b, off, none⟩ : Addr).add j) = .some v := fun j v hv => by
  obtain ⟨a', cap', e, hc⟩ := h
  cases e
  have hj : j < l.length := by have := (List.getElem?_eq_some_iff.1 hv).1; simpa using this
  obtain ⟨b', off', e', hcc⟩ := hc (by omega)
  cases e'
  have hadd : (⟨b, off, none⟩ : Addr).add j = ⟨b, off + j, none⟩ := by unfold Addr.add; split <;> simp_all
  rw [hadd, hcc j hj, ← hv]
  simp [List.getD, hj]
theorem Row.grow {a b : World} (h : Gr a b) {v : Value} {l : List Int} (hc : Row a v l) : Row b v l := hc.below h.below
set_option maxHeartbeats 1600000 in
theorem rabove_any (a : Option Addr) (cap : Nat) (l : List Int) (w : World) (hR : Row w (.slice a l.length cap) l) (hcap : l.length ≤ cap) (hn : l.length ≤ 9223372036854775807) :
    Calls Tryd.prog 16 #[.slice a l.length cap] w fun e w' => ∃ v, e = .returned v ∧ Rn w.heap.size v (aboveO l) w' ∧ Below w.heap.size w w' := by
  obtain ⟨i0, hi, hz0, hz1, hz2⟩ := info_parts elem_info
  have C1 := rcheck_any _ l w hR hn
  cases ho : okO l
  · have HE : Hid (aboveO l = []) := by show _ = _; unfold aboveO; rw [if_neg (by simp [ho])]
    rw [chk_no ho] at C1
    clear ho hR
    go_enter Tryd.func16, Tryd.ntmps16
    go_wp2_with (go_at_call 13; refine C1.mono ?_; rintro e w' ⟨rfl, rfl⟩)
    go_ret
    exact ⟨_, rfl, by rw [unhide HE]; exact Rn.nil _ _, Below.refl _ _⟩
  · rw [chk_yes ho] at C1
    by_cases h2 : l.length = 2
    · have HE : Hid (aboveO l = []) := by show _ = _; unfold aboveO; rw [if_neg (by simp [h2])]
      clear ho hR
      rw [h2] at C1 ⊢
      go_enter Tryd.func16, Tryd.ntmps16
      go_wp2_with (go_at_call 13; refine C1.mono ?_; rintro e w' ⟨rfl, rfl⟩)
      go_ret
      exact ⟨_, rfl, by rw [unhide HE]; exact Rn.nil _ _, Below.refl _ _⟩
    · obtain ⟨hl1, hl2⟩ := okO_len ho
      obtain ⟨m, hm⟩ : ∃ m, l.length = m + 1 := ⟨l.length - 1, by omega⟩
      have HE : Hid (aboveO l = l.take m) := by show _ = _; unfold aboveO; rw [if_pos ⟨ho, h2⟩, hm]; rfl
      have HT : Hid ((l.take m).length = m) := by show _ = _; rw [List.length_take]; omega
      obtain ⟨a', cap', e, hc⟩ := hR
      cases e
      obtain ⟨b, off, rfl, hc2⟩ := hc (by omega)
      have hR : Row w (.slice (some ⟨b, off, none⟩) l.length cap) l := ⟨_, _, rfl, fun _ => ⟨b, off, rfl, hc2⟩⟩
      have HR := hide (hR.take m cap (by omega))
      clear hc hc2 hR ho
      rw [hm] at C1 h2 hcap hl1 hl2 ⊢
      clear hm
      have z1 : ¬ ((m : Int) + 1) = 2 := by omega
      have z2 : (m : Int) ≤ (cap : Int) := by omega
      have z3 : (0 : Int) ≤ (m : Int) := by omega
      have z4 : IntKind.i64.wrap ((m : Int) + 1 - 1) = m := wrap_in (by omega) (by omega) |>.trans (by omega)
      have hm1 : 0 + m ≤ maxLen := by unfold maxLen; omega
      have hm2 : (0 + m) * 8 ≤ 140737488355328 := by omega
      go_enter Tryd.func16, Tryd.ntmps16
      go_wp2_with (first
        | (go_at_call 13; refine C1.mono ?_; rintro e w' ⟨rfl, rfl⟩)
        | (at_builtin; refine wpList_append_lies _ rfl _ _ 22 rfl w'.heap.size 3 i0 _ 1 8 Tryd.underlying22 hi hz0 hz1 hz2 rfl (by omega) _ 0 _ rfl (own_nil w' w'.heap.size (Nat.le_refl _)) ⟨b, off, none⟩ m _ ((l.take m).map (Value.int .i64)) rfl (by rw [List.length_map, unhide HT, Nat.mul_one]) (Row.news (Row.grow (Gr.one w' _) (unhide HR))) (ints_one _) (by omega) hm1 hm2 (by simp) (w'.heap.size + 1) (by simp) ?_; intro g9 cap9 w9 hown9 hgrow9 hat9 hlt9))
      go_ret
      refine ⟨_, rfl, ?_, (Gr.one w' _).below.trans (below_own hgrow9 (by simp) (own_block (own_nil w' w'.heap.size (Nat.le_refl _))))⟩
      rw [unhide HE]
      unfold Rn
      rw [unhide HT]
      simpa using hown9
end Go.Proofs.YtifalmpcjkpodaaDoor
