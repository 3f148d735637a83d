/- The landed Cmp, Under and Above of layer 17. -/
import Derived.Test.YtifalmpcjkpodaaDoorDa17
namespace Go.Proofs.YtifalmpcjkpodaaDoor
set_option maxRecDepth 100000
open Go.RowKit

/-- A slice is not longer than its room. -/
def Fits (v : Value) : Prop := ∀ a n c, v = .slice a n c → n ≤ c
theorem Rn.fits {w : World} {B : Nat} {v : Value} {l : List Int} (h : Rn B v l w) : Fits v := by
  rcases h.2 with ⟨hv, h0⟩ | ⟨g, cap, cur, hv, _, _, hcap, _⟩
  · intro a n c e; rw [hv] at e; cases e; exact Nat.le_refl _
  · intro a n c e; rw [hv] at e; cases e; exact hcap
set_option maxHeartbeats 800000 in
theorem ocmp_w (v1 v2 : Value) (l m : List Int) (w : World) (hl : l.length ≤ 9223372036854775806) (hm : m.length ≤ 9223372036854775806) (h1 : Row w v1 l) (h2 : Row w v2 m) : Calls Tryd.prog 19 #[v1, v2] w fun e w' => e = .returned (.int .i64 (cmpL l m)) ∧ w' = w := by
  have H := compare_any v1 v2 l m w hl hm h1 h2
  generalize cmpL l m = x at *
  go_enter Tryd.func19, Tryd.ntmps19
  go_wp2_with (go_at_call 29; refine H.mono ?_; rintro e w1 ⟨rfl, rfl⟩)
  go_ret
  exact ⟨rfl, rfl⟩
theorem equal_any (a1 a2 : Option Addr) (l m : List Int) (c d : Nat) (w : World) (hl : l.length ≤ 9223372036854775806) (hm : m.length ≤ 9223372036854775806) (h0 : 0 < l.length) (k0 : 0 < m.length) (h1 : Row w (.slice a1 l.length c) l) (h2 : Row w (.slice a2 m.length d) m) :
    Calls Tryd.prog 30 #[.slice a1 l.length c, .slice a2 m.length d] w fun e w' => e = .returned (.bool (decide (cmpL l m = 0))) ∧ Below w.heap.size w w' := by
  obtain ⟨a', c', e1, k1⟩ := h1
  cases e1
  obtain ⟨b', d', e2, k2⟩ := h2
  cases e2
  obtain ⟨b1, o1, rfl, hc1⟩ := k1 h0
  obtain ⟨b2, o2, rfl, hc2⟩ := k2 k0
  refine (Any.slices_Equal_int lays111 b1 o1 l.length c b2 o2 m.length d l m w (Nat.le_refl _) (Nat.le_refl _) (by omega) (by omega) hc1 hc2).mono fun e w' ⟨he, q, hw⟩ => ⟨?_, ?_⟩
  · rw [he, List.take_length, List.take_length]
    congr 2
    rw [Bool.eq_iff_iff]
    simp only [beq_iff_eq, decide_eq_true_eq]
    exact ⟨fun e => by rw [e]; exact cmp_self _, cmp_zero _ _⟩
  · rw [hw]; exact below_drewN (Below.refl _ _) _
set_option maxHeartbeats 1600000 in
theorem ounder_w (a b : Option Addr) (l m : List Int) (c d : Nat) (w : World) (h1 : Row w (.slice a l.length c) l) (h2 : Row w (.slice b m.length d) m) (hc : l.length ≤ c) (hl : l.length ≤ 9223372036854775806) (hm : m.length ≤ 9223372036854775806) :
    Calls Tryd.prog 21 #[.slice a l.length c, .slice b m.length d] w fun e w' => e = .returned (.bool (underO l m)) ∧ Below w.heap.size w w' := by
  have C1 := ocheck_w _ l w (by omega) h1
  have C2 := ocheck_w _ m w (by omega) h2
  have H1 := hide h1
  have H2 := hide h2
  clear h1 h2
  cases o1 : okO l
  · have HU : Hid (underO l m = false) := by unfold underO; rw [o1]; rfl
    rw [chk_no o1] at C1
    clear o1
    go_enter Tryd.func21, Tryd.ntmps21
    go_wp2_with (first | (go_at_call 12; refine C1.mono ?_; rintro e w' ⟨rfl, rfl⟩))
    go_ret
    exact ⟨ret_bool (unhide HU).symm, Below.refl _ _⟩
  · rw [chk_yes o1] at C1
    cases o2 : okO m
    · have HU : Hid (underO l m = false) := by unfold underO; rw [o1, o2]; rfl
      rw [chk_no o2] at C2
      clear o1 o2
      go_enter Tryd.func21, Tryd.ntmps21
      go_wp2_with (first | (go_at_call 12; first | (refine C1.mono ?_; clear C1; rintro e w' ⟨rfl, rfl⟩) | (refine C2.mono ?_; rintro e w' ⟨rfl, rfl⟩)))
      go_ret
      exact ⟨ret_bool (unhide HU).symm, Below.refl _ _⟩
    · rw [chk_yes o2] at C2
      by_cases hlt : m.length ≤ l.length
      · have HU : Hid (underO l m = decide (cmpL (l.take m.length) m = 0)) := by unfold underO; rw [o1, o2, decide_eq_true hlt]; rfl
        have hm2 := okO_len o2
        clear o1 o2
        have z0 : ¬ (l.length : Int) < (m.length : Int) := by omega
        have z1 : (m.length : Int) ≤ (l.length : Int) := by omega
        have z2 : (m.length : Int) ≤ (c : Int) := by omega
        have z3 : (0 : Int) ≤ (m.length : Int) := by omega
        have z4 : ((m.length : Int)).toNat = m.length := by omega
        have et : (l.take m.length).length = m.length := by simp; omega
        have CM : ∀ c', Calls Tryd.prog 30 #[.slice a m.length c', .slice b m.length d] w fun e w' => e = .returned (.bool (decide (cmpL (l.take m.length) m = 0))) ∧ Below w.heap.size w w' := fun c' => by
          have := equal_any a b (l.take m.length) m c' d w (by omega) hm (by omega) (by omega) (by rw [et]; exact (unhide H1).take m.length c' hlt) (unhide H2)
          rwa [et] at this
        generalize decide (cmpL (l.take m.length) m = 0) = x at *
        clear et hm2
        go_enter Tryd.func21, Tryd.ntmps21
        go_wp2_with (first | (go_at_call 12; first | (refine C1.mono ?_; clear C1; rintro e w' ⟨rfl, rfl⟩) | (refine C2.mono ?_; clear C2; rintro e w' ⟨rfl, rfl⟩)) | (go_at_call 30; refine (CM _).mono ?_; clear CM; rintro e w2 ⟨rfl, hg⟩))
        go_ret
        exact ⟨ret_bool (unhide HU).symm, hg⟩
      · have HU : Hid (underO l m = false) := by show _ = _; unfold underO; rw [decide_eq_false hlt]; simp
        clear o1 o2
        have z0 : (l.length : Int) < (m.length : Int) := by omega
        go_enter Tryd.func21, Tryd.ntmps21
        go_wp2_with (first | (go_at_call 12; first | (refine C1.mono ?_; clear C1; rintro e w' ⟨rfl, rfl⟩) | (refine C2.mono ?_; clear C2; rintro e w' ⟨rfl, rfl⟩)))
        go_ret
        exact ⟨ret_bool (unhide HU).symm, Below.refl _ _⟩

theorem eqnil_some (ad : Addr) (n c : Nat) (w : World) : (binOp .eql 22 (.slice (some ad) n c) (.slice none 0 0)).run Tryd.prog w = .ok (.bool false) w := by kernel_rfl
set_option maxHeartbeats 800000 in
theorem clone17 (b off n cap : Nat) (l : List Int) (w : World) (hn : n = l.length) (hlen : l.length ≤ 1000) (h0 : 0 < l.length) (hcc : ∀ j, j < l.length → w.cell? ⟨b, off + j, none⟩ = some (.int .i64 (l.getD j 0))) :
    Calls Tryd.prog 26 #[.slice (some ⟨b, off, none⟩) n cap] w fun e w' => ∃ v', e = .returned v' ∧ Rn w.heap.size v' l w' ∧ Below w.heap.size w w' := by
  subst hn
  obtain ⟨i0, hi, hz0, hz1, hz2⟩ := info_parts elem_info
  have HNW : Hid (∀ j u, (l.map (Value.int .i64))[j]? = some u → (w.alloc (.cells #[] 3)).cell? ((⟨b, off, none⟩ : Addr).add j) = some u) := fun j u hu => by
    have hj : j < l.length := by have := (List.getElem?_eq_some_iff.1 hu).1; simpa using this
    have e : (⟨b, off, none⟩ : Addr).add j = ⟨b, off + j, none⟩ := by unfold Addr.add; split <;> simp_all
    have hu' : u = .int .i64 (l.getD j 0) := by
      rw [List.getElem?_map, List.getElem?_eq_getElem hj] at hu
      simp at hu
      rw [← hu]
      simp [List.getD, hj]
    rw [e, hu']
    exact (Gr.one w _).cell (hcc j hj)
  have HLM : Hid ((l.map (Value.int .i64)).length = l.length) := by show _ = _; simp
  have HON := hide (ints_one l)
  have HRN : Hid (∀ (v' : Value) (w' : World), w'.ownsRow w.heap.size 3 1 v' l.length (l.map (Value.int .i64)) → Rn w.heap.size v' l w') := fun v' w' h => h
  clear hcc
  generalize l.map (Value.int .i64) = news at *
  generalize l.length = n at *
  have hm1 : 0 + n ≤ maxLen := by unfold maxLen; omega
  have hE := eqnil_some ⟨b, off, none⟩ n cap
  go_enter Tryd.func26, Tryd.ntmps26
  go_wp2_with (at_builtin; refine wpList_append_lies _ rfl _ _ 22 rfl w.heap.size 3 i0 _ 1 8 Tryd.underlying22 hi hz0 hz1 hz2 rfl (by omega) _ 0 [] rfl (own_nil w _ (Nat.le_refl _)) ⟨b, off, none⟩ n cap news rfl (by rw [unhide HLM, Nat.mul_one]) (unhide HNW) (unhide HON) h0 hm1 (by omega) (by simp) (w.heap.size + 1) (by simp) ?_; intro g9 cap9 w9 hown9 hgrow9 hat9 hlt9)
  go_ret
  rw [Nat.zero_add, List.nil_append] at hown9
  exact ⟨_, rfl, unhide HRN _ _ hown9, (Below.one w _).trans (below_own hgrow9 (by simp) (own_block (own_nil w _ (Nat.le_refl _))))⟩
set_option maxHeartbeats 1600000 in
theorem oabove_w (a : Option Addr) (cap : Nat) (l : List Int) (w : World) (hR : Row w (.slice a l.length cap) l) (hcap : l.length ≤ cap) (hn : l.length ≤ 9223372036854775806) :
    Calls Tryd.prog 15 #[.slice a l.length cap] w fun e w' => ∃ v, e = .returned v ∧ Rn w.heap.size v (aboveO l) w' ∧ Below w.heap.size w w' := by
  have C1 := ocheck_w _ l w hn hR
  cases ho : okO l
  · have HE : Hid (aboveO l = []) := by show _ = _; unfold aboveO; rw [if_neg (by simp [ho])]
    rw [chk_no ho] at C1
    clear ho hR
    go_enter Tryd.func15, Tryd.ntmps15
    go_wp2_with (go_at_call 12; refine C1.mono ?_; rintro e w' ⟨rfl, rfl⟩)
    go_ret
    exact ⟨_, rfl, by rw [unhide HE]; exact Rn.nil _ _, Below.refl _ _⟩
  · rw [chk_yes ho] at C1
    by_cases h2 : l.length = 2
    · have HE : Hid (aboveO l = []) := by show _ = _; unfold aboveO; rw [if_neg (by simp [h2])]
      clear ho hR
      rw [h2] at C1 ⊢
      go_enter Tryd.func15, Tryd.ntmps15
      go_wp2_with (go_at_call 12; refine C1.mono ?_; rintro e w' ⟨rfl, rfl⟩)
      go_ret
      exact ⟨_, rfl, by rw [unhide HE]; exact Rn.nil _ _, Below.refl _ _⟩
    · obtain ⟨hl1, hl2⟩ := okO_len ho
      obtain ⟨m, hm⟩ : ∃ m, l.length = m + 1 := ⟨l.length - 1, by omega⟩
      have HE : Hid (aboveO l = l.take m) := by show _ = _; unfold aboveO; rw [if_pos ⟨ho, h2⟩, hm]; rfl
      have ht : (l.take m).length = m := by rw [List.length_take]; omega
      obtain ⟨a', cap', e, hc⟩ := hR
      cases e
      obtain ⟨b, off, rfl, hc2⟩ := hc (by omega)
      have CL := fun c => clone17 b off m c (l.take m) w ht.symm (by omega) (by omega) fun j hj => by
        rw [ht] at hj
        rw [hc2 j (by omega)]
        simp [List.getD, hj]
      clear hc hc2 ho ht
      rw [hm] at C1 h2 hcap hl1 hl2 ⊢
      clear hm
      generalize l.take m = q at *
      have z1 : ¬ ((m : Int) + 1) = 2 := by omega
      have z2 : (m : Int) ≤ (cap : Int) := by omega
      have z3 : (0 : Int) ≤ (m : Int) := by omega
      have z4 : IntKind.i64.wrap ((m : Int) + 1 - 1) = m := wrap_in (by omega) (by omega) |>.trans (by omega)
      go_enter Tryd.func15, Tryd.ntmps15
      go_wp2_with (first
        | (go_at_call 26; refine (CL _).mono ?_; rintro e w2 ⟨v2, rfl, r2, b2⟩)
        | (go_at_call 12; refine C1.mono ?_; rintro e w' ⟨rfl, rfl⟩))
      go_ret
      exact ⟨_, rfl, by rw [unhide HE]; exact r2, b2⟩
end Go.Proofs.YtifalmpcjkpodaaDoor
