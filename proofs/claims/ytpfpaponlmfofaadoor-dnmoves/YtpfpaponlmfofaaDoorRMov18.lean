/- The document's Above and Below of layer 18. -/
import Derived.Test.YtpfpaponlmfofaaDoorDr18
namespace Go.Proofs.YtpfpaponlmfofaaDoor
set_option maxRecDepth 100000
open Go.RowKit

set_option maxHeartbeats 1600000 in
theorem rabove_any (v : Value) (n : List (List Pr)) (w : World) (hV : NmV w v n) :
    Calls Tryd.prog 23 #[v] w fun e w' => ∃ v', e = .returned (.tuple #[v', .bool (abB n)]) ∧ NmV w' v' (abN n) ∧ Below w.heap.size w w' := by
  have CC := hide ((rcheck_any v n w hV).mono fun _ _ ⟨a, b⟩ => (⟨a, b.symm⟩ : _ ∧ w = _))
  cases hk : okN n
  · have e1 : abB n = false := by unfold abB; rw [hk]; rfl
    have e2 : abN n = [] := by unfold abN; rw [e1]; rfl
    rw [e1, e2]
    rw [chk_no hk] at CC
    clear e1 e2 hk hV
    go_enter Tryd.func23, Tryd.ntmps23
    go_wp2_with (go_at_call 14; refine (unhide CC).mono ?_; rintro e w3 ⟨rfl, rfl⟩)
    go_ret2
    exact ⟨_, rfl, NmV.nil _ _ _, Below.refl _ _⟩
  rw [chk_yes hk] at CC
  by_cases h0 : n.length = 0
  · have e1 : abB n = false := by unfold abB; rw [decide_eq_false (by omega), Bool.and_false]
    have e2 : abN n = [] := by unfold abN; rw [e1]; rfl
    rw [e1, e2]
    obtain rfl : n = [] := List.length_eq_zero_iff.1 h0
    obtain ⟨a, cap, rfl, _⟩ := hV
    clear e1 e2 hk
    go_enter Tryd.func23, Tryd.ntmps23
    go_wp2_with (go_at_call 14; refine (unhide CC).mono ?_; rintro e w3 ⟨rfl, rfl⟩)
    go_ret2
    exact ⟨_, rfl, NmV.nil _ _ _, Below.refl _ _⟩
  have e1 : abB n = true := by unfold abB; rw [hk, decide_eq_true h0]; rfl
  have e2 : abN n = n.drop 1 := by unfold abN; rw [if_pos e1]
  rw [e1, e2]
  obtain ⟨a, cap, rfl, hcap, hn, hc⟩ := hV
  obtain ⟨b, off, rfl, hce⟩ := hc (by omega)
  have HT := hide (NmV.tail hn hcap hce)
  have z0 : ((n.length : Int) == 0) = false := by rw [beq_eq_false_iff_ne]; omega
  have z1 : (1 : Int) ≤ (n.length : Int) := by omega
  have z2 : (n.length : Int) ≤ (cap : Int) := by omega
  clear e1 e2 hk hc hce
  by_cases hc1 : cap = 1
  · have hn1 : n.length = 1 := by omega
    have HD0 : Hid (n.drop 1 = []) := List.drop_eq_nil_of_le (by omega)
    rw [unhide HD0]
    subst hc1
    rw [hn1] at CC ⊢
    clear HT HD0 hn1 hn z0 z1 z2 hcap h0
    go_enter Tryd.func23, Tryd.ntmps23
    go_wp2_with (go_at_call 14; refine (unhide CC).mono ?_; rintro e w3 ⟨rfl, rfl⟩)
    go_ret2
    exact ⟨_, rfl, NmV.nil _ _ _, Below.refl _ _⟩
  · have z3 : ¬ (cap : Int) = 1 := by omega
    generalize n.drop 1 = m at *
    go_enter Tryd.func23, Tryd.ntmps23
    go_wp2_with (go_at_call 14; refine (unhide CC).mono ?_; rintro e w3 ⟨rfl, rfl⟩)
    go_ret2
    exact ⟨_, rfl, unhide HT, Below.refl _ _⟩
/-- A row of one part that came in, and of parts that came in. -/
theorem nm_join {w2 : World} {B : Nat} {rv v3 : Value} {r : List Pr} {n : List (List Pr)} {vs : List Value} (hr : PsV w2 rv r) (hl : vs.length = n.length) (hn : ∀ j, j < n.length → PsV w2 (vs.getD j undef) (n.getD j [])) (hn6 : n.length ≤ 6) (ho : w2.ownsRow B 40 1 v3 (1 + n.length) ([rv] ++ vs)) : NmV w2 v3 (r :: n) := by
  rcases ho.2 with ⟨_, h0⟩ | ⟨g, cap, cur, hv, _, _, hc, _⟩
  · omega
  · refine ⟨some ⟨g, 0, none⟩, cap, by rw [hv, List.length_cons, Nat.add_comm], by rw [List.length_cons]; omega, by rw [List.length_cons]; omega, fun _ => ⟨g, 0, rfl, fun j hj => ?_⟩⟩
    have hcell : ∀ (j : Nat) u, ([rv] ++ vs)[j]? = some u → w2.cell? ⟨g, 0 + j, none⟩ = some u := fun j u hu => by
      have := World.ownsRow.cells ho (g := g) (by rw [hv]; rfl) j u hu
      rw [add_zero3] at this
      rw [Nat.zero_add]
      exact this
    cases j with
    | zero => exact ⟨rv, hcell 0 rv rfl, hr⟩
    | succ j =>
      have hj' : j < n.length := by simpa using hj
      refine ⟨vs.getD j undef, hcell (j + 1) _ (by simp [List.getD, show j < vs.length by omega]), ?_⟩
      simpa using hn j hj'
theorem own_one (w : World) (rv : Value) : (w.alloc (.cells #[rv] 40)).ownsRow w.heap.size 40 1 (.slice (some ⟨w.heap.size, 0, none⟩) 1 1) 1 [rv] :=
  ⟨rfl, .inr ⟨w.heap.size, 1, #[rv], rfl, Nat.le_refl _, heap_new w _, Nat.le_refl _, by unfold maxLen; omega, rfl, rfl⟩⟩
theorem ps_one {w : World} {v : Value} {r : List Pr} (h : PsV w v r) : v.oneCell' = true := by
  obtain ⟨a, c, rfl⟩ := h.shape
  rfl
/-- The cells of parts that came in. -/
theorem nm_cells {w : World} {b off : Nat} {n : List (List Pr)} (hc : ∀ j, j < n.length → ∃ rv, w.cell? ⟨b, off + j, none⟩ = some rv ∧ PsV w rv (n.getD j [])) : ∃ vs : List Value, vs.length = n.length ∧ ∀ j, j < n.length → w.cell? ⟨b, off + j, none⟩ = some (vs.getD j undef) ∧ PsV w (vs.getD j undef) (n.getD j []) := by
  refine ⟨(List.range n.length).map fun j => (w.cell? ⟨b, off + j, none⟩).getD undef, by simp, fun j hj => ?_⟩
  obtain ⟨rv, h1, h2⟩ := hc j hj
  have e : ((List.range n.length).map fun j => (w.cell? ⟨b, off + j, none⟩).getD undef).getD j undef = rv := by simp [List.getD, hj, h1]
  rw [e]
  exact ⟨h1, h2⟩
set_option maxHeartbeats 3200000 in
theorem rbelow_any (v rv : Value) (n : List (List Pr)) (r : List Pr) (w : World) (hV : NmV w v n) (hR : PsV w rv r) :
    Calls Tryd.prog 25 #[v, rv] w fun e w' => ∃ v', e = .returned (.tuple #[v', .int .i64 (blE n r)]) ∧ NmV w' v' (blN n r) ∧ Below w.heap.size w w' := by
  obtain ⟨j0, ji, jz0, jz1, jz2⟩ := info_parts rdn_info
  have C1 := hide ((rcheck_any v n w hV).mono fun _ _ ⟨a, b⟩ => (⟨a, b.symm⟩ : _ ∧ w = _))
  have C2 : Hid (Calls Tryd.prog 14 #[.slice (some ⟨w.heap.size, 0, none⟩) 1 1] (w.alloc (.cells #[rv] 40)) fun e w' => e = .returned (.int .i64 (chkN [r])) ∧ Below w.heap.size w w') := (rcheck_any _ [r] _ (one_nm hR 40)).mono fun _ _ ⟨a, b⟩ => ⟨a, b ▸ Below.one w _⟩
  have HV := hide hV
  have HR := hide hR
  obtain ⟨ra, rc, hrv⟩ := hR.shape
  obtain ⟨na, nc, hnv⟩ := hV.shape
  subst hrv
  subst hnv
  clear hV hR
  cases hk : okN n
  · have e1 : blB n r = false := by unfold blB; rw [hk]; rfl
    have e2 : blN n r = [] := by unfold blN; rw [e1]; rfl
    have e3 : blE n r = 220 := by unfold blE; rw [e1]; rfl
    rw [e2, e3]
    rw [chk_no hk] at C1
    clear hk e1 e2 e3 C2
    go_enter Tryd.func25, Tryd.ntmps25
    go_wp2_with (go_at_call 14; refine (unhide C1).mono ?_; rintro e w1 ⟨rfl, rfl⟩)
    go_ret2
    exact ⟨_, rfl, NmV.nil _ _ _, Below.refl _ _⟩
  rw [chk_yes hk] at C1
  have l6 := (ok_lens hk).1
  by_cases h6 : n.length = 6
  · have e1 : blB n r = false := by unfold blB; rw [decide_eq_false (by omega), Bool.and_false, Bool.and_false]
    have e2 : blN n r = [] := by unfold blN; rw [e1]; rfl
    have e3 : blE n r = 220 := by unfold blE; rw [e1]; rfl
    rw [e2, e3]
    rw [h6] at C1 ⊢
    clear hk e1 e2 e3 HV h6 l6 C2
    go_enter Tryd.func25, Tryd.ntmps25
    go_wp2_with (go_at_call 14; refine (unhide C1).mono ?_; rintro e w1 ⟨rfl, rfl⟩)
    go_ret2
    exact ⟨_, rfl, NmV.nil _ _ _, Below.refl _ _⟩
  have z5 : ¬ 5 < (n.length : Int) := by omega
  cases hk2 : okN [r]
  · have e1 : blB n r = false := by unfold blB; rw [hk2, Bool.false_and, Bool.and_false]
    have e2 : blN n r = [] := by unfold blN; rw [e1]; rfl
    have e3 : blE n r = 220 := by unfold blE; rw [e1]; rfl
    rw [e2, e3]
    rw [chk_no hk2] at C2
    clear hk hk2 e1 e2 e3
    go_enter Tryd.func25, Tryd.ntmps25
    go_wp2_with (first
      | (go_at_call 14; have M1 := F1; refine (unhide C2).mono ?_; rintro e w2 ⟨rfl, b2⟩)
      | (go_at_call 14; refine (unhide C1).mono ?_; rintro e w1 ⟨rfl, rfl⟩; have F1 := trivial))
    go_ret2
    exact ⟨_, rfl, NmV.nil _ _ _, b2⟩
  rw [chk_yes hk2] at C2
  have e1 : blB n r = true := by unfold blB; rw [hk, hk2, decide_eq_true h6]; rfl
  have e2 : blN n r = r :: n := by unfold blN; rw [e1]; rfl
  have e3 : blE n r = 0 := by unfold blE; rw [e1]; rfl
  rw [e2, e3]
  clear e1 e2 e3 hk hk2
  by_cases h0 : n.length = 0
  · obtain rfl : n = [] := List.length_eq_zero_iff.1 h0
    clear h0 h6 l6 z5
    cases na with
    | none =>
      go_enter Tryd.func25, Tryd.ntmps25
      go_wp2_with (first
      | (go_at_call 14; have M1 := F1; refine (unhide C2).mono ?_; rintro e w2 ⟨rfl, b2⟩; have s2 := b2.size; have b3 := b2.alloc s2 (.cells #[.slice ra r.length rc] 40); have O2 := hide (own_one w2 (.slice ra r.length rc)))
      | (go_at_call 14; refine (unhide C1).mono ?_; rintro e w1 ⟨rfl, rfl⟩; have F1 := trivial))
      go_ret2
      exact ⟨_, rfl, one_nm ((unhide HR).below b2) _, b3⟩
    | some ad =>
      go_enter Tryd.func25, Tryd.ntmps25
      go_wp2_with (first
      | (at_builtin; refine wpList_append_own_at _ rfl _ _ 23 rfl w2.heap.size 40 j0 _ 1 24 Tryd.underlying23 ji jz0 jz1 jz2 rfl (by omega) _ 1 [.slice ra r.length rc] rfl (unhide O2) ad 0 nc [] rfl rfl (fun j u h => by simp at h) (fun u h => by simp at h) (by unfold maxLen; omega) (by omega) (by simp) ?_; intro v9 w9 hown9 hgrow9 hnil9 hat9; clear hnil9 hat9; have b9 := b3.trans (below_own hgrow9 (by simp; omega) (fun g e => by have := own_block (unhide O2) g e; omega)))
      | (go_at_call 14; have M1 := F1; refine (unhide C2).mono ?_; rintro e w2 ⟨rfl, b2⟩; have s2 := b2.size; have b3 := b2.alloc s2 (.cells #[.slice ra r.length rc] 40); have O2 := hide (own_one w2 (.slice ra r.length rc)))
      | (go_at_call 14; refine (unhide C1).mono ?_; rintro e w1 ⟨rfl, rfl⟩; have F1 := trivial))
      go_ret2
      exact ⟨_, rfl, nm_join (vs := []) ((unhide HR).below b9) rfl (fun j hj => absurd hj (Nat.not_lt_zero _)) (by simp) hown9, b9⟩
  · obtain ⟨a', nc', hnv, hcap, hn, hc⟩ := unhide HV
    cases hnv
    obtain ⟨b, off, rfl, hce⟩ := hc (by omega)
    obtain ⟨vs, hvl, hvc⟩ := nm_cells hce
    clear hc hce
    have hm1 : 1 + n.length ≤ maxLen := by unfold maxLen; omega
    have hm2 : (1 + n.length) * 24 ≤ 140737488355328 := by omega
    have hpos : 0 < n.length := by omega
    have HVC := hide hvc
    have HVL := hide hvl
    have HO1 : Hid (∀ u ∈ vs, u.oneCell' = true) := fun u hu => by
      obtain ⟨k, hk, rfl⟩ := List.getElem_of_mem hu
      have := (hvc k (by omega)).2
      have e : vs.getD k undef = vs[k] := by simp [List.getD, hk]
      rw [e] at this
      exact ps_one this
    have HNW : Hid (∀ W, Below w.heap.size w W → ∀ j u, vs[j]? = some u → W.cell? ((⟨b, off, none⟩ : Addr).add j) = some u) := fun W hb j u hu => by
      have hj : j < vs.length := (List.getElem?_eq_some_iff.1 hu).1
      have hc := (unhide HVC j (by omega)).1
      have e : vs.getD j undef = u := by simp [List.getD, hu]
      rw [e] at hc
      have e2 : (⟨b, off, none⟩ : Addr).add j = ⟨b, off + j, none⟩ := by unfold Addr.add; split <;> simp_all
      rw [e2]
      exact (hb.cell (cell_lt hc)).trans hc
    clear hvl hvc hn
    have HPV : Hid (∀ W, Below w.heap.size w W → ∀ j, j < n.length → PsV W (vs.getD j undef) (n.getD j [])) := fun W hb j hj => (unhide HVC j hj).2.below hb
    go_enter Tryd.func25, Tryd.ntmps25
    go_wp2_with (first
      | (at_builtin; refine wpList_append_lies _ rfl _ _ 23 rfl w2.heap.size 40 j0 _ 1 24 Tryd.underlying23 ji jz0 jz1 jz2 rfl (by omega) _ 1 [.slice ra r.length rc] rfl (unhide O2) ⟨b, off, none⟩ n.length nc vs rfl (by rw [unhide HVL, Nat.mul_one]) (unhide HNW _ b3) (unhide HO1) hpos hm1 hm2 (by simp) (w2.heap.size + 1) (by simp) ?_; intro g9 cap9 w9 hown9 hgrow9 hat9 hlt9; have b9 := b3.trans (below_own hgrow9 (by simp; omega) (fun g e => by have := own_block (unhide O2) g e; omega)))
      | (go_at_call 14; have M1 := F1; refine (unhide C2).mono ?_; rintro e w2 ⟨rfl, b2⟩; have s2 := b2.size; have b3 := b2.alloc s2 (.cells #[.slice ra r.length rc] 40); have O2 := hide (own_one w2 (.slice ra r.length rc)))
      | (go_at_call 14; refine (unhide C1).mono ?_; rintro e w1 ⟨rfl, rfl⟩; have F1 := trivial))
    go_ret2
    exact ⟨_, rfl, nm_join ((unhide HR).below b9) (unhide HVL) (unhide HPV _ b9) l6 hown9, b9⟩
end Go.Proofs.YtpfpaponlmfofaaDoor
