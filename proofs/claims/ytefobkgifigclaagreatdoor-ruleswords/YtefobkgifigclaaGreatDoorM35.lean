/- The landed Parse and Rdn of layer 18. -/
import Derived.Test.YtefobkgifigclaaGreatDoorM33
import Derived.Test.YtefobkgifigclaaGreatDoorM34
import Derived.OwnWalk
namespace Go.Proofs.YtefobkgifigclaaGreatDoor.S18
set_option maxRecDepth 100000
open Go.RowKit

theorem ret_ve {v : Value} {c d : Int} (h : c = d) : Ending.returned (.tuple #[v, .int .i64 c]) = .returned (.tuple #[v, .int .i64 d]) := by rw [h]
set_option maxHeartbeats 3200000 in
theorem parse_any (s : ByteArray) (w : World) (hL : Ly w) :
    Calls Tryz.prog 56 #[.string s] w fun e w' => ∃ v, e = .returned (.tuple #[v, .int .i64 (parE (nums s))]) ∧ NmV w' v (parN (nums s)) ∧ Below w.heap.size w w' := by
  have hnl := nums_length s
  by_cases h1 : 3000 < s.size
  · obtain ⟨e1, e2⟩ := par_long (l := nums s) (by omega)
    rw [e1, e2]
    have z1 : 3000 < (s.size : Int) := by omega
    clear e1 e2
    go_enter Tryz.func56, Tryz.ntmps56
    go_wp2
    go_ret2
    exact ⟨_, rfl, NmV.nil _ _ _, Below.refl _ _⟩
  have z1 : ¬ 3000 < (s.size : Int) := by omega
  by_cases h2 : s.size = 0
  · have en : nums s = [] := List.length_eq_zero_iff.1 (by omega)
    rw [en, par_empty.1, par_empty.2]
    have hem := toList_none h2
    clear en hnl h2
    go_enter Tryz.func56, Tryz.ntmps56
    go_wp2
    go_ret2
    exact ⟨_, rfl, NmV.nil _ _ _, Below.refl _ _⟩
  have hem := toList_some (show 0 < s.size by omega)
  have CR := hide (rparts_any s w hL (by omega))
  cases hp : partsL ((nums s).length + 1) [] [] (nums s) with
  | none =>
    obtain ⟨e1, e2⟩ := par_no (l := nums s) (by omega) (by omega) (parR_none hp)
    rw [e1, e2]
    have HR : Hid (∀ v ok W, rtOk (nums s) v ok W → ok = false) := fun v ok W h => by unfold rtOk at h; rw [hp] at h; exact h
    clear hp e1 e2
    go_enter Tryz.func56, Tryz.ntmps56
    go_wp2_with (go_at_call 85; refine (unhide CR).mono ?_; rintro e w2 ⟨v, ok, rfl, h2, b2⟩; obtain rfl := unhide HR _ _ _ h2; clear h2)
    go_ret2
    exact ⟨_, rfl, NmV.nil _ _ _, b2⟩
  | some N =>
    have HR : Hid (∀ v ok W, rtOk (nums s) v ok W → ok = true ∧ NmV W v N) := fun v ok W h => by unfold rtOk at h; rw [hp] at h; exact h
    have hpr := parR_some hp
    have CC := hide (fun v W h => check_any v N W h)
    clear hp
    cases hk : okN N
    · rw [hk, if_neg (by decide)] at hpr
      obtain ⟨e1, e2⟩ := par_no (l := nums s) (by omega) (by omega) hpr
      rw [e1, e2]
      rw [chk_no hk] at CC
      clear hk hpr e1 e2
      go_enter Tryz.func56, Tryz.ntmps56
      go_wp2_with (first
        | (go_at_call 39; refine (unhide CC _ _ (unhide HV)).mono ?_; rintro e w3 ⟨rfl, g3⟩)
        | (go_at_call 85; refine (unhide CR).mono ?_; rintro e w2 ⟨v, ok, rfl, h2, b2⟩; obtain ⟨rfl, hv⟩ := unhide HR _ _ _ h2; have HV := hide hv; clear h2 hv))
      go_ret2
      exact ⟨_, rfl, NmV.nil _ _ _, b2.trans (g3.below.mono b2.size)⟩
    · rw [hk, if_pos rfl] at hpr
      obtain ⟨e1, e2⟩ := par_yes (l := nums s) (by omega) (by omega) hpr
      rw [e1, e2]
      rw [chk_yes hk] at CC
      clear hk hpr e1 e2
      go_enter Tryz.func56, Tryz.ntmps56
      go_wp2_with (first
        | (go_at_call 39; refine (unhide CC _ _ (unhide HV)).mono ?_; rintro e w3 ⟨rfl, g3⟩)
        | (go_at_call 85; refine (unhide CR).mono ?_; rintro e w2 ⟨v, ok, rfl, h2, b2⟩; obtain ⟨rfl, hv⟩ := unhide HR _ _ _ h2; have HV := hide hv; clear h2 hv))
      go_ret2
      exact ⟨_, rfl, (unhide HV).below g3.below, b2.trans (g3.below.mono b2.size)⟩
/-- The part of a text, and the error. -/
def rdnN (l : List Int) : List Pr := if parE l = 0 ∧ (parN l).length = 1 then (parN l).getD 0 [] else []
def rdnE (l : List Int) : Int := if parE l ≠ 0 then parE l else if (parN l).length = 1 then 0 else 220
end Go.Proofs.YtefobkgifigclaaGreatDoor.S18
/- The landed fresh of layer 18, over slices.Clone. -/
namespace Go.Proofs.YtefobkgifigclaaGreatDoor.S18
set_option maxRecDepth 100000
open Go.RowKit

theorem eqnil_some (ad : Addr) (n c : Nat) (w : World) : (binOp .eql 55 (.slice (some ad) n c) (.slice none 0 0)).run Tryz.prog w = .ok (.bool false) w := by kernel_rfl
theorem eqnil_none (n c : Nat) (w : World) : (binOp .eql 55 (.slice none n c) (.slice none 0 0)).run Tryz.prog w = .ok (.bool true) w := by kernel_rfl
theorem own_nil2 (w : World) (B : Nat) (hB : B ≤ w.heap.size) : (w.alloc (.cells #[] 53)).ownsRow B 53 2 (.slice (some ⟨w.heap.size, 0, none⟩) 0 0) 0 [] :=
  ⟨rfl, .inr ⟨w.heap.size, 0, #[], rfl, hB, heap_new w _, Nat.le_refl _, Nat.zero_le _, rfl, rfl⟩⟩
theorem cellsP_one : ∀ r : List Pr, ∀ u ∈ cellsP r, u.oneCell' = true
  | [], u, h => by simp [cellsP] at h
  | p :: t, u, h => by
    simp only [cellsP, List.mem_cons] at h
    rcases h with rfl | rfl | h
    · rfl
    · rfl
    · exact cellsP_one t u h
theorem news_of18 {w : World} {b off : Nat} {r : List Pr} (hcc : ∀ j, j < r.length → w.cell? ⟨b, off + j * 2, none⟩ = some (.string (r.getD j pr0).nam) ∧ w.cell? ⟨b, off + j * 2 + 1, none⟩ = some (.string (r.getD j pr0).val)) : ∀ j u, (cellsP r)[j]? = some u → w.cell? ((⟨b, off, none⟩ : Addr).add j) = some u := fun j u hu => by
  have hj : j < r.length * 2 := by have := (List.getElem?_eq_some_iff.1 hu).1; rwa [cellsP_len] at this
  have e : (⟨b, off, none⟩ : Addr).add j = ⟨b, off + j, none⟩ := by unfold Addr.add; split <;> simp_all
  rw [e]
  obtain ⟨k, hk⟩ : ∃ k, j = k * 2 ∨ j = k * 2 + 1 := ⟨j / 2, by omega⟩
  obtain ⟨c1, c2⟩ := cellsP_at r k (by omega)
  obtain ⟨d1, d2⟩ := hcc k (by omega)
  rcases hk with rfl | rfl
  · rw [c1] at hu; rw [← hu]; exact d1
  · rw [c2] at hu; rw [← hu, ← Nat.add_assoc]; exact d2
theorem Rp.shape {w : World} {B : Nat} {v : Value} {r : List Pr} (h : Rp B v r w) : ∃ a c, v = .slice a r.length c := by
  rcases h.2 with ⟨hv, h0⟩ | ⟨g, cap, cur, hv, _⟩
  · exact ⟨none, 0, by rw [hv, h0]⟩
  · exact ⟨_, cap, hv⟩
set_option maxHeartbeats 1600000 in
theorem clone_any (v : Value) (r : List Pr) (w : World) (hlen : r.length ≤ 1000) (hR : PsV w v r) :
    Calls Tryz.prog 66 #[v] w fun e w' => ∃ v', e = .returned v' ∧ Rp w.heap.size v' r w' ∧ Below w.heap.size w w' := by
  obtain ⟨i0, hi, hz0, hz1, hz2⟩ := info_parts pair_info
  obtain ⟨a, cap, rfl, hn, hc⟩ := hR
  cases a with
  | none =>
    have hl : r = [] := by
      cases r with
      | nil => rfl
      | cons p t => obtain ⟨_, _, h, _⟩ := hc (by simp); cases h
    subst hl
    have hE := eqnil_none 0 cap
    clear hc
    go_enter Tryz.func66, Tryz.ntmps66
    go_wp2
    go_ret
    exact ⟨_, rfl, Rp.nil _ _, Below.refl _ _⟩
  | some ad =>
    by_cases h0 : 0 < r.length
    · obtain ⟨b, off, h, hcc⟩ := hc h0
      cases h
      have HNW : Hid (∀ j u, (cellsP r)[j]? = some u → (w.alloc (.cells #[] 53)).cell? ((⟨b, off, none⟩ : Addr).add j) = some u) := fun j u hu => (Gr.one w _).cell (news_of18 hcc j u hu)
      have HLM : Hid ((cellsP r).length = r.length * 2) := cellsP_len r
      have HON := hide (cellsP_one r)
      have HE : Hid (∀ (v : Value) (W : World), W.ownsRow w.heap.size 53 2 v r.length (cellsP r) → Rp w.heap.size v r W) := fun _ _ h => h
      clear hcc hc
      generalize cellsP r = news at *
      generalize hnl : r.length = n at *
      clear hnl
      have hm1 : 0 + n ≤ maxLen := by unfold maxLen; omega
      have hE := eqnil_some ⟨b, off, none⟩ n cap
      go_enter Tryz.func66, Tryz.ntmps66
      go_wp2_with (at_builtin; refine wpList_append_lies _ rfl _ _ 55 rfl w.heap.size 53 i0 _ 2 32 Tryz.underlying55 hi hz0 hz1 hz2 rfl (by omega) _ 0 [] rfl (own_nil2 w _ (Nat.le_refl _)) ⟨b, off, none⟩ n cap news rfl (unhide HLM) (unhide HNW) (unhide HON) h0 hm1 (by omega) (by simp) (w.heap.size + 1) (by simp) ?_; intro g9 cap9 w9 hown9 hgrow9 hat9 hlt9)
      go_ret
      rw [Nat.zero_add, List.nil_append] at hown9
      exact ⟨_, rfl, unhide HE _ _ hown9, (Below.one w _).trans (below_own hgrow9 (by simp) (own_block (own_nil2 w _ (Nat.le_refl _))))⟩
    · obtain rfl : r = [] := List.length_eq_zero_iff.1 (by omega)
      have hE := eqnil_some ad 0 cap
      clear hc
      go_enter Tryz.func66, Tryz.ntmps66
      go_wp2
      go_ret
      exact ⟨_, rfl, own_nil2 w _ (Nat.le_refl _), Below.one w _⟩
/-- A row of parts of the call's own, the first i of them with rows of its own. -/
structure Fn (B : Nat) (vn : Value) (i : Nat) (vs : List Value) (n : List (List Pr)) (w : World) : Prop where
  len : vs.length = n.length
  own : w.ownsRow B 55 1 vn n.length vs
  each : ∀ j, j < i → Rp 0 (vs.getD j undef) (n.getD j []) w
theorem Fn.below {B i : Nat} {vn : Value} {vs : List Value} {n : List (List Pr)} {w w2 : World} (h : Fn B vn i vs n w) (hb : Below w.heap.size w w2) : Fn B vn i vs n w2 :=
  ⟨h.len, own_below h.own hb, fun j hj => (h.each j hj).below hb⟩
theorem Fn.store {B g i N cap : Nat} {v : Value} {vs : List Value} {n : List (List Pr)} {w : World} (hN : N = n.length) (h : Fn B (.slice (some ⟨g, 0, none⟩) N cap) i vs n w) (hi : i < n.length) (hv : Rp 0 v (n.getD i []) w) : Fn B (.slice (some ⟨g, 0, none⟩) N cap) (i + 1) (vs.set i v) n (w.setCell ⟨g, i, none⟩ v) := by
  subst hN
  obtain ⟨h1, h2⟩ := h.own.stored i v
  refine ⟨by rw [List.length_set]; exact h.len, h1, fun j hj => ?_⟩
  by_cases e : j = i
  · subst e
    have e1 : (vs.set j v).getD j undef = v := by simp [List.getD, show j < vs.length by rw [h.len]; exact hi]
    rw [e1]
    exact World.ownsRow.kept hv h2 (own_apart hv h.own (by decide))
  · have e1 : (vs.set i v).getD j undef = vs.getD j undef := by simp [List.getD, List.getElem?_set_ne (fun h => e h.symm)]
    rw [e1]
    have hj' := h.each j (by omega)
    exact World.ownsRow.kept hj' h2 (own_apart hj' h.own (by decide))
theorem Fn.nm {B : Nat} {vn : Value} {vs : List Value} {n : List (List Pr)} {w : World} (h : Fn B vn n.length vs n w) (hn : n.length ≤ 9223372036854775807) (hr : ∀ r ∈ n, r.length ≤ 9223372036854775807) : NmV w vn n := by
  rcases h.own.2 with ⟨hv, h0⟩ | ⟨g, cap, cur, hv, _, _, hc, _⟩
  · exact ⟨none, 0, by rw [hv, h0], by omega, hn, fun hi => by omega⟩
  · refine ⟨some ⟨g, 0, none⟩, cap, hv, hc, hn, fun hi => ⟨g, 0, rfl, fun j hj => ⟨vs.getD j undef, ?_, (h.each j hj).ps (hr _ (getD_memR n j hj))⟩⟩⟩
    have := World.ownsRow.cells h.own (g := g) (by rw [hv]; rfl) j (vs.getD j undef) (by have := h.len; simp [List.getD, show j < vs.length by omega])
    rw [add_zero3] at this
    rw [Nat.zero_add]
    exact this
end Go.Proofs.YtefobkgifigclaaGreatDoor.S18
