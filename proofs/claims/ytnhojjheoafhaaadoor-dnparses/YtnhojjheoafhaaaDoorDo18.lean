/- The landed fresh of layer 18, over slices.Clone. -/
import Derived.Test.YtnhojjheoafhaaaDoorDn18
import Derived.OwnWalk
namespace Go.Proofs.YtnhojjheoafhaaaDoor
set_option maxRecDepth 100000
open Go.RowKit

theorem eqnil_some (ad : Addr) (n c : Nat) (w : World) : (binOp .eql 30 (.slice (some ad) n c) (.slice none 0 0)).run Tryd.prog w = .ok (.bool false) w := by kernel_rfl
theorem eqnil_none (n c : Nat) (w : World) : (binOp .eql 30 (.slice none n c) (.slice none 0 0)).run Tryd.prog w = .ok (.bool true) w := by kernel_rfl
theorem own_nil2 (w : World) (B : Nat) (hB : B ≤ w.heap.size) : (w.alloc (.cells #[] 44)).ownsRow B 44 2 (.slice (some ⟨w.heap.size, 0, none⟩) 0 0) 0 [] :=
  ⟨rfl, .inr ⟨w.heap.size, 0, #[], rfl, hB, heap_new w _, Nat.le_refl _, Nat.zero_le _, rfl, rfl⟩⟩
theorem cellsP_one : ∀ r : List Pr, ∀ u ∈ cellsP r, u.oneCell' = true
  | [], u, h => by simp [cellsP] at h
  | p :: t, u, h => by
    simp only [cellsP, List.mem_cons] at h
    rcases h with rfl | rfl | h
    · rfl
    · rfl
    · exact cellsP_one t u h
theorem news_of18 {w : World} {b off : Nat} {r : List Pr} (hcc : ∀ j, j < r.length → w.cell? ⟨b, off + j * 2, none⟩ = some (.string (r.getD j pr0).nam) ∧ w.cell? ⟨b, off + j * 2 + 1, none⟩ = some (.string (r.getD j pr0).val)) : ∀ j u, (cellsP r)[j]? = some u → w.cell? ((⟨b, off, none⟩ : Addr).add j) = some u := fun j u hu => by
  have hj : j < r.length * 2 := by have := (List.getElem?_eq_some_iff.1 hu).1; rwa [cellsP_len] at this
  have e : (⟨b, off, none⟩ : Addr).add j = ⟨b, off + j, none⟩ := by unfold Addr.add; split <;> simp_all
  rw [e]
  obtain ⟨k, hk⟩ : ∃ k, j = k * 2 ∨ j = k * 2 + 1 := ⟨j / 2, by omega⟩
  obtain ⟨c1, c2⟩ := cellsP_at r k (by omega)
  obtain ⟨d1, d2⟩ := hcc k (by omega)
  rcases hk with rfl | rfl
  · rw [c1] at hu; rw [← hu]; exact d1
  · rw [c2] at hu; rw [← hu, ← Nat.add_assoc]; exact d2
theorem Rp.shape {w : World} {B : Nat} {v : Value} {r : List Pr} (h : Rp B v r w) : ∃ a c, v = .slice a r.length c := by
  rcases h.2 with ⟨hv, h0⟩ | ⟨g, cap, cur, hv, _⟩
  · exact ⟨none, 0, by rw [hv, h0]⟩
  · exact ⟨_, cap, hv⟩
set_option maxHeartbeats 1600000 in
theorem clone_any (v : Value) (r : List Pr) (w : World) (hlen : r.length ≤ 1000) (hR : PsV w v r) :
    Calls Tryd.prog 34 #[v] w fun e w' => ∃ v', e = .returned v' ∧ Rp w.heap.size v' r w' ∧ Below w.heap.size w w' := by
  obtain ⟨i0, hi, hz0, hz1, hz2⟩ := info_parts pair_info
  obtain ⟨a, cap, rfl, hn, hc⟩ := hR
  cases a with
  | none =>
    have hl : r = [] := by
      cases r with
      | nil => rfl
      | cons p t => obtain ⟨_, _, h, _⟩ := hc (by simp); cases h
    subst hl
    have hE := eqnil_none 0 cap
    clear hc
    go_enter Tryd.func34, Tryd.ntmps34
    go_wp2
    go_ret
    exact ⟨_, rfl, Rp.nil _ _, Below.refl _ _⟩
  | some ad =>
    by_cases h0 : 0 < r.length
    · obtain ⟨b, off, h, hcc⟩ := hc h0
      cases h
      have HNW : Hid (∀ j u, (cellsP r)[j]? = some u → (w.alloc (.cells #[] 44)).cell? ((⟨b, off, none⟩ : Addr).add j) = some u) := fun j u hu => (Gr.one w _).cell (news_of18 hcc j u hu)
      have HLM : Hid ((cellsP r).length = r.length * 2) := cellsP_len r
      have HON := hide (cellsP_one r)
      have HE : Hid (∀ (v : Value) (W : World), W.ownsRow w.heap.size 44 2 v r.length (cellsP r) → Rp w.heap.size v r W) := fun _ _ h => h
      clear hcc hc
      generalize cellsP r = news at *
      generalize hnl : r.length = n at *
      clear hnl
      have hm1 : 0 + n ≤ maxLen := by unfold maxLen; omega
      have hE := eqnil_some ⟨b, off, none⟩ n cap
      go_enter Tryd.func34, Tryd.ntmps34
      go_wp2_with (at_builtin; refine wpList_append_lies _ rfl _ _ 30 rfl w.heap.size 44 i0 _ 2 32 Tryd.underlying30 hi hz0 hz1 hz2 rfl (by omega) _ 0 [] rfl (own_nil2 w _ (Nat.le_refl _)) ⟨b, off, none⟩ n cap news rfl (unhide HLM) (unhide HNW) (unhide HON) h0 hm1 (by omega) (by simp) (w.heap.size + 1) (by simp) ?_; intro g9 cap9 w9 hown9 hgrow9 hat9 hlt9)
      go_ret
      rw [Nat.zero_add, List.nil_append] at hown9
      exact ⟨_, rfl, unhide HE _ _ hown9, (Below.one w _).trans (below_own hgrow9 (by simp) (own_block (own_nil2 w _ (Nat.le_refl _))))⟩
    · obtain rfl : r = [] := List.length_eq_zero_iff.1 (by omega)
      have hE := eqnil_some ad 0 cap
      clear hc
      go_enter Tryd.func34, Tryd.ntmps34
      go_wp2
      go_ret
      exact ⟨_, rfl, own_nil2 w _ (Nat.le_refl _), Below.one w _⟩
/-- A row of parts of the call's own, the first i of them with rows of its own. -/
structure Fn (B : Nat) (vn : Value) (i : Nat) (vs : List Value) (n : List (List Pr)) (w : World) : Prop where
  len : vs.length = n.length
  own : w.ownsRow B 30 1 vn n.length vs
  each : ∀ j, j < i → Rp 0 (vs.getD j undef) (n.getD j []) w
theorem Fn.below {B i : Nat} {vn : Value} {vs : List Value} {n : List (List Pr)} {w w2 : World} (h : Fn B vn i vs n w) (hb : Below w.heap.size w w2) : Fn B vn i vs n w2 :=
  ⟨h.len, own_below h.own hb, fun j hj => (h.each j hj).below hb⟩
theorem Fn.store {B g i N cap : Nat} {v : Value} {vs : List Value} {n : List (List Pr)} {w : World} (hN : N = n.length) (h : Fn B (.slice (some ⟨g, 0, none⟩) N cap) i vs n w) (hi : i < n.length) (hv : Rp 0 v (n.getD i []) w) : Fn B (.slice (some ⟨g, 0, none⟩) N cap) (i + 1) (vs.set i v) n (w.setCell ⟨g, i, none⟩ v) := by
  subst hN
  obtain ⟨h1, h2⟩ := h.own.stored i v
  refine ⟨by rw [List.length_set]; exact h.len, h1, fun j hj => ?_⟩
  by_cases e : j = i
  · subst e
    have e1 : (vs.set j v).getD j undef = v := by simp [List.getD, show j < vs.length by rw [h.len]; exact hi]
    rw [e1]
    exact World.ownsRow.kept hv h2 (own_apart hv h.own (by decide))
  · have e1 : (vs.set i v).getD j undef = vs.getD j undef := by simp [List.getD, List.getElem?_set_ne (fun h => e h.symm)]
    rw [e1]
    have hj' := h.each j (by omega)
    exact World.ownsRow.kept hj' h2 (own_apart hj' h.own (by decide))
theorem Fn.nm {B : Nat} {vn : Value} {vs : List Value} {n : List (List Pr)} {w : World} (h : Fn B vn n.length vs n w) (hn : n.length ≤ 9223372036854775807) (hr : ∀ r ∈ n, r.length ≤ 9223372036854775807) : NmV w vn n := by
  rcases h.own.2 with ⟨hv, h0⟩ | ⟨g, cap, cur, hv, _, _, hc, _⟩
  · exact ⟨none, 0, by rw [hv, h0], by omega, hn, fun hi => by omega⟩
  · refine ⟨some ⟨g, 0, none⟩, cap, hv, hc, hn, fun hi => ⟨g, 0, rfl, fun j hj => ⟨vs.getD j undef, ?_, (h.each j hj).ps (hr _ (getD_memR n j hj))⟩⟩⟩
    have := World.ownsRow.cells h.own (g := g) (by rw [hv]; rfl) j (vs.getD j undef) (by have := h.len; simp [List.getD, show j < vs.length by omega])
    rw [add_zero3] at this
    rw [Nat.zero_add]
    exact this
set_option maxHeartbeats 3200000 in
theorem fresh_any (v : Value) (n : List (List Pr)) (w : World) (hlen : n.length ≤ 1000) (hrl : ∀ r ∈ n, r.length ≤ 1000) (hV : NmV w v n) :
    Calls Tryd.prog 24 #[v] w fun e w' => ∃ v' vs, e = .returned v' ∧ Fn w.heap.size v' n.length vs n w' ∧ Below w.heap.size w w' := by
  obtain ⟨j0, ji, jz0, jz1, jz2⟩ := info_parts rdn_info
  obtain ⟨a, cap, rfl, hcap, hn, hc⟩ := hV
  have HC := hide hc
  have HRL := hide hrl
  have hml : n.length ≤ maxLen := by unfold maxLen; omega
  clear hc hrl
  go_enter Tryd.func24, Tryd.ntmps24
  go_wp2_with (refine wpList_make_full _ rfl _ _ 23 rfl w.heap.size 30 j0 _ 1 Tryd.underlying23 ji jz0 jz1 .i64 .i64 _ _ n.length rfl rfl rfl rfl (by rw [jz2]; omega) hml (Nat.le_refl _) ?_; intro w1 hown1 hgrow1; have b1 : Below w.heap.size w w1 := (Below.refl _ _).grown hgrow1 (Nat.le_refl _) (by intro k h; cases h); have F1 := hide (Fn.mk (i := 0) (hown1.1.trans (Nat.mul_one _)) hown1 (fun _ hj => absurd hj (Nat.not_lt_zero _))); clear hown1 hgrow1)
  go_loopw [11] (fun vi wr => ∃ (i : Nat) (vs : List Value), i ≤ n.length ∧ vi = .int .i64 (i : Int) ∧ Hid (Fn w.heap.size (.slice (some ⟨w.heap.size, 0, none⟩) n.length n.length) i vs n wr) ∧ Below w.heap.size w wr) (fun i _ => n.length - (intOf i).toNat)
  case atStart => exact ⟨0, _, Nat.zero_le _, rfl, unhide F1, b1⟩
  case round =>
    obtain ⟨i, vs, hi, rfl, HF, hb⟩ := hrel
    have hsz := hb.size
    by_cases hlt : i < n.length
    · have hzl : (i : Int) < (n.length : Int) := by omega
      have hz0 : (0 : Int) ≤ (i : Int) := by omega
      obtain ⟨b, off, rfl, hcc⟩ := unhide HC (by omega)
      obtain ⟨rv, q1, hP⟩ := hcc i hlt
      replace q1 := (hb.cell (cell_lt q1)).trans q1
      have CL := hide (clone_any rv _ wr (unhide HRL _ (getD_memR n i hlt)) (hP.below hb))
      have HST : Hid (∀ (u : Value) (W : World), Fn w.heap.size (.slice (some ⟨w.heap.size, 0, none⟩) n.length n.length) i vs n W → Rp 0 u (n.getD i []) W → Fn w.heap.size (.slice (some ⟨w.heap.size, 0, none⟩) n.length n.length) (i + 1) (vs.set i u) n (W.setCell ⟨w.heap.size, i, none⟩ u)) := fun u W hF hu => hF.store rfl hlt hu
      have HLT := hide ((unhide HF).len)
      clear hcc hP
      generalize n.getD i [] = r at *
      go_wp2_with (go_at_call 34; refine (unhide CL).mono ?_; rintro e w3 ⟨v3, rfl, h3, b3⟩; obtain ⟨a3, c3, rfl⟩ := h3.shape; have F3 := hide ((unhide HF).below b3); have R3 := hide (h3.base (Nat.zero_le _)); clear h3; have hk3 := World.ownsRow.cells (unhide F3).own (g := w.heap.size) rfl i (vs.getD i undef) (by have := unhide HLT; simp [List.getD, show i < vs.length by omega]); rw [add_zero3] at hk3; have hf3 := World.ownsRow.frozenAt (unhide F3).own i; have hb3 := hb.trans (b3.mono hsz))
      go_roundw
      case rel => exact ⟨i + 1, _, by omega, by go_num, unhide HST _ _ (unhide F3) (unhide R3), hb3.setCell (Nat.le_refl _) _⟩
      case measure => simp [intOf]; omega
    · have hzl : ¬ (i : Int) < (n.length : Int) := by omega
      obtain rfl : i = n.length := by omega
      go_wp2
      go_ret
      exact ⟨_, rfl, ⟨vs, unhide HF⟩, hb⟩
end Go.Proofs.YtnhojjheoafhaaaDoor
