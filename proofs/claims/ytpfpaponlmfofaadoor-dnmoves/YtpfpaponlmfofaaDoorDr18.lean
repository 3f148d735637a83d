/- The landed Below of layer 18. -/
import Derived.Test.YtpfpaponlmfofaaDoorDp18
namespace Go.Proofs.YtpfpaponlmfofaaDoor
set_option maxRecDepth 100000
open Go.RowKit

/-- May a part stand below a name; the name then; the error. -/
def blB (n : List (List Pr)) (r : List Pr) : Bool := okN n && (okN [r] && decide (n.length ≠ 6))
def blN (n : List (List Pr)) (r : List Pr) : List (List Pr) := if blB n r = true then r :: n else []
def blE (n : List (List Pr)) (r : List Pr) : Int := if blB n r = true then 0 else 220
theorem one_nm {w : World} {rv : Value} {r : List Pr} (h : PsV w rv r) (T : TypeId) : NmV (w.alloc (.cells #[rv] T)) (.slice (some ⟨w.heap.size, 0, none⟩) 1 1) [r] := by
  refine ⟨_, _, rfl, Nat.le_refl _, by simp, fun _ => ⟨w.heap.size, 0, rfl, fun j hj => ?_⟩⟩
  obtain rfl : j = 0 := by simp at hj; omega
  refine ⟨rv, box1 w rv T, ?_⟩
  exact h.below (Below.one w _)
/-- The parts of two rows, one behind the other. -/
theorem Fn.join {B B2 : Nat} {v1 v2 v3 : Value} {x : Value} {vs : List Value} {r : List Pr} {n : List (List Pr)} {w w2 : World} (h1 : Fn B v1 1 [x] [r] w) (h2 : Fn B2 v2 n.length vs n w) (hg : w.grownBy w2 v1.ownBlock) (ho : w2.ownsRow B 40 1 v3 (1 + n.length) ([x] ++ vs)) : Fn B v3 (r :: n).length (x :: vs) (r :: n) w2 := by
  have k1 := h1.each 0 (by omega)
  have k1' := World.ownsRow.kept k1 hg (own_apart k1 h1.own (by decide))
  refine ⟨by simp [h2.len], by rw [List.length_cons, Nat.add_comm]; exact ho, fun j hj => ?_⟩
  cases j with
  | zero => exact k1'
  | succ j =>
    have k2 := h2.each j (by simpa using hj)
    have := World.ownsRow.kept k2 hg (own_apart k2 h1.own (by decide))
    show Rp 0 ((x :: vs).getD (j + 1) undef) ((r :: n).getD (j + 1) []) w2
    simpa [Rp] using this
theorem Fn.shape {B i : Nat} {vn : Value} {vs : List Value} {n : List (List Pr)} {w : World} (h : Fn B vn i vs n w) (hn : n.length ≠ 0) : ∃ g c, vn = .slice (some ⟨g, 0, none⟩) n.length c := by
  rcases h.own.2 with ⟨_, h0⟩ | ⟨g, cap, cur, hv, _⟩
  · exact absurd h0 hn
  · exact ⟨g, cap, hv⟩
theorem Fn.shape0 {B i : Nat} {vn : Value} {vs : List Value} {w : World} (h : Fn B vn i vs [] w) : ∃ a c, vn = .slice a 0 c := by
  rcases h.own.2 with ⟨hv, _⟩ | ⟨g, cap, cur, hv, _⟩
  · exact ⟨_, _, hv⟩
  · exact ⟨_, cap, hv⟩
theorem Fn.news {B i g N c : Nat} {vs : List Value} {n : List (List Pr)} {w : World} (h : Fn B (.slice (some ⟨g, 0, none⟩) N c) i vs n w) (hN : N = n.length) : ∀ j u, vs[j]? = some u → w.cell? ((⟨g, 0, none⟩ : Addr).add j) = some u := by
  subst hN
  exact fun j u hu => World.ownsRow.cells h.own (g := g) rfl j u hu
theorem rp_one {B : Nat} {v : Value} {r : List Pr} {w : World} (h : Rp B v r w) : v.oneCell' = true := by
  obtain ⟨a, c, rfl⟩ := h.shape
  rfl
theorem Fn.one {B : Nat} {vn : Value} {vs : List Value} {n : List (List Pr)} {w : World} (h : Fn B vn n.length vs n w) : ∀ u ∈ vs, u.oneCell' = true := fun u hu => by
  obtain ⟨k, hk, rfl⟩ := List.getElem_of_mem hu
  have := h.each k (by rw [← h.len]; exact hk)
  have e : vs.getD k undef = vs[k] := by simp [List.getD, hk]
  rw [e] at this
  exact rp_one this
set_option maxHeartbeats 1600000 in
theorem fresh0_any (a : Option Addr) (c : Nat) (w : World) : Calls Tryd.prog 36 #[.slice a 0 c] w fun e w' => e = .returned (.slice (some ⟨w.heap.size, 0, none⟩) 0 0) ∧ Below w.heap.size w w' := by
  obtain ⟨j0, ji, jz0, jz1, jz2⟩ := info_parts rdn_info
  go_enter Tryd.func36, Tryd.ntmps36
  go_wp2_with (refine wpList_make_full _ rfl _ _ 23 rfl w.heap.size 40 j0 _ 1 Tryd.underlying23 ji jz0 jz1 .i64 .i64 _ _ 0 rfl rfl rfl rfl (by rw [jz2]; omega) (Nat.zero_le _) (Nat.le_refl _) ?_; intro w1 hown1 hgrow1; have b1 : Below w.heap.size w w1 := (Below.refl _ _).grown hgrow1 (Nat.le_refl _) (by intro k h; cases h); clear hown1 hgrow1)
  refine wp_loop_rounds 1 ?_
  rw [rounds_succ]
  go_wp2
  go_ret
  exact ⟨rfl, b1⟩
set_option maxHeartbeats 6400000 in
theorem below_any (v rv : Value) (n : List (List Pr)) (r : List Pr) (w : World) (hV : NmV w v n) (hR : PsV w rv r) :
    Calls Tryd.prog 24 #[v, rv] w fun e w' => ∃ v', e = .returned (.tuple #[v', .int .i64 (blE n r)]) ∧ NmV w' v' (blN n r) ∧ Below w.heap.size w w' := by
  obtain ⟨j0, ji, jz0, jz1, jz2⟩ := info_parts rdn_info
  have C1 := hide (check_any v n w hV)
  have HV := hide hV
  have HR := hide hR
  obtain ⟨ra, rc, hrv⟩ := hR.shape
  obtain ⟨na, nc, hnv⟩ := hV.shape
  have C2 : Hid (∀ W, Below w.heap.size w W → Calls Tryd.prog 13 #[.slice (some ⟨W.heap.size, 0, none⟩) 1 1] (W.alloc (.cells #[rv] 40)) fun e w' => e = .returned (.int .i64 (chkN [r])) ∧ Gr (W.alloc (.cells #[rv] 40)) w') := fun W hb => check_any _ [r] _ (one_nm (hR.below hb) _)
  subst hrv
  subst hnv
  clear hV hR
  cases hk : okN n
  · have e1 : blB n r = false := by unfold blB; rw [hk]; rfl
    have e2 : blN n r = [] := by unfold blN; rw [e1]; rfl
    have e3 : blE n r = 220 := by unfold blE; rw [e1]; rfl
    rw [e2, e3]
    rw [chk_no hk] at C1
    clear hk e1 e2 e3 C2
    go_enter Tryd.func24, Tryd.ntmps24
    go_wp2_with (go_at_call 13; refine (unhide C1).mono ?_; rintro e w1 ⟨rfl, g1⟩)
    go_ret2
    exact ⟨_, rfl, NmV.nil _ _ _, g1.below⟩
  rw [chk_yes hk] at C1
  cases hk2 : okN [r]
  · have e1 : blB n r = false := by unfold blB; rw [hk2, Bool.false_and, Bool.and_false]
    have e2 : blN n r = [] := by unfold blN; rw [e1]; rfl
    have e3 : blE n r = 220 := by unfold blE; rw [e1]; rfl
    rw [e2, e3]
    rw [chk_no hk2] at C2
    clear hk hk2 e1 e2 e3
    go_enter Tryd.func24, Tryd.ntmps24
    go_wp2_with (first
      | (go_at_call 13; refine (unhide C2 _ g1.below).mono ?_; rintro e w2 ⟨rfl, g2⟩; have b2 := (g1.below.alloc g1.size _).trans (g2.below.mono (Nat.le_trans g1.size (Gr.one _ _).size)))
      | (go_at_call 13; refine (unhide C1).mono ?_; rintro e w1 ⟨rfl, g1⟩))
    go_ret2
    exact ⟨_, rfl, NmV.nil _ _ _, b2⟩
  rw [chk_yes hk2] at C2
  by_cases h6 : n.length = 6
  · have e1 : blB n r = false := by unfold blB; rw [decide_eq_false (by omega), Bool.and_false, Bool.and_false]
    have e2 : blN n r = [] := by unfold blN; rw [e1]; rfl
    have e3 : blE n r = 220 := by unfold blE; rw [e1]; rfl
    rw [e2, e3]
    have z6 : ((n.length : Int) == 6) = true := by rw [beq_iff_eq]; omega
    rw [h6] at C1 ⊢
    clear hk hk2 e1 e2 e3 HV z6 h6
    go_enter Tryd.func24, Tryd.ntmps24
    go_wp2_with (first
      | (go_at_call 13; refine (unhide C2 _ g1.below).mono ?_; rintro e w2 ⟨rfl, g2⟩; have b2 := (g1.below.alloc g1.size _).trans (g2.below.mono (Nat.le_trans g1.size (Gr.one _ _).size)))
      | (go_at_call 13; refine (unhide C1).mono ?_; rintro e w1 ⟨rfl, g1⟩))
    go_ret2
    exact ⟨_, rfl, NmV.nil _ _ _, b2⟩
  have e1 : blB n r = true := by unfold blB; rw [hk, hk2, decide_eq_true h6]; rfl
  have e2 : blN n r = r :: n := by unfold blN; rw [e1]; rfl
  have e3 : blE n r = 0 := by unfold blE; rw [e1]; rfl
  rw [e2, e3]
  obtain ⟨l6, l3⟩ := ok_lens hk
  have lr : r.length ≤ 3 := (ok_lens hk2).2 r (by simp)
  have z6 : ((n.length : Int) == 6) = false := by rw [beq_eq_false_iff_ne]; omega
  have CF1 : Hid (∀ W, Below w.heap.size w W → Calls Tryd.prog 36 #[.slice (some ⟨W.heap.size, 0, none⟩) 1 1] (W.alloc (.cells #[.slice ra r.length rc] 40)) fun e w' => ∃ g c x, e = .returned (.slice (some ⟨g, 0, none⟩) 1 c) ∧ Fn (W.heap.size + 1) (.slice (some ⟨g, 0, none⟩) 1 c) 1 [x] [r] w' ∧ Below (W.alloc (.cells #[.slice ra r.length rc] 40)).heap.size (W.alloc (.cells #[.slice ra r.length rc] 40)) w') := fun W hb => by
    refine (fresh_any _ [r] _ (by simp) (by simp; omega) (one_nm ((unhide HR).below hb) _)).mono ?_
    rintro e w' ⟨v', vs, rfl, hF, hb'⟩
    obtain ⟨g, c, rfl⟩ := hF.shape (by simp)
    match vs, hF.len with
    | [x], _ =>
      rw [World.size_alloc] at hF
      exact ⟨g, c, x, rfl, hF, hb'⟩
  have CF2 : Hid (∀ W, Below w.heap.size w W → Calls Tryd.prog 36 #[.slice na n.length nc] W fun e w' => ∃ v' vs, e = .returned v' ∧ Fn W.heap.size v' n.length vs n w' ∧ Below W.heap.size W w') := fun W hb => fresh_any _ n W (by omega) (fun q hq => by have := l3 q hq; omega) ((unhide HV).below hb)
  have HLN : Hid (∀ q ∈ r :: n, q.length ≤ 9223372036854775807) := fun q hq => by
    rcases List.mem_cons.1 hq with rfl | h
    · omega
    · have := l3 q h; omega
  clear e1 e2 e3 hk hk2 l3
  by_cases h0 : n.length = 0
  · obtain rfl : n = [] := List.length_eq_zero_iff.1 h0
    clear HV z6 h6 h0 l6 CF2
    have CF2 := hide (fun W => fresh0_any na nc W)
    go_enter Tryd.func24, Tryd.ntmps24
    go_wp2_with (first
      | (at_builtin; refine wpList_append_own_at _ rfl _ _ 23 rfl (w2.heap.size + 1) 40 j0 _ 1 24 Tryd.underlying23 ji jz0 jz1 jz2 rfl (by omega) _ 1 [x] rfl ((unhide F3).below b4).own ⟨w3.heap.size, 0, none⟩ 0 0 [] rfl rfl (fun j u h => by simp at h) (fun u h => by simp at h) (by unfold maxLen; omega) (by omega) (by have := b4.size; have := b3.size; rw [World.size_alloc] at *; omega) ?_; intro v9 w9 hown9 hgrow9 hnil9 hat9; clear hnil9 hat9)
      | (go_at_call 36; have M4 := F3; refine (unhide CF2 _).mono ?_; rintro e w4 ⟨rfl, b4⟩)
      | (go_at_call 36; refine (unhide CF1 _ b2).mono ?_; rintro e w3 ⟨g3, c3, x, rfl, hF3, b3⟩; have F3 := hide hF3; clear hF3; have bw3 := (b2.alloc b2.size _).trans (b3.mono (by rw [World.size_alloc]; have := b2.size; omega)))
      | (go_at_call 13; refine (unhide C2 _ g1.below).mono ?_; rintro e w2 ⟨rfl, g2⟩; have b2 := (g1.below.alloc g1.size _).trans (g2.below.mono (Nat.le_trans g1.size (Gr.one _ _).size)))
      | (go_at_call 13; refine (unhide C1).mono ?_; rintro e w1 ⟨rfl, g1⟩))
    go_ret2
    have F0 : Fn w4.heap.size (.slice none 0 0) ([] : List (List Pr)).length [] [] w4 := ⟨rfl, ⟨rfl, .inl ⟨rfl, rfl⟩⟩, fun _ hj => absurd hj (Nat.not_lt_zero _)⟩
    have FJ := ((unhide F3).below b4).join F0 hgrow9 hown9
    have s2 := b2.size
    have s3 := bw3.size
    have s4 := b4.size
    have hb9 := (bw3.trans (b4.mono s3)).trans (below_own hgrow9 (by omega) (fun g e => by have := own_block ((unhide F3).below b4).own g e; omega))
    exact ⟨_, rfl, FJ.nm (by simp) (unhide HLN), hb9⟩
  · have hm1 : 1 + n.length ≤ maxLen := by unfold maxLen; omega
    have hm2 : (1 + n.length) * 24 ≤ 140737488355328 := by omega
    have hpos : 0 < n.length := by omega
    have CF3 : Hid (∀ W, Below w.heap.size w W → Calls Tryd.prog 36 #[.slice na n.length nc] W fun e w' => ∃ g c vs, e = .returned (.slice (some ⟨g, 0, none⟩) n.length c) ∧ Fn W.heap.size (.slice (some ⟨g, 0, none⟩) n.length c) n.length vs n w' ∧ Below W.heap.size W w') := fun W hb => by
      refine (unhide CF2 W hb).mono ?_
      rintro e w' ⟨v', vs, rfl, hF, hb'⟩
      obtain ⟨g, c, rfl⟩ := hF.shape h0
      exact ⟨g, c, vs, rfl, hF, hb'⟩
    clear CF2 HV
    go_enter Tryd.func24, Tryd.ntmps24
    go_wp2_with (first
      | (at_builtin; refine wpList_append_lies _ rfl _ _ 23 rfl (w2.heap.size + 1) 40 j0 _ 1 24 Tryd.underlying23 ji jz0 jz1 jz2 rfl (by omega) _ 1 [x] rfl ((unhide F3).below b4).own ⟨g4, 0, none⟩ n.length c4 vs4 rfl (by rw [(unhide F4).len, Nat.mul_one]) ((unhide F4).news rfl) (unhide F4).one hpos hm1 hm2 (by have := b4.size; have := b3.size; rw [World.size_alloc] at *; omega) _ rfl ?_; intro g9 cap9 w9 hown9 hgrow9 hat9 hlt9)
      | (go_at_call 36; refine (unhide CF3 _ bw3).mono ?_; rintro e w4 ⟨g4, c4, vs4, rfl, hF4, b4⟩; have F4 := hide hF4; clear hF4)
      | (go_at_call 36; refine (unhide CF1 _ b2).mono ?_; rintro e w3 ⟨g3, c3, x, rfl, hF3, b3⟩; have F3 := hide hF3; clear hF3; have bw3 := (b2.alloc b2.size _).trans (b3.mono (by rw [World.size_alloc]; have := b2.size; omega)))
      | (go_at_call 13; refine (unhide C2 _ g1.below).mono ?_; rintro e w2 ⟨rfl, g2⟩; have b2 := (g1.below.alloc g1.size _).trans (g2.below.mono (Nat.le_trans g1.size (Gr.one _ _).size)))
      | (go_at_call 13; refine (unhide C1).mono ?_; rintro e w1 ⟨rfl, g1⟩))
    go_ret2
    have FJ := ((unhide F3).below b4).join (unhide F4) hgrow9 hown9
    have s2 := b2.size
    have s3 := bw3.size
    have s4 := b4.size
    have hb9 := (bw3.trans (b4.mono s3)).trans (below_own hgrow9 (by omega) (fun g e => by have := own_block ((unhide F3).below b4).own g e; omega))
    exact ⟨_, rfl, FJ.nm (by simp; omega) (unhide HLN), hb9⟩
end Go.Proofs.YtpfpaponlmfofaaDoor
