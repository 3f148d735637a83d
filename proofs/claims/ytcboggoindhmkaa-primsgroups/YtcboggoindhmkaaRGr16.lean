/- The document's Group of layer 16 (made by gen_rgroup.py). -/
import Derived.Test.YtcboggoindhmkaaRMl16
namespace Go.Proofs.Ytcboggoindhmkaa
open Go.RowKit

theorem cellsV.lay {w w9 : World} (hb : Below w.heap.size w w9) {g : Nat} : ∀ {l : List El} {b off : Nat} {cs : List Value} (off' : Nat), cellsV w l b off cs → (∀ j u, cs[j]? = some u → w9.cell? ⟨g, off' + j, none⟩ = some u) → ElV.L w9 l g off'
  | [], _, _, _, _, _, _ => by simp only [ElV.L]
  | e :: t, b, off, cs, off', h, hc => by
    obtain ⟨ad, cap, r, rfl, _, _, _, _, _, hv, ht⟩ := h
    simp only [ElV.L]
    refine ⟨⟨_, _, _, _, _, hc 0 _ rfl, hc 1 _ rfl, hc 2 _ rfl, hc 3 _ rfl, hc 4 _ rfl, ?_⟩, cellsV.lay hb (off' + 5) ht fun j u hu => ?_⟩
    · obtain ⟨c, m, n, s, els⟩ := e
      obtain ⟨ad', cap', hv', hn, hx⟩ := hv.below hb
      cases hv'
      simp only [ElV]
      exact ⟨ad, cap, rfl, hn, hx⟩
    · have := hc (5 + j) u (by rw [Nat.add_comm]; simpa using hu)
      rwa [show off' + (5 + j) = off' + 5 + j by omega] at this
theorem own_els {w w9 : World} {B g N cap : Nat} {l : List El} {b off : Nat} {cs : List Value} (hN : N = l.length) (hl : l.length ≤ 1000) (ho : w9.ownsRow B 26 5 (.slice (some ⟨g, 0, none⟩) N cap) N cs) (hc : cellsV w l b off cs) (hb : Below w.heap.size w w9) : ElsV w9 (.slice (some ⟨g, 0, none⟩) N cap) l := by
  subst hN
  refine ⟨_, cap, rfl, by omega, .inr ⟨g, 0, rfl, hc.lay hb 0 fun j u hu => ?_⟩⟩
  have := World.ownsRow.cells ho (g := g) rfl j u hu
  rw [add_zero3] at this
  rwa [Nat.zero_add]
theorem made_V {w : World} {c n : Int} {l : List El} {ad : Option Addr} {cap N : Nat} (hN : N = l.length) (h : ElsV w (.slice ad N cap) l) : ElV w (.mk c true n ⟨#[]⟩ l) (.agg #[.int .i64 c, .bool true, .int .i64 n, .string ⟨#[]⟩, .slice ad N cap]) := by
  subst hN
  obtain ⟨ad', cap', hv, hn, hx⟩ := h
  cases hv
  simp only [ElV]
  exact ⟨ad, cap, rfl, hn, hx⟩
theorem ElsV.kept {w w2 : World} {v : Value} {l : List El} (h : ElsV w v l) (hb : Below w.heap.size w w2) : ElsV w2 v l := h.below hb
abbrev oM (c n : Int) : Obj := .cells #[.int .i64 c, .bool true, .int .i64 n, .string ⟨#[]⟩, .slice none 0 0] 26
abbrev oN : Obj := .cells #[] 26
theorem own_at (w : World) (B : Nat) (hB : w.heap.size = B) : (w.alloc oN).ownsRow B 26 5 (.slice (some ⟨B, 0, none⟩) 0 0) 0 [] := by
  subst hB
  exact own_nil5 w _ (Nat.le_refl _)
theorem bel_own5 {w w9 : World} {B : Nat} {v : Value} {xs : List Value} (ho : (w.alloc oN).ownsRow B 26 5 v 0 xs) (hg : (w.alloc oN).grownBy w9 v.ownBlock) (hB : w.heap.size = B) : Below w.heap.size w w9 := by
  subst hB
  exact (Below.one w oN).trans (below_own hg (by simp) (own_block ho))
set_option maxHeartbeats 3200000 in
theorem rgroup_bad (c n : Int) (l : List El) (v : Value) (w : World) (hok : mkOk c n = false) (hV : ElsV w v l) : Calls Try.prog 18 #[.int .i64 c, .int .i64 n, v] w fun r w' => ∃ v', r = .returned (.tuple #[v', .int .i64 2]) ∧ ElV w' el0 v' ∧ Below w.heap.size w w' := by
  have HZ1 := hide (Bx.new w (.int .i64 0) (.bool false) (.int .i64 0) (.string ⟨#[]⟩) (.slice none 0 0) 26)
  have HB0 := hide (Below.one w Z5)
  have HS := hide (rsort_bad c n hok)
  obtain ⟨ad, cap, rfl, _⟩ := hV
  clear hok
  go_enter Try.func18, Try.ntmps18
  go_wp2_with (go_at_call 32; refine (unhide HS _).mono ?_; rintro r w2 ⟨rfl, b2⟩; have BX9 := hide (((unhide HZ1).below b2).below (Below.one w2 Z5)); have q0 := (unhide BX9).c0; have q1 := (unhide BX9).c1; have q2 := (unhide BX9).c2; have q3 := (unhide BX9).c3; have q4 := (unhide BX9).c4; have f0 := (unhide BX9).f0; have f1 := (unhide BX9).f1; have f2 := (unhide BX9).f2; have f3 := (unhide BX9).f3; have f4 := (unhide BX9).f4; have B9 := hide (bel_one16 (below_next (unhide HB0) b2) Z5); clear b2)
  generalize w2.alloc Z5 = w9 at *
  have bw := set5_below (.int .i64 0) (.bool false) (.int .i64 0) (.string ⟨#[]⟩) (.slice none 0 0) (Nat.le_refl w.heap.size) (unhide B9)
  generalize hW : (((((w9.setCell ⟨w.heap.size, 0, none⟩ (.int .i64 0)).setCell ⟨w.heap.size, 1, none⟩ (.bool false)).setCell ⟨w.heap.size, 2, none⟩ (.int .i64 0)).setCell ⟨w.heap.size, 3, none⟩ (.string ⟨#[]⟩)).setCell ⟨w.heap.size, 4, none⟩ (.slice none 0 0)) = W9 at *
  obtain ⟨r0, r1, r2, r3, r4, ro⟩ := set5 _ _ _ _ _ q0 q1 q2 q3 q4 hW
  clear hW
  refine bodyPost_ret (by simp [results, Try.results18, go_sem, r0, r1, r2, r3, r4]; try rfl) rfl ?_
  exact ⟨_, rfl, el0_V _, bw⟩
set_option maxHeartbeats 3200000 in
theorem rgroup_some (c n : Int) (l : List El) (v : Value) (w : World) (hok : mkOk c n = true) (hl : l.length ≤ 1000) (hp : 0 < l.length) (hV : ElsV w v l) : Calls Try.prog 18 #[.int .i64 c, .int .i64 n, v] w fun r w' => ∃ v', r = .returned (.tuple #[v', .int .i64 0]) ∧ ElV w' (.mk c true n ⟨#[]⟩ l) v' ∧ Below w.heap.size w w' := by
  obtain ⟨i0, hi, hz0, hz1, hz2⟩ := info_parts el_info
  have HZ1 := hide (Bx.new w (.int .i64 0) (.bool false) (.int .i64 0) (.string ⟨#[]⟩) (.slice none 0 0) 26)
  have HB0 := hide (Below.one w Z5)
  have HS := hide (rsort_ok c n hok)
  obtain ⟨ad, cap, rfl, hn, hc⟩ := hV
  obtain ⟨b, off, rfl, hcc⟩ := hc.resolve_left (by omega)
  obtain ⟨news, hcs⟩ := cellsV.of l b off hcc
  have HNW : Hid (∀ w3, Below w.heap.size w w3 → ∀ j u, news[j]? = some u → w3.cell? ((⟨b, off, none⟩ : Addr).add j) = some u) := fun w3 hb j u hu => by
    have e : (⟨b, off, none⟩ : Addr).add j = ⟨b, off + j, none⟩ := by unfold Addr.add; split <;> simp_all
    have h := hcs.news j u hu
    rw [e]
    exact (hb.cell (cell_lt h)).trans h
  have HLM : Hid (news.length = l.length * 5) := hcs.len
  have HON := hide hcs.one
  have HEL : Hid (∀ (w9 : World) (B g cap9 N : Nat), N = l.length → w9.ownsRow B 26 5 (.slice (some ⟨g, 0, none⟩) N cap9) N news → Below w.heap.size w w9 → ElsV w9 (.slice (some ⟨g, 0, none⟩) N cap9) l) := fun w9 B g cap9 N hN ho hb => own_els hN hl ho hcs hb
  clear hcs hcc hc hok
  obtain ⟨N, hN⟩ : ∃ N, l.length = N := ⟨_, rfl⟩
  rw [hN] at hn hl hp HLM ⊢
  have HN := hide hN
  clear hN
  have hm1 : 0 + N ≤ maxLen := by unfold maxLen; omega
  go_enter Try.func18, Try.ntmps18
  go_wp2_with (first
    | (at_builtin; refine wpList_append_lies _ rfl _ _ 24 rfl (w2.heap.size + 1) 26 i0 _ 5 64 Try.underlying24 hi hz0 hz1 hz2 rfl (by omega) _ 0 [] rfl (unhide OWN) ⟨b, off, none⟩ N cap news rfl (unhide HLM) (unhide HNW _ (unhide B4)) (unhide HON) hp hm1 (by omega) (by simp) (w2.heap.size + 1 + 1) (by simp) ?_; intro g9 cap9 w9 hown9 hgrow9 hat9 hlt9; rw [Nat.zero_add, List.nil_append] at hown9; have GB := hide (bel_own5 (unhide OWN) hgrow9 (unhide HSZ)); have B9 := hide (below_next (unhide B3) (unhide GB)); have BR9 := hide ((unhide BR3).below (unhide GB)); have BE9 := hide ((unhide BE3).below (unhide GB)); have OW9 := hide hown9; clear hown9 hgrow9 hat9 hlt9; have d0 := (unhide BE9).c0; have d1 := (unhide BE9).c1; have d2 := (unhide BE9).c2; have d3 := (unhide BE9).c3; have d4 := (unhide BE9).c4; have e4 := (unhide BE9).f4; have FAR : Hid (∀ i, (w9.setCell ⟨w2.heap.size, 4, none⟩ (.slice (some ⟨g9, 0, none⟩) N cap9)).cell? ⟨w.heap.size, i, none⟩ = w9.cell? ⟨w.heap.size, i, none⟩) := (fun i => cell_far (fun e => Nat.ne_of_lt (unhide LT2) (congrArg Addr.block e))); have q0 := (unhide FAR 0).trans (unhide BR9).c0; have q1 := (unhide FAR 1).trans (unhide BR9).c1; have q2 := (unhide FAR 2).trans (unhide BR9).c2; have q3 := (unhide FAR 3).trans (unhide BR9).c3; have q4 := (unhide FAR 4).trans (unhide BR9).c4; have FRZ : Hid (∀ i, (w9.setCell ⟨w2.heap.size, 4, none⟩ (.slice (some ⟨g9, 0, none⟩) N cap9)).frozen? ⟨w.heap.size, i, none⟩ = w9.frozen? ⟨w.heap.size, i, none⟩) := (fun i => by (rw [World.frozen?_setCell])); have f0 := (unhide FRZ 0).trans (unhide BR9).f0; have f1 := (unhide FRZ 1).trans (unhide BR9).f1; have f2 := (unhide FRZ 2).trans (unhide BR9).f2; have f3 := (unhide FRZ 3).trans (unhide BR9).f3; have f4 := (unhide FRZ 4).trans (unhide BR9).f4)
    | (go_at_call 32; refine (unhide HS _).mono ?_; rintro r w2 ⟨rfl, b2⟩; have B2 := hide (below_next (unhide HB0) b2); have B3 := hide (bel_one16 (unhide B2) (oM c n)); have B4 := hide (bel_one16 (unhide B3) oN); have BR3 := hide (((unhide HZ1).below b2).below (Below.one w2 (oM c n))); have BE3 := hide (Bx.new w2 (.int .i64 c) (.bool true) (.int .i64 n) (.string ⟨#[]⟩) (.slice none 0 0) 26); have HSZ : Hid ((w2.alloc (oM c n)).heap.size = w2.heap.size + 1) := (by show _ = _; simp); have OWN := hide (own_at (w2.alloc (oM c n)) (w2.heap.size + 1) (unhide HSZ)); have LT2 : Hid (w.heap.size < w2.heap.size) := (Nat.lt_of_lt_of_le (by simp) b2.size); clear b2))
  have lt2 := unhide LT2
  have bq : Below w.heap.size w (w9.setCell ⟨w2.heap.size, 4, none⟩ (.slice (some ⟨g9, 0, none⟩) N cap9)) := (unhide B9).setCell (Nat.le_of_lt lt2) _
  have oq := ownsRow_setCell_below (unhide OW9) (a := ⟨w2.heap.size, 4, none⟩) (by show w2.heap.size < w2.heap.size + 1; omega) (.slice (some ⟨g9, 0, none⟩) N cap9)
  generalize w9.setCell ⟨w2.heap.size, 4, none⟩ (.slice (some ⟨g9, 0, none⟩) N cap9) = WQ at *
  have bw := set5_below (.int .i64 c) (.bool true) (.int .i64 n) (.string ⟨#[]⟩) (.slice (some ⟨g9, 0, none⟩) N cap9) (Nat.le_refl w.heap.size) bq
  have ob := fun (i : Nat) => (show (⟨w.heap.size, i, none⟩ : Addr).block < w2.heap.size + 1 by show w.heap.size < _; omega)
  have ow := ownsRow_setCell_below (ownsRow_setCell_below (ownsRow_setCell_below (ownsRow_setCell_below (ownsRow_setCell_below oq (ob 0) (.int .i64 c)) (ob 1) (.bool true)) (ob 2) (.int .i64 n)) (ob 3) (.string ⟨#[]⟩)) (ob 4) (.slice (some ⟨g9, 0, none⟩) N cap9)
  generalize hW : (((((WQ.setCell ⟨w.heap.size, 0, none⟩ (.int .i64 c)).setCell ⟨w.heap.size, 1, none⟩ (.bool true)).setCell ⟨w.heap.size, 2, none⟩ (.int .i64 n)).setCell ⟨w.heap.size, 3, none⟩ (.string ⟨#[]⟩)).setCell ⟨w.heap.size, 4, none⟩ (.slice (some ⟨g9, 0, none⟩) N cap9)) = W9 at *
  obtain ⟨r0, r1, r2, r3, r4, ro⟩ := set5 _ _ _ _ _ q0 q1 q2 q3 q4 hW
  clear hW
  refine bodyPost_ret (by simp [results, Try.results18, go_sem, r0, r1, r2, r3, r4]; try rfl) rfl ?_
  exact ⟨_, rfl, made_V (unhide HN).symm (unhide HEL W9 _ g9 cap9 N (unhide HN).symm ow bw), bw⟩
set_option maxHeartbeats 3200000 in
theorem rgroup_none (c n : Int) (v : Value) (w : World) (hok : mkOk c n = true) (hV : ElsV w v []) : Calls Try.prog 18 #[.int .i64 c, .int .i64 n, v] w fun r w' => ∃ v', r = .returned (.tuple #[v', .int .i64 0]) ∧ ElV w' (.mk c true n ⟨#[]⟩ []) v' ∧ Below w.heap.size w w' := by
  have HZ1 := hide (Bx.new w (.int .i64 0) (.bool false) (.int .i64 0) (.string ⟨#[]⟩) (.slice none 0 0) 26)
  have HB0 := hide (Below.one w Z5)
  have HS := hide (rsort_ok c n hok)
  obtain ⟨ad, cap, rfl, _⟩ := hV
  clear hok
  simp only [List.length_nil]
  cases ad with
  | none =>
    go_enter Try.func18, Try.ntmps18
    go_wp2_with (go_at_call 32; refine (unhide HS _).mono ?_; rintro r w2 ⟨rfl, b2⟩; have BR3 := hide ((unhide HZ1).below b2); have B2 := hide (below_next (unhide HB0) b2); clear b2; have BRQ := hide ((unhide BR3).below ((Gr.one w2 (.cells #[.int .i64 c, .bool true, .int .i64 n, .string ⟨#[]⟩, .slice (some ⟨w2.heap.size + 1, 0, none⟩) 0 0] 26)).alloc oN).below); have q0 := (unhide BRQ).c0; have q1 := (unhide BRQ).c1; have q2 := (unhide BRQ).c2; have q3 := (unhide BRQ).c3; have q4 := (unhide BRQ).c4; have f0 := (unhide BRQ).f0; have f1 := (unhide BRQ).f1; have f2 := (unhide BRQ).f2; have f3 := (unhide BRQ).f3; have f4 := (unhide BRQ).f4; have BQ := hide (below_next (unhide B2) ((Gr.one w2 (.cells #[.int .i64 c, .bool true, .int .i64 n, .string ⟨#[]⟩, .slice (some ⟨w2.heap.size + 1, 0, none⟩) 0 0] 26)).alloc oN).below))
    generalize (w2.alloc (.cells #[.int .i64 c, .bool true, .int .i64 n, .string ⟨#[]⟩, .slice (some ⟨w2.heap.size + 1, 0, none⟩) 0 0] 26)).alloc oN = WQ at *
    have bw := set5_below (.int .i64 c) (.bool true) (.int .i64 n) (.string ⟨#[]⟩) (.slice (some ⟨w2.heap.size + 1, 0, none⟩) 0 0) (Nat.le_refl w.heap.size) (unhide BQ)
    generalize hW : (((((WQ.setCell ⟨w.heap.size, 0, none⟩ (.int .i64 c)).setCell ⟨w.heap.size, 1, none⟩ (.bool true)).setCell ⟨w.heap.size, 2, none⟩ (.int .i64 n)).setCell ⟨w.heap.size, 3, none⟩ (.string ⟨#[]⟩)).setCell ⟨w.heap.size, 4, none⟩ (.slice (some ⟨w2.heap.size + 1, 0, none⟩) 0 0)) = W9 at *
    obtain ⟨r0, r1, r2, r3, r4, ro⟩ := set5 _ _ _ _ _ q0 q1 q2 q3 q4 hW
    clear hW
    refine bodyPost_ret (by simp [results, Try.results18, go_sem, r0, r1, r2, r3, r4]; try rfl) rfl ?_
    exact ⟨_, rfl, made_V rfl ⟨_, 0, rfl, Nat.zero_le _, .inl rfl⟩, bw⟩
  | some ad =>
    go_enter Try.func18, Try.ntmps18
    go_wp2_with (go_at_call 32; refine (unhide HS _).mono ?_; rintro r w2 ⟨rfl, b2⟩; have BR3 := hide ((unhide HZ1).below b2); have B2 := hide (below_next (unhide HB0) b2); clear b2; have BRQ := hide ((unhide BR3).below ((Gr.one w2 (.cells #[.int .i64 c, .bool true, .int .i64 n, .string ⟨#[]⟩, .slice (some ⟨w2.heap.size + 1, 0, none⟩) 0 0] 26)).alloc oN).below); have q0 := (unhide BRQ).c0; have q1 := (unhide BRQ).c1; have q2 := (unhide BRQ).c2; have q3 := (unhide BRQ).c3; have q4 := (unhide BRQ).c4; have f0 := (unhide BRQ).f0; have f1 := (unhide BRQ).f1; have f2 := (unhide BRQ).f2; have f3 := (unhide BRQ).f3; have f4 := (unhide BRQ).f4; have BQ := hide (below_next (unhide B2) ((Gr.one w2 (.cells #[.int .i64 c, .bool true, .int .i64 n, .string ⟨#[]⟩, .slice (some ⟨w2.heap.size + 1, 0, none⟩) 0 0] 26)).alloc oN).below))
    generalize (w2.alloc (.cells #[.int .i64 c, .bool true, .int .i64 n, .string ⟨#[]⟩, .slice (some ⟨w2.heap.size + 1, 0, none⟩) 0 0] 26)).alloc oN = WQ at *
    have bw := set5_below (.int .i64 c) (.bool true) (.int .i64 n) (.string ⟨#[]⟩) (.slice (some ⟨w2.heap.size + 1, 0, none⟩) 0 0) (Nat.le_refl w.heap.size) (unhide BQ)
    generalize hW : (((((WQ.setCell ⟨w.heap.size, 0, none⟩ (.int .i64 c)).setCell ⟨w.heap.size, 1, none⟩ (.bool true)).setCell ⟨w.heap.size, 2, none⟩ (.int .i64 n)).setCell ⟨w.heap.size, 3, none⟩ (.string ⟨#[]⟩)).setCell ⟨w.heap.size, 4, none⟩ (.slice (some ⟨w2.heap.size + 1, 0, none⟩) 0 0)) = W9 at *
    obtain ⟨r0, r1, r2, r3, r4, ro⟩ := set5 _ _ _ _ _ q0 q1 q2 q3 q4 hW
    clear hW
    refine bodyPost_ret (by simp [results, Try.results18, go_sem, r0, r1, r2, r3, r4]; try rfl) rfl ?_
    exact ⟨_, rfl, made_V rfl ⟨_, 0, rfl, Nat.zero_le _, .inl rfl⟩, bw⟩
theorem rgroup_any (c n : Int) (l : List El) (v : Value) (w : World) (hl : l.length ≤ 1000) (hV : ElsV w v l) : Calls Try.prog 18 #[.int .i64 c, .int .i64 n, v] w fun r w' => ∃ v', r = .returned (.tuple #[v', .int .i64 (mkX c n)]) ∧ ElV w' (mkE c true n ⟨#[]⟩ l) v' ∧ Below w.heap.size w w' := by
  unfold mkX mkE
  cases hok : mkOk c n
  · exact rgroup_bad c n l v w hok hV
  · by_cases h0 : l = []
    · subst h0
      exact rgroup_none c n v w hok hV
    · exact rgroup_some c n l v w hok hl (List.length_pos_iff.2 h0) hV
end Go.Proofs.Ytcboggoindhmkaa
