/- The law HangulBack. -/
import Derived.Test.YtcgkdiflhlmlgaaDoorLaws
import Derived.BigFrame
namespace Go.Proofs.YtcgkdiflhlmlgaaDoor
open Go.RowKit

/-- append, where the operation has a guard that says yes. -/
theorem wpList_append_guarded {P : Program} (w : World) {ops : Array Oper} {rest : List Oper} {o : Oper} {a : Act} {Q : Exit → Act → World → Prop} (hgd : Region.wanted o (yielded ops a.tmps) = true) (s x : Operand) (t : TypeId)
    (ho : o.op = .call { callee := .builtin .append, args := #[s, x], argTypes := #[t, t] })
    (base : Nat) (e : TypeId) (i : TypeInfo) (z : Value) (size bytes : Nat) (ht : P.underlying t = some (.slice e)) (hi : P.info? e = some i) (hz : i.zero = some z)
    (hsize : i.size = size) (hby : i.bytes = bytes) (hzs : z.cells.size = size) (hsz : 0 < size)
    (v : Value) (n : Nat) (xs : List Value) (hs : a.eval s = v) (hown : w.ownsRow base e size v n xs)
    (ad : Addr) (m c : Nat) (news : List Value) (hx : a.eval x = .slice (some ad) m c) (hl : news.length = m * size) (hnews : ∀ j u, news[j]? = some u → w.cell? (ad.add j) = some u) (h1 : ∀ u ∈ news, u.oneCell' = true)
    (hm : 0 < m) (h63 : n + m ≤ maxLen) (hbytes : (n + m) * bytes ≤ 140737488355328) (hbase : base ≤ w.heap.size) (H : Nat) (hH : w.heap.size = H)
    (h : ∀ g cap w', w'.ownsRow base e size (.slice (some ⟨g, 0, none⟩) (n + m) cap) (n + m) (xs ++ news) → w.grownBy w' v.ownBlock → (v.ownBlock = some g ∨ g = H) → g < w'.heap.size → wpList P ops Q rest (a.put o.dst (.slice (some ⟨g, 0, none⟩) (n + m) cap)) w') : wpList P ops Q (o :: rest) a w :=
  BigFrame.wpList_want hgd fun _ hK => wp_append_lies w s x t ho base e i z size bytes ht hi hz hsize hby hzs hsz v n xs hs hown ad m c news hx hl hnews h1 hm h63 hbytes hbase H hH fun g cap w' h2 h3 h4 h5 => hK _ _ (h g cap w' h2 h3 h4 h5)

theorem bk1 (a : Int) (N : Nat) (hN : N = (apt a).length) (w : World) (hL : Lay w) : Calls Tryd.prog 13 #[.int .i32 a] w fun e w' => ∃ g c, e = .returned (.slice (some ⟨g, 0, none⟩) N c) ∧ g < w'.heap.size ∧ Rn w.heap.size (.slice (some ⟨g, 0, none⟩) N c) (apt a) w' ∧ Below w.heap.size w w' :=
  (apart_any a w hL).mono fun _ _ ⟨v, he, hr, hb⟩ => by
    obtain ⟨g, c, hv, _, hg⟩ := hr.held (apt_pos a)
    rw [← hN] at hv
    subst hv
    exact ⟨g, c, he, hg, hr, hb⟩
theorem bk2 (a : Int) (v : Value) (w : World) (hL : Lay w) (h : Row w v (apt a)) : Calls Tryd.prog 18 #[v] w fun e w' => ∃ g c, e = .returned (.slice (some ⟨g, 0, none⟩) 1 c) ∧ w'.cell? ⟨g, 0, none⟩ = some (.int .i32 a) ∧ Below w.heap.size w w' :=
  (whole_any v (apt a) w (Nat.le_trans (apt_len a) (by omega)) hL h).mono fun _ _ ⟨v2, he, hr, hb⟩ => by
    rw [whl_apt a] at hr
    obtain ⟨g, c, hv, _, hg⟩ := hr.held (by simp)
    subst hv
    exact ⟨g, c, he, Rn.last (t := []) hr, hb⟩

set_option maxHeartbeats 3200000 in
theorem back_no (a b : Int) (w : World) (hL : Lay w) (hj : jB a b = false) : Calls Tryd.prog 6 #[.int .i32 a, .int .i32 b] w fun e w' => e = .returned (.bool true) ∧ Below w.heap.size w w' := by
  obtain ⟨N, hN⟩ : ∃ N, N = (apt a).length := ⟨_, rfl⟩
  have hs := apt_one a
  rw [← hN] at hs
  have H1 := hide (bk1 a N hN)
  have H2 := hide (bk2 a)
  have H3 : Hid (∀ w, Calls Tryd.prog 8 #[.int .i32 a] w fun e w' => e = .returned (.bool (isSyl a)) ∧ w = w') := fun w => (syl_any a w).mono fun _ _ ⟨a, b⟩ => ⟨a, b.symm⟩
  have H4 : Hid (∀ w, Lay w → Calls Tryd.prog 16 #[.int .i32 a, .int .i32 b] w fun e w' => e = .returned (.tuple #[.int .i32 0, .bool false]) ∧ Gr w w') := fun w hw => by rw [← jR_none hj, ← hj]; exact join_any a b w hw
  have H7 := hide awake_any
  have hpos := hL.pos
  clear hN hj
  generalize isSyl a = s at *
  generalize apt a = p at *
  cases s
  · have hz : ¬ (1 : Int) < (N : Int) := by have := of_decide_eq_false hs.symm; omega
    clear hs
    go_enter Tryd.func6, Tryd.ntmps6
    go_wp2_with (first
      | (go_at_call 13; refine (unhide H1 _ hL).mono ?_; rintro e w1 ⟨g1, c1, rfl, hg1, r1, b1⟩; have hL1 := hL.below b1 hpos; have hp1 := hL1.pos; have HR1 := hide r1; clear r1)
      | (go_at_call 18; refine (unhide H2 _ _ hL1 (unhide HR1).row).mono ?_; rintro e w2 ⟨g2, c2, rfl, k2, b2⟩; have hL2 := hL1.below b2 hp1; have b12 := b1.trans (b2.mono b1.size))
      | (go_at_call 8; refine (unhide H3 _).mono ?_; rintro e w0 ⟨rfl, rfl⟩)
      | (go_at_call 16; refine (unhide H4 _ hL2).mono ?_; rintro e w3 ⟨rfl, g3⟩; have hL3 := hL2.gr g3; have b13 := b12.trans (g3.below.mono b12.size))
      | (go_at_call 15; refine (unhide H7 _ hL3).mono ?_; rintro e w5 ⟨rfl, b5⟩; have b15 := b13.trans (b5.mono b13.size)))
    go_ret
    exact ⟨rfl, b15⟩
  · have hz : (1 : Int) < (N : Int) := by have := of_decide_eq_true hs.symm; omega
    clear hs
    go_enter Tryd.func6, Tryd.ntmps6
    go_wp2_with (first
      | (go_at_call 13; refine (unhide H1 _ hL).mono ?_; rintro e w1 ⟨g1, c1, rfl, hg1, r1, b1⟩; have hL1 := hL.below b1 hpos; have hp1 := hL1.pos; have HR1 := hide r1; clear r1)
      | (go_at_call 18; refine (unhide H2 _ _ hL1 (unhide HR1).row).mono ?_; rintro e w2 ⟨g2, c2, rfl, k2, b2⟩; have hL2 := hL1.below b2 hp1; have b12 := b1.trans (b2.mono b1.size))
      | (go_at_call 8; refine (unhide H3 _).mono ?_; rintro e w0 ⟨rfl, rfl⟩)
      | (go_at_call 16; refine (unhide H4 _ hL2).mono ?_; rintro e w3 ⟨rfl, g3⟩; have hL3 := hL2.gr g3; have b13 := b12.trans (g3.below.mono b12.size))
      | (go_at_call 15; refine (unhide H7 _ hL3).mono ?_; rintro e w5 ⟨rfl, b5⟩; have b15 := b13.trans (b5.mono b13.size)))
    go_ret
    exact ⟨rfl, b15⟩

theorem Rn.kept {w w' : World} {B : Nat} {row : Option Nat} {v : Value} {l : List Int} (h : Rn B v l w) (hg : w.grownBy w' row) (hne : v.ownBlock ≠ row) : Rn B v l w' := World.ownsRow.kept h hg (.inr hne)

/-- What a later call made lies apart from what lay. -/
theorem apart_blocks {w : World} {B g n c : Nat} {v : Value} {l : List Int} (h : Rn B v l w) (hg : g < B) : v.ownBlock ≠ (Value.slice (some ⟨g, 0, none⟩) n c).ownBlock := by
  rcases h.2 with ⟨hv, _⟩ | ⟨g', cap, cur, hv, hB, _⟩
  · rw [hv]; simp [Value.ownBlock]
  · rw [hv]; simp [Value.ownBlock]; omega

set_option maxHeartbeats 3200000 in
theorem back_yes (a b : Int) (w : World) (hL : Lay w) (hj : jB a b = true) : Calls Tryd.prog 6 #[.int .i32 a, .int .i32 b] w fun e w' => e = .returned (.bool true) ∧ Below w.heap.size w w' := by
  obtain ⟨i0, hi, hz0, hz1, hz2⟩ := info_parts elem_info
  obtain ⟨N, hN⟩ : ∃ N, N = (apt a).length := ⟨_, rfl⟩
  have hs := apt_one a
  rw [← hN] at hs
  have hN3 := apt_len a
  have HN := hide hN
  have H1 := hide (bk1 a N hN)
  have H2 := hide (bk2 a)
  have H3 : Hid (∀ w, Calls Tryd.prog 8 #[.int .i32 a] w fun e w' => e = .returned (.bool (isSyl a)) ∧ w = w') := fun w => (syl_any a w).mono fun _ _ ⟨a, b⟩ => ⟨a, b.symm⟩
  have H4 : Hid (∀ w, Lay w → Calls Tryd.prog 16 #[.int .i32 a, .int .i32 b] w fun e w' => e = .returned (.tuple #[.int .i32 (jR a b), .bool true]) ∧ Gr w w') := fun w hw => by rw [← hj]; exact join_any a b w hw
  have H5 : Hid (∀ w, Lay w → Calls Tryd.prog 13 #[.int .i32 (jR a b)] w fun e w' => ∃ v, e = .returned v ∧ Rn w.heap.size v (apt a ++ [b]) w' ∧ Below w.heap.size w w') := fun w hw => by rw [← apt_join hj]; exact apart_any _ w hw
  have H6 : Hid (∀ w, Calls Tryd.prog 8 #[.int .i32 (jR a b)] w fun e w' => e = .returned (.bool true) ∧ w = w') := fun w => by rw [← jR_syl hj]; exact (syl_any _ w).mono fun _ _ ⟨a, b⟩ => ⟨a, b.symm⟩
  have H7 := hide awake_any
  have HS := hide (fun v1 v2 W => same_any v1 v2 (apt a ++ [b]) W (by rw [List.length_append]; simp; omega))
  have hpos := hL.pos
  have hm1 : N + 1 ≤ maxLen := by unfold maxLen; omega
  have hm2 : (N + 1) * 4 ≤ 140737488355328 := by omega
  clear hN hj hN3
  generalize isSyl a = s at *
  generalize apt a = p at *
  generalize jR a b = x at *
  cases s
  · have hz : ¬ (1 : Int) < (N : Int) := by have := of_decide_eq_false hs.symm; omega
    clear hs
    go_enter Tryd.func6, Tryd.ntmps6
    go_wp2_with (first
      | (go_at_call 13; (first
        | (refine (unhide H1 _ hL).mono ?_; rintro e w1 ⟨g1, c1, rfl, hg1, r1, b1⟩; clear H1; have hL1 := hL.below b1 hpos; have hp1 := hL1.pos; have HR1 := hide r1; clear r1)
        | (refine (unhide H5 _ hL3).mono ?_; rintro e w4 ⟨v4, rfl, r4, b4⟩; have hL4 := hL3.below b4 hp3; have HR4 := hide r4; clear r4; have b14 := b13.trans (b4.mono b13.size); have HR14 := hide ((unhide HR13).below b4); have hs4 := b4.size)))
      | (go_at_call 18; refine (unhide H2 _ _ hL1 (unhide HR1).row).mono ?_; rintro e w2 ⟨g2, c2, rfl, k2, b2⟩; have hL2 := hL1.below b2 hp1; have b12 := b1.trans (b2.mono b1.size); have HR12 := hide ((unhide HR1).below b2); have hs2 := b2.size)
      | (go_at_call 8; (first | (refine (unhide H3 _).mono ?_; rintro e w0 ⟨rfl, rfl⟩; clear H3) | (refine (unhide H6 _).mono ?_; rintro e w0 ⟨rfl, rfl⟩)))
      | (go_at_call 16; refine (unhide H4 _ hL2).mono ?_; rintro e w3 ⟨rfl, g3⟩; have hL3 := hL2.gr g3; have hp3 := hL3.pos; have b13 := b12.trans (g3.below.mono b12.size); have HR13 := hide ((unhide HR12).below g3.below); have hs3 := g3.size; clear g3)
      | (at_builtin; refine wpList_append_guarded _ (by rfl) _ _ 25 rfl w.heap.size 21 i0 _ 1 4 Tryd.underlying25 hi hz0 hz1 hz2 rfl (by omega) _ N _ rfl (World.ownsRow.alloc (Rn.own (unhide HN) (unhide HR14)) _) ⟨w4.heap.size, 0, none⟩ 1 1 [.int .i32 b] rfl rfl (World.news_of_block (cs := #[.int .i32 b]) (t := 21) (fr := (0, 0)) (heap_new w4 _)) (by simp [Value.oneCell']) (by omega) hm1 hm2 (by have := b14.size; simp; omega) (w4.heap.size + 1) (by simp) ?_; intro g9 cap9 w9 hown9 hgrow9 hat9 hlt9; have HR9 := hide (Rn.push (unhide HN) hown9); clear hown9; have hR49 := hide (Rn.kept ((unhide HR4).below (Below.one w4 _)) hgrow9 (apart_blocks (unhide HR4) (by omega))); have b19 := (b14.alloc b14.size _).trans (below_own hgrow9 (by have := b14.size; simp; omega) (own_block (unhide HR14))); have hL9 := hL.below b19 hpos)
      | (go_at_call 12; refine (unhide HS _ _ _ (unhide hR49).row (unhide HR9).row).mono ?_; rintro e w10 ⟨rfl, b10⟩; have b110 := b19.trans (b10.mono b19.size); have hL10 := hL.below b110 hpos)
      | (go_at_call 15; refine (unhide H7 _ hL10).mono ?_; rintro e w5 ⟨rfl, b5⟩; have b15 := b110.trans (b5.mono b110.size)))
    go_ret
    exact ⟨rfl, b15⟩
  · have hz : (1 : Int) < (N : Int) := by have := of_decide_eq_true hs.symm; omega
    clear hs
    go_enter Tryd.func6, Tryd.ntmps6
    go_wp2_with (first
      | (go_at_call 13; (first
        | (refine (unhide H1 _ hL).mono ?_; rintro e w1 ⟨g1, c1, rfl, hg1, r1, b1⟩; clear H1; have hL1 := hL.below b1 hpos; have hp1 := hL1.pos; have HR1 := hide r1; clear r1)
        | (refine (unhide H5 _ hL3).mono ?_; rintro e w4 ⟨v4, rfl, r4, b4⟩; have hL4 := hL3.below b4 hp3; have HR4 := hide r4; clear r4; have b14 := b13.trans (b4.mono b13.size); have HR14 := hide ((unhide HR13).below b4); have hs4 := b4.size)))
      | (go_at_call 18; refine (unhide H2 _ _ hL1 (unhide HR1).row).mono ?_; rintro e w2 ⟨g2, c2, rfl, k2, b2⟩; have hL2 := hL1.below b2 hp1; have b12 := b1.trans (b2.mono b1.size); have HR12 := hide ((unhide HR1).below b2); have hs2 := b2.size)
      | (go_at_call 8; (first | (refine (unhide H3 _).mono ?_; rintro e w0 ⟨rfl, rfl⟩; clear H3) | (refine (unhide H6 _).mono ?_; rintro e w0 ⟨rfl, rfl⟩)))
      | (go_at_call 16; refine (unhide H4 _ hL2).mono ?_; rintro e w3 ⟨rfl, g3⟩; have hL3 := hL2.gr g3; have hp3 := hL3.pos; have b13 := b12.trans (g3.below.mono b12.size); have HR13 := hide ((unhide HR12).below g3.below); have hs3 := g3.size; clear g3)
      | (at_builtin; refine wpList_append_guarded _ (by rfl) _ _ 25 rfl w.heap.size 21 i0 _ 1 4 Tryd.underlying25 hi hz0 hz1 hz2 rfl (by omega) _ N _ rfl (World.ownsRow.alloc (Rn.own (unhide HN) (unhide HR14)) _) ⟨w4.heap.size, 0, none⟩ 1 1 [.int .i32 b] rfl rfl (World.news_of_block (cs := #[.int .i32 b]) (t := 21) (fr := (0, 0)) (heap_new w4 _)) (by simp [Value.oneCell']) (by omega) hm1 hm2 (by have := b14.size; simp; omega) (w4.heap.size + 1) (by simp) ?_; intro g9 cap9 w9 hown9 hgrow9 hat9 hlt9; have HR9 := hide (Rn.push (unhide HN) hown9); clear hown9; have hR49 := hide (Rn.kept ((unhide HR4).below (Below.one w4 _)) hgrow9 (apart_blocks (unhide HR4) (by omega))); have b19 := (b14.alloc b14.size _).trans (below_own hgrow9 (by have := b14.size; simp; omega) (own_block (unhide HR14))); have hL9 := hL.below b19 hpos)
      | (go_at_call 12; refine (unhide HS _ _ _ (unhide hR49).row (unhide HR9).row).mono ?_; rintro e w10 ⟨rfl, b10⟩; have b110 := b19.trans (b10.mono b19.size); have hL10 := hL.below b110 hpos)
      | (go_at_call 15; refine (unhide H7 _ hL10).mono ?_; rintro e w5 ⟨rfl, b5⟩; have b15 := b110.trans (b5.mono b110.size)))
    go_ret
    exact ⟨rfl, b15⟩

theorem back_law (a b : Int) (w : World) (hL : Lay w) : Calls Tryd.prog 6 #[.int .i32 a, .int .i32 b] w fun e w' => e = .returned (.bool true) ∧ Below w.heap.size w w' := by
  cases hj : jB a b
  · exact back_no a b w hL hj
  · exact back_yes a b w hL hj
end Go.Proofs.YtcgkdiflhlmlgaaDoor
