/- Contracts of the landed blanks: framed, Value, Numeric, Phone, Piece. -/
import Derived.Test.YtdlbdfndnjdeeaaBl11
namespace Go.Proofs.Ytdlbdfndnjdeeaa
open Go.RowKit

def fra (h b : Bool) (m : List Int) : List Int := (if h then [32] else []) ++ (m ++ (if b then [32] else []))
set_option maxHeartbeats 3200000 in
theorem bframed_any (h b : Bool) (C : Nat) (u : Value) (m : List Int) (w : World) (hlen : m.length ≤ 30000) (hu : Rn C u m w) :
    Calls Try.prog 25 #[.bool h, u, .bool b] w fun e w' => ∃ v', e = .returned v' ∧ Rn w.heap.size v' (fra h b m) w' ∧ Below w.heap.size w w' := by
  obtain ⟨i0, hi, hz0, hz1, hz2⟩ := info_parts elem_info
  obtain ⟨a, c, hv⟩ := hu.shape
  obtain ⟨n, hn⟩ : ∃ n, n = m.length := ⟨_, rfl⟩
  rw [← hn] at hlen hv
  subst hv
  have HN := hide hn
  have HU := hide hu
  clear hn hu
  have e1 : IntKind.i64.wrap ((n : Int) + 2) = (n : Int) + 2 := by rw [IntKind.wrap_i64]; omega
  have hml : n + 2 ≤ maxLen := by unfold maxLen; omega
  have hm0 : 0 + 1 ≤ maxLen := by unfold maxLen; omega
  have hm1 : 0 + n ≤ maxLen := by unfold maxLen; omega
  have hm2 : 1 + n ≤ maxLen := by unfold maxLen; omega
  have hm3 : 1 + n + 1 ≤ maxLen := by unfold maxLen; omega
  have hm4 : n + 1 ≤ maxLen := by unfold maxLen; omega
  have HB1 : Hid (∀ w1, w.grownBy w1 none → Below w.heap.size w w1) := fun w1 hg => (Below.refl _ _).grown hg (Nat.le_refl _) (by intro k h; cases h)
  cases h
  · have HRN0 : Hid (∀ (v' : Value) (w' : World), w'.ownsRow w.heap.size 21 1 v' n ([] ++ m.map (Value.int .i32)) → Rn w.heap.size v' (fra false false m) w') := fun v' w' h => by
      unfold Rn fra
      rw [unhide HN] at h
      simpa using h
    have HRN1 : Hid (∀ (v' : Value) (w' : World), w'.ownsRow w.heap.size 21 1 v' (n + 1) ([] ++ m.map (Value.int .i32) ++ [.int .i32 32]) → Rn w.heap.size v' (fra false true m) w') := fun v' w' h => by
      unfold Rn fra
      rw [unhide HN] at h
      simpa using h
    cases b
    · go_enter Try.func25, Try.ntmps25
      go_wp2_with (first
        | (at_builtin; refine wpList_append_rn _ rfl _ _ rfl w.heap.size i0 hi hz0 hz1 hz2 _ 0 _ rfl (unhide O1) _ m C rfl ((unhide HU).below b1) (by rw [← unhide HN]; exact hm1) (by rw [← unhide HN]; omega) hs1 ?_; intro v5 w5 hown5 hgrow5; rw [← unhide HN, Nat.zero_add] at hown5; have hb5 := b1.trans (below_own hgrow5 hs1 (own_block (unhide O1))))
        | (refine wpList_make_own _ rfl _ _ 22 rfl w.heap.size 21 i0 (.int .i32 0) 1 Try.underlying22 hi hz0 hz1 .i64 .i64 _ (n + 2) rfl rfl (by simp) (by rw [hz2]; omega) hml (Nat.le_refl _) ?_; intro w1 hown1 hgrow1; have b1 := unhide HB1 _ hgrow1; have hs1 := b1.size; have O1 := hide hown1; clear hown1 hgrow1))
      go_ret
      exact ⟨_, rfl, unhide HRN0 _ _ hown5, hb5⟩
    · go_enter Try.func25, Try.ntmps25
      go_wp2_with (first
        | (at_builtin; refine wpList_append_lies _ rfl _ _ 22 rfl w.heap.size 21 i0 _ 1 4 Try.underlying22 hi hz0 hz1 hz2 rfl (by omega) _ n _ rfl (World.ownsRow.alloc (unhide O5) _) ⟨w5.heap.size, 0, none⟩ 1 1 [.int .i32 32] rfl rfl (World.news_of_block (cs := #[.int .i32 32]) (t := 21) (fr := (0, 0)) (heap_new w5 _)) (by simp [Value.oneCell']) (by omega) hm4 (by omega) (by simp; omega) (w5.heap.size + 1) (by simp) ?_; intro g9 cap9 w9 hown9 hgrow9 hat9 hlt9; have hb9 := (hb5.alloc (by omega) _).trans (below_own hgrow9 (by simp; omega) (own_block (unhide O5))))
        | (at_builtin; refine wpList_append_rn _ rfl _ _ rfl w.heap.size i0 hi hz0 hz1 hz2 _ 0 _ rfl (unhide O1) _ m C rfl ((unhide HU).below b1) (by rw [← unhide HN]; exact hm1) (by rw [← unhide HN]; omega) hs1 ?_; intro v5 w5 hown5 hgrow5; rw [← unhide HN, Nat.zero_add] at hown5; have hb5 := b1.trans (below_own hgrow5 hs1 (own_block (unhide O1))); have hs5 := hb5.size; have O5 := hide hown5; clear hown5 hgrow5)
        | (refine wpList_make_own _ rfl _ _ 22 rfl w.heap.size 21 i0 (.int .i32 0) 1 Try.underlying22 hi hz0 hz1 .i64 .i64 _ (n + 2) rfl rfl (by simp) (by rw [hz2]; omega) hml (Nat.le_refl _) ?_; intro w1 hown1 hgrow1; have b1 := unhide HB1 _ hgrow1; have hs1 := b1.size; have O1 := hide hown1; clear hown1 hgrow1))
      go_ret
      exact ⟨_, rfl, unhide HRN1 _ _ hown9, hb9⟩
  · have HRN0 : Hid (∀ (v' : Value) (w' : World), w'.ownsRow w.heap.size 21 1 v' (1 + n) ([] ++ [.int .i32 32] ++ m.map (Value.int .i32)) → Rn w.heap.size v' (fra true false m) w') := fun v' w' h => by
      unfold Rn fra
      rw [unhide HN] at h
      simpa [Nat.add_comm] using h
    have HRN1 : Hid (∀ (v' : Value) (w' : World), w'.ownsRow w.heap.size 21 1 v' (1 + n + 1) ([] ++ [.int .i32 32] ++ m.map (Value.int .i32) ++ [.int .i32 32]) → Rn w.heap.size v' (fra true true m) w') := fun v' w' h => by
      unfold Rn fra
      rw [unhide HN] at h
      simpa [Nat.add_comm, Nat.add_left_comm] using h
    cases b
    · go_enter Try.func25, Try.ntmps25
      go_wp2_with (first
        | (at_builtin; refine wpList_append_rn _ rfl _ _ rfl w.heap.size i0 hi hz0 hz1 hz2 _ 1 _ rfl (unhide O8) _ m C rfl ((unhide HU).below b8) (by rw [← unhide HN]; exact hm2) (by rw [← unhide HN]; omega) hs8 ?_; intro v5 w5 hown5 hgrow5; rw [← unhide HN] at hown5; have hb5 := hb8.trans (below_own hgrow5 hs8 (own_block (unhide O8))))
        | (at_builtin; refine wpList_append_lies _ rfl _ _ 22 rfl w.heap.size 21 i0 _ 1 4 Try.underlying22 hi hz0 hz1 hz2 rfl (by omega) _ 0 _ rfl (World.ownsRow.alloc (unhide O1) _) ⟨w1.heap.size, 0, none⟩ 1 1 [.int .i32 32] rfl rfl (World.news_of_block (cs := #[.int .i32 32]) (t := 21) (fr := (0, 0)) (heap_new w1 _)) (by simp [Value.oneCell']) (by omega) hm0 (by omega) (by simp; omega) (w1.heap.size + 1) (by simp) ?_; intro g8 cap8 w8 hown8 hgrow8 hat8 hlt8; rw [Nat.zero_add] at hown8; have hb8 := (b1.alloc (by omega) _).trans (below_own hgrow8 (by simp; omega) (own_block (unhide O1))); have b8 := hb8; have hs8 := hb8.size; have O8 := hide hown8; clear hown8 hgrow8 hat8 hlt8)
        | (refine wpList_make_own _ rfl _ _ 22 rfl w.heap.size 21 i0 (.int .i32 0) 1 Try.underlying22 hi hz0 hz1 .i64 .i64 _ (n + 2) rfl rfl (by simp) (by rw [hz2]; omega) hml (Nat.le_refl _) ?_; intro w1 hown1 hgrow1; have b1 := unhide HB1 _ hgrow1; have hs1 := b1.size; have O1 := hide hown1; clear hown1 hgrow1))
      go_ret
      exact ⟨_, rfl, unhide HRN0 _ _ hown5, hb5⟩
    · go_enter Try.func25, Try.ntmps25
      go_wp2_with (first
        | (at_builtin; refine wpList_append_lies _ rfl _ _ 22 rfl w.heap.size 21 i0 _ 1 4 Try.underlying22 hi hz0 hz1 hz2 rfl (by omega) _ (1 + n) _ rfl (World.ownsRow.alloc (unhide O5) _) ⟨w5.heap.size, 0, none⟩ 1 1 [.int .i32 32] rfl rfl (World.news_of_block (cs := #[.int .i32 32]) (t := 21) (fr := (0, 0)) (heap_new w5 _)) (by simp [Value.oneCell']) (by omega) hm3 (by omega) (by simp; omega) (w5.heap.size + 1) (by simp) ?_; intro g9 cap9 w9 hown9 hgrow9 hat9 hlt9; have hb9 := (hb5.alloc (by omega) _).trans (below_own hgrow9 (by simp; omega) (own_block (unhide O5))))
        | (at_builtin; refine wpList_append_rn _ rfl _ _ rfl w.heap.size i0 hi hz0 hz1 hz2 _ 1 _ rfl (unhide O8) _ m C rfl ((unhide HU).below b8) (by rw [← unhide HN]; exact hm2) (by rw [← unhide HN]; omega) hs8 ?_; intro v5 w5 hown5 hgrow5; rw [← unhide HN] at hown5; have hb5 := hb8.trans (below_own hgrow5 hs8 (own_block (unhide O8))); have hs5 := hb5.size; have O5 := hide hown5; clear hown5 hgrow5)
        | (at_builtin; refine wpList_append_lies _ rfl _ _ 22 rfl w.heap.size 21 i0 _ 1 4 Try.underlying22 hi hz0 hz1 hz2 rfl (by omega) _ 0 _ rfl (World.ownsRow.alloc (unhide O1) _) ⟨w1.heap.size, 0, none⟩ 1 1 [.int .i32 32] rfl rfl (World.news_of_block (cs := #[.int .i32 32]) (t := 21) (fr := (0, 0)) (heap_new w1 _)) (by simp [Value.oneCell']) (by omega) hm0 (by omega) (by simp; omega) (w1.heap.size + 1) (by simp) ?_; intro g8 cap8 w8 hown8 hgrow8 hat8 hlt8; rw [Nat.zero_add] at hown8; have hb8 := (b1.alloc (by omega) _).trans (below_own hgrow8 (by simp; omega) (own_block (unhide O1))); have b8 := hb8; have hs8 := hb8.size; have O8 := hide hown8; clear hown8 hgrow8 hat8 hlt8)
        | (refine wpList_make_own _ rfl _ _ 22 rfl w.heap.size 21 i0 (.int .i32 0) 1 Try.underlying22 hi hz0 hz1 .i64 .i64 _ (n + 2) rfl rfl (by simp) (by rw [hz2]; omega) hml (Nat.le_refl _) ?_; intro w1 hown1 hgrow1; have b1 := unhide HB1 _ hgrow1; have hs1 := b1.size; have O1 := hide hown1; clear hown1 hgrow1))
      go_ret
      exact ⟨_, rfl, unhide HRN1 _ _ hown9, hb9⟩
theorem firm_len (l : List Int) : (firmL mk11 l).length ≤ l.length + 1 := by unfold firmL; split <;> simp
set_option maxHeartbeats 800000 in
theorem bval_rn (v : Value) (l : List Int) (w : World) (_ : Ly w) (hlen : l.length ≤ 5000) (hR : Row w v l) (hF : Fits v) : Calls Try.prog 10 #[v] w fun e w' => ∃ v', e = .returned v' ∧ Rn w.heap.size v' (valL mk11 l) w' ∧ Below w.heap.size w w' := by
  have hfl := firm_len l
  have HFI := hide (bfirm_any v l w (by omega) hF hR)
  have HWO := hide (fun v1 w1 => bwords_any v1 (firmL mk11 l) w1 (by omega))
  have hil := inn_len11 (M := mk11) (firmL mk11 l) false false
  have HFA := hide (fun C u w1 => bframed_any true true C u (inn mk11 false false (firmL mk11 l)) w1 (by omega))
  have HE : Hid (fra true true (inn mk11 false false (firmL mk11 l)) = valL mk11 l) := by show _ = _; rfl
  rw [unhide HE] at HFA
  clear HE hil hR hF
  generalize valL mk11 l = V at *
  generalize inn mk11 false false (firmL mk11 l) = I at *
  generalize firmL mk11 l = F at *
  go_enter Try.func10, Try.ntmps10
  go_wp2_with (first
    | (go_at_call 25; refine (unhide HFA _ _ _ r2).mono ?_; rintro e w3 ⟨v3, rfl, r3, b3⟩)
    | (go_at_call 26; refine (unhide HWO _ _ f1 r1).mono ?_; rintro e w2 ⟨v2, rfl, r2, b2⟩)
    | (go_at_call 27; refine (unhide HFI).mono ?_; rintro e w1 ⟨v1, rfl, r1, b1, f1⟩))
  go_ret
  exact ⟨_, rfl, r3.base (Nat.le_trans b1.size b2.size), b1.trans ((b2.trans (b3.mono b2.size)).mono b1.size)⟩
theorem bval_fit (v : Value) (l : List Int) (w : World) (hL : Ly w) (hlen : l.length ≤ 5000) (hR : Row w v l) (hF : Fits v) : Calls Try.prog 10 #[v] w fun e w' => ∃ v', e = .returned v' ∧ Row w' v' (valL mk11 l) ∧ Below w.heap.size w w' ∧ Fits v' :=
  (bval_rn v l w hL hlen hR hF).mono fun _ _ ⟨v', he, hr, hb⟩ => ⟨v', he, hr.row, hb, hr.fits⟩
theorem bval_any (v : Value) (l : List Int) (w : World) (hL : Ly w) (hlen : l.length ≤ 5000) (hR : Row w v l) (hF : Fits v) : Calls Try.prog 10 #[v] w fun e w' => ∃ v', e = .returned v' ∧ Row w' v' (valL mk11 l) ∧ Below w.heap.size w w' :=
  (bval_rn v l w hL hlen hR hF).mono fun _ _ ⟨v', he, hr, hb⟩ => ⟨v', he, hr.row, hb⟩
set_option maxHeartbeats 800000 in
theorem bph1_any (a : Option Addr) (cap : Nat) (l : List Int) (m : Nat) (W : World) (hlen : l.length ≤ 20000) (hm : m < l.length) (hR : Row W (.slice a l.length cap) l) :
    Calls Try.prog 31 (#[.slice a l.length cap, .int .i64 (m : Int)] ++ #[]) W fun e w' => e = .returned (.bool ((fun x t => sp mk11 x t || hp mk11 x t) (l.getD m 0) (l.drop (m + 1)))) ∧ Below W.heap.size W w' := by
  have HS := hide (bsp_any (.slice a l.length cap) l (m : Int) W trivial hlen hR)
  have HY := hide (fun w1 (h : Below W.heap.size W w1) => bhy_any (.slice a l.length cap) l (m : Int) w1 trivial hlen (hR.below h))
  unfold spAt at HS
  unfold hpAt at HY
  rw [if_pos (by omega)] at HS
  simp only [if_pos (show (0 : Int) ≤ (m : Int) ∧ (m : Int) < (l.length : Int) from by omega)] at HY
  show Calls Try.prog _ _ _ fun e w' => e = .returned (.bool (sp mk11 (l.getD m 0) (l.drop (m + 1)) || hp mk11 (l.getD m 0) (l.drop (m + 1)))) ∧ Below W.heap.size W w'
  rw [Int.toNat_natCast] at HS HY
  generalize sp mk11 (l.getD m 0) (l.drop (m + 1)) = p at *
  generalize hp mk11 (l.getD m 0) (l.drop (m + 1)) = q at *
  clear hR
  cases p
  · go_enter Try.func31, Try.ntmps31
    go_wp2_with (first
      | (go_at_call 20; refine (unhide HY w1 b1).mono ?_; rintro e w2 ⟨rfl, b2⟩)
      | (go_at_call 18; refine (unhide HS).mono ?_; rintro e w1 ⟨rfl, b1⟩))
    go_ret
    exact ⟨ret_bool (by simp), b1.trans (b2.mono b1.size)⟩
  · go_enter Try.func31, Try.ntmps31
    go_wp2_with (go_at_call 18; refine (unhide HS).mono ?_; rintro e w1 ⟨rfl, b1⟩)
    go_ret
    exact ⟨ret_bool (by simp), b1⟩
set_option maxHeartbeats 400000 in
theorem bnum_any (v : Value) (l : List Int) (w : World) (_ : Ly w) (hlen : l.length ≤ 20000) (hR : Row w v l) : Calls Try.prog 12 #[v] w fun e w' => ∃ v', e = .returned v' ∧ Row w' v' (numL mk11 l) ∧ Below w.heap.size w w' := by
  have hR' := hR
  obtain ⟨a, cap, rfl, -⟩ := hR
  have HW := hide (without_any 18 (sp mk11) a cap l w (enters_of Try.func18 (by kernel_rfl) rfl) hlen hR' (sp_ok a cap l w hlen hR'))
  rw [flt_num] at HW
  generalize numL mk11 l = V at *
  clear hR'
  go_enter Try.func12, Try.ntmps12
  go_wp2_with (go_at_call 30; refine (unhide HW).mono ?_; rintro e w1 ⟨v1, rfl, r1, b1⟩)
  go_ret
  exact ⟨_, rfl, r1.row, b1⟩
set_option maxHeartbeats 400000 in
theorem bph_any (v : Value) (l : List Int) (w : World) (_ : Ly w) (hlen : l.length ≤ 20000) (hR : Row w v l) : Calls Try.prog 14 #[v] w fun e w' => ∃ v', e = .returned v' ∧ Row w' v' (phL mk11 l) ∧ Below w.heap.size w w' := by
  have hR' := hR
  obtain ⟨a, cap, rfl, -⟩ := hR
  have HW := hide (without_any 31 (fun x t => sp mk11 x t || hp mk11 x t) a cap l w (enters_of Try.func31 (by kernel_rfl) rfl) hlen hR' (fun m W hm hb => bph1_any a cap l m W hlen hm (hR'.below hb)))
  rw [flt_ph] at HW
  generalize phL mk11 l = V at *
  clear hR'
  go_enter Try.func14, Try.ntmps14
  go_wp2_with (go_at_call 30; refine (unhide HW).mono ?_; rintro e w1 ⟨v1, rfl, r1, b1⟩)
  go_ret
  exact ⟨_, rfl, r1.row, b1⟩
end Go.Proofs.Ytdlbdfndnjdeeaa
