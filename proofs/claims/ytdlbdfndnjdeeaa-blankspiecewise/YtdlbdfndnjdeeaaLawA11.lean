/- The law BlanksAgain; what is no space; does a row begin with another. -/
import Derived.Test.YtdlbdfndnjdeeaaLaw11
namespace Go.Proofs.Ytdlbdfndnjdeeaa
open Go.RowKit

theorem val_len (l : List Int) : (valL mk11 l).length ≤ 3 * l.length + 5 := by
  have h1 := inn_len (M := mk11) (firmL mk11 l) false false
  have h2 : (firmL mk11 l).length ≤ l.length + 1 := by unfold firmL; split <;> simp
  simp only [valL, List.length_cons, List.length_append, List.length_nil]
  omega
theorem val_two (l : List Int) : 2 ≤ (valL mk11 l).length ∧ (valL mk11 l).getD 0 0 = 32 ∧ (valL mk11 l).getD ((valL mk11 l).length - 1) 0 = 32 := by
  unfold valL
  generalize inn mk11 false false (firmL mk11 l) = m
  refine ⟨by simp, rfl, ?_⟩
  rw [show 32 :: (m ++ [32]) = (32 :: m) ++ [32] from rfl]
  simp [List.getD]
set_option maxHeartbeats 6400000 in
theorem again11_law (k : Int) (a : Option Addr) (cap : Nat) (l : List Int) (w : World) (hL : Ly w) (hr : Row w (.slice a l.length cap) l) (hq : l.length ≤ cap) : Calls Try.prog 5 #[.int .i64 k, .slice a l.length cap] w fun e w' => e = .returned (.bool true) ∧ Below w.heap.size w w' := by
  have HA := hide awake11
  by_cases hlen : 1000 < l.length
  · have hz : (1000 : Int) < (l.length : Int) := by omega
    go_enter Try.func5, Try.ntmps5
    go_wp2_with (go_at_call 8; refine (unhide HA _ hL).mono ?_; rintro e w5 ⟨rfl, b5⟩)
    go_ret
    exact ⟨rfl, b5⟩
  · have hz : ¬ (1000 : Int) < (l.length : Int) := by omega
    have hvl := val_len l
    have hpl := pie_len k l
    have hnl := num_len (M := mk11) l
    have hhl := ph_len (M := mk11) l
    obtain ⟨hv2, hv0, hv1⟩ := val_two l
    have H1 := hide (fun W hW hR => bval_fit (.slice a l.length cap) l W hW (by omega) hR (fits_of hq))
    have H2 := hide (fun W hW hR => bnum_any (.slice a l.length cap) l W hW (by omega) hR)
    have H3 := hide (fun W hW hR => bph_any (.slice a l.length cap) l W hW (by omega) hR)
    have H4 := hide (fun W hW hR => bpie_fit k (.slice a l.length cap) l W hW (by omega) hR (fits_of hq))
    have H5 := hide (fun v W hW hR hF => bval_any v (valL mk11 l) W hW (by omega) hR hF)
    have H6 := hide (fun v W hW hR => bnum_any v (numL mk11 l) W hW (by omega) hR)
    have H7 := hide (fun v W hW hR => bph_any v (phL mk11 l) W hW (by omega) hR)
    have H8 := hide (fun v W hW hR hF => bpie_any k v (pieL mk11 k l) W hW (by omega) hR hF)
    rw [val_again mk11_32] at H5
    rw [num_again mk11_32] at H6
    rw [ph_again mk11_32 mk11_hy] at H7
    rw [pie_again mk11_32] at H8
    have S1 := hide (fun v1 v2 W => same_any v1 v2 (valL mk11 l) W (by omega))
    have S2 := hide (fun v1 v2 W => same_any v1 v2 (numL mk11 l) W (by omega))
    have S3 := hide (fun v1 v2 W => same_any v1 v2 (phL mk11 l) W (by omega))
    have S4 := hide (fun v1 v2 W => same_any v1 v2 (pieL mk11 k l) W (by omega))
    generalize valL mk11 l = V at *
    generalize numL mk11 l = Nu at *
    generalize phL mk11 l = Ph at *
    generalize pieL mk11 k l = P at *
    obtain ⟨N, hN⟩ : ∃ N, N = V.length := ⟨_, rfl⟩
    rw [← hN] at hvl hv2 hv1
    have HN := hide hN
    have HV0 := hide hv0
    have HV1 := hide hv1
    clear hN hv0 hv1
    have hz2 : ¬ (N : Int) < 2 := by omega
    have hz3 : (0 : Int) < (N : Int) := by omega
    have hz4 : (N : Int) - 1 < (N : Int) := by omega
    have hz5 : (0 : Int) ≤ (N : Int) - 1 := by omega
    go_enter Try.func5, Try.ntmps5
    go_wp2_with (first
      | (go_at_call 8; refine (unhide HA _ (hL.keep c12)).mono ?_; rintro e w13 ⟨rfl, b13⟩; have c13 := c12.trans (b13.mono c12.size))
      | (go_at_call 9; refine (unhide S3 _ _ _ r11 ((unhide R3).below (d10.trans (b11.mono d10.size)))).mono ?_; rintro e w12 ⟨rfl, b12⟩; have c12 := c11.trans (b12.mono c11.size))
      | (go_at_call 14; refine (unhide H7 _ _ (hL.keep c10) ((unhide R3).below d10)).mono ?_; rintro e w11 ⟨v11, rfl, r11, b11⟩; have c11 := c10.trans (b11.mono c10.size))
      | (go_at_call 9; refine (unhide S2 _ _ _ r9 ((unhide R2).below (((b3.trans (b4.mono b3.size)).trans (d8.mono (by have := b3.size; have := b4.size; omega))).trans (b9.mono (by have := c8.size; have := b3.size; have := b4.size; have := d8.size; omega))))).mono ?_; rintro e w10 ⟨rfl, b10⟩; have c10 := c9.trans (b10.mono c9.size); have d10 : Below w3.heap.size w3 w10 := (b4.trans (d8.mono b4.size)).trans ((b9.trans (b10.mono b9.size)).mono (by have := b4.size; have := d8.size; omega)))
      | (go_at_call 12; refine (unhide H6 _ _ (hL.keep c8) ((unhide R2).below ((b3.trans (b4.mono b3.size)).trans (d8.mono (by have := b3.size; have := b4.size; omega))))).mono ?_; rintro e w9 ⟨v9, rfl, r9, b9⟩; have c9 := c8.trans (b9.mono c8.size))
      | (go_at_call 9; refine (unhide S4 _ _ _ r7 ((unhide R4).below (d6.trans (b7.mono d6.size)))).mono ?_; rintro e w8 ⟨rfl, b8⟩; have c8 := c7.trans (b8.mono c7.size); have d8 : Below w4.heap.size w4 w8 := (d6.trans (b7.mono d6.size)).trans (b8.mono (by have := d6.size; have := b7.size; omega)))
      | (go_at_call 16; refine (unhide H8 _ _ (hL.keep c6) ((unhide R4).below d6) (unhide F4)).mono ?_; rintro e w7 ⟨v7, rfl, r7, b7⟩; have c7 := c6.trans (b7.mono c6.size))
      | (go_at_call 9; refine (unhide S1 _ _ _ r5 ((unhide R1).below b5)).mono ?_; rintro e w6 ⟨rfl, b6⟩; have c6 := c5.trans (b6.mono c5.size); have d6 : Below w4.heap.size w4 w6 := b5.trans (b6.mono b5.size))
      | (go_at_call 10; refine (unhide H5 _ _ (hL.keep c4) (unhide R1) (unhide F1)).mono ?_; rintro e w5 ⟨v5, rfl, r5, b5⟩; have c5 := c4.trans (b5.mono c4.size))
      | (go_at_call 16; refine (unhide H4 _ (hL.keep c3) (hr.below c3)).mono ?_; rintro e w4 ⟨v4, rfl, r4, b4, f4⟩; have F4 := hide f4; clear f4; have c4 := c3.trans (b4.mono c3.size); have R4 := hide r4; have d4 : Below w1.heap.size w1 w4 := ((b2.trans (b3.mono b2.size)).trans (b4.mono (by have := b2.size; have := b3.size; omega))); obtain ⟨a1, e1, hv1, hc1⟩ := (unhide R1').below d4; rw [← unhide HN] at hv1 hc1; obtain ⟨g1, o1, hga, hcc⟩ := hc1 (by omega); have k0 := hcc 0 (by omega); have k9 := hcc (N - 1) (by omega); rw [Nat.add_zero, unhide HV0] at k0; rw [unhide HV1] at k9; have R1 := hide ((unhide R1').below d4); rw [hga] at hv1; subst hv1; clear hc1 hcc hga r4 R1')
      | (go_at_call 14; refine (unhide H3 _ (hL.keep c2) (hr.below c2)).mono ?_; rintro e w3 ⟨v3, rfl, r3, b3⟩; have c3 := c2.trans (b3.mono c2.size); have R3 := hide r3; clear r3)
      | (go_at_call 12; refine (unhide H2 _ (hL.keep b1) (hr.below b1)).mono ?_; rintro e w2 ⟨v2, rfl, r2, b2⟩; have c2 := b1.trans (b2.mono b1.size); have R2 := hide r2; clear r2)
      | (go_at_call 10; refine (unhide H1 _ hL hr).mono ?_; rintro e w1 ⟨v1, rfl, r1, b1, f1⟩; have R1' := hide r1; have F1 := hide f1; clear r1 f1))
    go_ret
    exact ⟨rfl, c13⟩
theorem bsp_in (b off cap : Nat) (l : List Int) (k : Nat) (w : World) (hL : Ly w) (hlen : l.length ≤ 5000) (hk : k < l.length) (hcell : ∀ i, i < l.length → w.cell? ⟨b, off + i, none⟩ = some (.int .i32 (l.getD i 0))) :
    Calls Try.prog 18 #[.slice (some ⟨b, off, none⟩) l.length cap, .int .i64 k] w fun e w' => e = .returned (.bool (sp mk11 (l.getD k 0) (l.drop (k + 1)))) ∧ Below w.heap.size w w' := by
  have h := bsp_any (.slice (some ⟨b, off, none⟩) l.length cap) l (k : Int) w hL (by omega) ⟨_, cap, rfl, fun _ => ⟨b, off, rfl, hcell⟩⟩
  unfold spAt at h
  rw [if_pos (by omega)] at h
  exact h
set_option maxHeartbeats 1600000 in
theorem solid_any (v : Value) (l : List Int) (w : World) (hL : Ly w) (hlen : l.length ≤ 5000) (hR : Row w v l) :
    Calls Try.prog 22 #[v] w fun e w' => ∃ v', e = .returned v' ∧ Rn w.heap.size v' (numL mk11 l) w' ∧ Below w.heap.size w w' := by
  obtain ⟨i0, hi, hz0, hz1, hz2⟩ := info_parts elem_info
  obtain ⟨a, cap, rfl, hc⟩ := hR
  by_cases h0 : 0 < l.length
  · obtain ⟨b, off, rfl, hcc⟩ := hc h0
    have HC := hide hcc
    have HSP := hide (fun k w1 (hk : k < l.length) (h : Below w.heap.size w w1) => bsp_in b off cap l k w1 (hL.keep h) hlen hk (fun j hj => (h.cell (by exact cell_lt (hcc j hj))).trans (hcc j hj)))
    clear hc hcc
    have HNL := hide (num_len (M := mk11) l)
    go_enter Try.func22, Try.ntmps22
    go_wp2
    go_loopw [3, 4] (fun v3 i wr => ∃ (k : Nat) (out : List Int), k ≤ l.length ∧ i = .int .i64 (k : Int) ∧ Hid (Rn w.heap.size v3 out wr) ∧ Hid (out ++ numL mk11 (l.drop k) = numL mk11 l) ∧ Below w.heap.size w wr) (fun _ i _ => l.length - (intOf i).toNat)
    case atStart => exact ⟨0, [], Nat.zero_le _, rfl, Rn.nil _ _, by show _ = _; rfl, Below.refl _ _⟩
    case round =>
      obtain ⟨k, out, hk, rfl, RK, EK, hb⟩ := hrel
      have hsz := hb.size
      by_cases hlt : k < l.length
      · have hzl : (k : Int) < (l.length : Int) := by omega
        have hz0' : (0 : Int) ≤ (k : Int) := by omega
        have k1 : wr.cell? ⟨b, off + k, none⟩ = some (.int .i32 (l.getD k 0)) := (hb.cell (by exact cell_lt (unhide HC k hlt))).trans (unhide HC k hlt)
        have G1 := hide (unhide HC k hlt)
        have HS := hide (unhide HSP k wr hlt hb)
        have HD := hide (drop_at l k hlt)
        have hol := left_len (unhide EK) (unhide HNL)
        rw [unhide HD] at EK
        generalize l.getD k 0 = x at *
        cases hs : sp mk11 x (l.drop (k + 1))
        · rw [hs] at HS
          rw [num_no hs] at EK
          obtain ⟨a4, c4, hv4⟩ := (unhide RK).shape
          obtain ⟨N, hN⟩ : ∃ N, N = out.length := ⟨_, rfl⟩
          rw [← hN] at hv4 hol
          subst hv4
          have HN := hide hN
          clear hN
          have hm1 : N + 1 ≤ maxLen := by unfold maxLen; omega
          have hm2 : (N + 1) * 4 ≤ 140737488355328 := by omega
          go_wp2_with (first
            | (go_at_call 18; refine (unhide HS).mono ?_; rintro e w2 ⟨rfl, b2⟩; have hb12 := hb.trans (b2.mono hb.size); have hs2 := hb12.size; have k2 : w2.cell? ⟨b, off + k, none⟩ = some (.int .i32 x) := (hb12.cell (by exact cell_lt (unhide G1))).trans (unhide G1); have HO2 := hide ((unhide RK).below b2))
            | (at_builtin; refine wpList_append_lies _ rfl _ _ 22 rfl w.heap.size 21 i0 _ 1 4 Try.underlying22 hi hz0 hz1 hz2 rfl (by omega) _ N _ rfl (World.ownsRow.alloc (Rn.own (unhide HN) (unhide HO2)) _) ⟨w2.heap.size, 0, none⟩ 1 1 [.int .i32 x] rfl rfl (World.news_of_block (cs := #[.int .i32 x]) (t := 21) (fr := (0, 0)) (heap_new w2 _)) (by simp [Value.oneCell']) (by omega) hm1 hm2 (by simp; omega) (w2.heap.size + 1) (by simp) ?_; intro g9 cap9 w9 hown9 hgrow9 hat9 hlt9))
          go_roundw
          case rel => exact ⟨k + 1, out ++ [x], by omega, by go_num, Rn.push (unhide HN) hown9, by show _ = _; rw [← unhide EK]; simp, (hb12.alloc (by omega) _).trans (below_own hgrow9 (by simp; omega) (own_block (Rn.own (unhide HN) (unhide HO2))))⟩
          case measure => simp [intOf]; omega
        · rw [hs] at HS
          rw [num_sp hs] at EK
          go_wp2_with (go_at_call 18; refine (unhide HS).mono ?_; rintro e w2 ⟨rfl, b2⟩)
          go_roundw
          case rel => exact ⟨k + 1, out, by omega, by go_num, (unhide RK).below b2, EK, hb.trans (b2.mono hb.size)⟩
          case measure => simp [intOf]; omega
      · have hzl : ¬ (k : Int) < (l.length : Int) := by omega
        obtain rfl : k = l.length := by omega
        rw [List.drop_length] at EK
        have HE : Hid (out = numL mk11 l) := by show _ = _; rw [← unhide EK]; simp [numL]
        rw [unhide HE] at RK
        obtain ⟨a4, c4, hv4⟩ := (unhide RK).shape
        generalize (numL mk11 l).length = N at *
        subst hv4
        go_wp2
        go_ret
        exact ⟨_, rfl, unhide RK, hb⟩
  · obtain rfl : l = [] := List.length_eq_zero_iff.1 (by omega)
    go_enter Try.func22, Try.ntmps22
    go_wp2
    refine wp_loop_rounds 1 ?_
    rw [rounds_succ]
    go_wp2
    go_ret
    exact ⟨_, rfl, Rn.nil _ _, Below.refl _ _⟩

theorem row_take {w : World} {b off c : Nat} {l : List Int} (h : ∀ j, j < l.length → w.cell? ⟨b, off + j, none⟩ = some (.int .i32 (l.getD j 0))) (n : Nat) (hn : n ≤ l.length) : Row w (.slice (some ⟨b, off, none⟩) n c) (l.take n) := by
  refine ⟨_, c, by rw [List.length_take, Nat.min_eq_left hn], fun _ => ⟨b, off, rfl, fun j hj => ?_⟩⟩
  rw [List.length_take, Nat.min_eq_left hn] at hj
  rw [h j (by omega)]
  simp [List.getD, hj]
theorem row_drop {w : World} {b off c : Nat} {l : List Int} (h : ∀ j, j < l.length → w.cell? ⟨b, off + j, none⟩ = some (.int .i32 (l.getD j 0))) (n : Nat) (hn : n ≤ l.length) : Row w (.slice (some ⟨b, off + n, none⟩) (l.length - n) c) (l.drop n) := by
  refine ⟨_, c, by rw [List.length_drop], fun _ => ⟨b, off + n, rfl, fun j hj => ?_⟩⟩
  rw [List.length_drop] at hj
  rw [Nat.add_assoc, h (n + j) (by omega)]
  simp [List.getD]
/-- Does a list begin with another? -/
def begs (l p : List Int) : Bool := decide (p.length ≤ l.length ∧ l.take p.length = p)
set_option maxHeartbeats 1600000 in
theorem starts_any (b off cap : Nat) (l : List Int) (v2 : Value) (p : List Int) (w : World) (h0 : 0 < l.length) (hlen : l.length ≤ 20000) (hcap : l.length ≤ cap) (hcell : ∀ j, j < l.length → w.cell? ⟨b, off + j, none⟩ = some (.int .i32 (l.getD j 0))) (hp : Row w v2 p) :
    Calls Try.prog 24 #[.slice (some ⟨b, off, none⟩) l.length cap, v2] w fun e w' => e = .returned (.bool (begs l p)) ∧ Below w.heap.size w w' := by
  have hp' := hp
  obtain ⟨a2, c2, rfl, _⟩ := hp
  unfold begs
  by_cases hle : p.length ≤ l.length
  · have hz : (p.length : Int) ≤ (l.length : Int) := by omega
    have hz1 : (0 : Int) ≤ (p.length : Int) := by omega
    have hz2 : (p.length : Int) ≤ (cap : Int) := by omega
    have HS := hide (same_dec (.slice (some ⟨b, off, none⟩) p.length cap) (.slice a2 p.length c2) (l.take p.length) p w (by rw [List.length_take]; omega) (row_take hcell p.length hle) hp')
    have HZ : Hid (decide (p.length ≤ l.length ∧ l.take p.length = p) = decide (l.take p.length = p)) := by show _ = _; simp [hle]
    generalize decide (p.length ≤ l.length ∧ l.take p.length = p) = z at *
    generalize decide (l.take p.length = p) = y at *
    clear hcell hp'
    generalize p.length = n at *
    go_enter Try.func24, Try.ntmps24
    go_wp2_with (go_at_call 9; refine (unhide HS).mono ?_; rintro e w1 ⟨rfl, b1⟩)
    go_ret
    exact ⟨ret_bool (unhide HZ).symm, b1⟩
  · have hz : ¬ (p.length : Int) ≤ (l.length : Int) := by omega
    have HZ : Hid (decide (p.length ≤ l.length ∧ l.take p.length = p) = false) := by show _ = _; simp [hle]
    generalize decide (p.length ≤ l.length ∧ l.take p.length = p) = z at *
    clear hcell hp'
    generalize p.length = n at *
    go_enter Try.func24, Try.ntmps24
    go_wp2
    go_ret
    exact ⟨ret_bool (unhide HZ).symm, Below.refl _ _⟩
end Go.Proofs.Ytdlbdfndnjdeeaa
