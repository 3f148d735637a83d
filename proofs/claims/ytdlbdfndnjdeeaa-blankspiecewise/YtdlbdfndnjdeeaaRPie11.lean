/- The document's Piece. -/
import Derived.Test.YtdlbdfndnjdeeaaRFirm11
namespace Go.Proofs.Ytdlbdfndnjdeeaa
open Go.RowKit

theorem spF_at (l : List Int) (h : l ≠ []) : spAt l 0 = spF mk11 l := by
  obtain ⟨x, t, rfl⟩ := List.exists_cons_of_ne_nil h
  unfold spAt
  rw [if_pos (by simp)]
  rfl
theorem last_at (l : List Int) (h : l ≠ []) : spAt l ((l.length : Int) - 1) = lastSp l := by
  have hp : 0 < l.length := List.length_pos_iff.2 h
  unfold spAt lastSp sp
  rw [if_pos (by omega)]
  have e : ((l.length : Int) - 1).toNat = l.length - 1 := by omega
  rw [e]
  have e2 : l.drop (l.length - 1 + 1) = [] := List.drop_eq_nil_of_le (by omega)
  rw [e2, List.getLast?_eq_getElem?]
  have e3 : l[l.length - 1]? = some (l.getD (l.length - 1) 0) := by
    rw [List.getElem?_eq_getElem (by omega)]; simp [List.getD, (by omega : l.length - 1 < l.length)]
  rw [e3]
  simp [fre]
set_option maxHeartbeats 3200000 in
theorem rpieM_2 (v : Value) (l : List Int) (w : World) (hlen : l.length ≤ 9000) (hR : Row w v l) :
    Calls Try.prog 17 #[.int .i64 2, v] w fun e w' => ∃ v', e = .returned v' ∧ Rn w.heap.size v' (pieM mk11 2 l) w' ∧ Below w.heap.size w w' := by
  obtain ⟨i0, hi, hz0, hz1, hz2⟩ := info_parts elem_info
  have HIN := hide (rinner_any v l w (by omega) hR)
  have HML : Hid ((inn mk11 false false l).length ≤ 30000) := Nat.le_trans (inn_len _ _ _) (by omega)
  have HSA := hide (fun i w1 (h : Below w.heap.size w w1) => rspace_any v l i w1 (by omega) (hR.below h))
  obtain ⟨a, cap, rfl, hc⟩ := hR
  clear hc
  by_cases hm : inn mk11 false false l = []
  · rw [hm] at HIN
    by_cases hl : 0 < l.length
    · have HE : Hid (pieM mk11 2 l = [32]) := by show _ = _; unfold pieM; rw [if_pos hm, if_pos (.inl (List.length_pos_iff.1 hl))]
      have hlz : (0 : Int) < (l.length : Int) := by omega
      generalize pieM mk11 2 l = P at *
      clear hm HML
      go_enter Try.func17, Try.ntmps17
      go_wp2_with (go_at_call 28; refine (unhide HIN).mono ?_; rintro e w2 ⟨v2, rfl, r2, b2⟩; obtain ⟨a2, c2, hv2⟩ := r2.shape; subst hv2)
      go_ret
      rw [unhide HE]
      exact ⟨_, rfl, (Rn.new1 w2 32).base b2.size, b2.trans ((Below.one w2 _).mono b2.size)⟩
    · obtain rfl : l = [] := List.length_eq_zero_iff.1 (by omega)
      have HE : Hid (pieM mk11 2 [] = []) := by show _ = _; rfl
      generalize pieM mk11 2 [] = P at *
      clear hm HML
      go_enter Try.func17, Try.ntmps17
      go_wp2_with (go_at_call 28; refine (unhide HIN).mono ?_; rintro e w2 ⟨v2, rfl, r2, b2⟩; obtain ⟨a2, c2, hv2⟩ := r2.shape; subst hv2)
      go_ret
      rw [unhide HE]
      exact ⟨_, rfl, Rn.nil _ _, b2⟩
  · have HM := hide hm
    have hl : l ≠ [] := fun e => hm (by rw [e]; rfl)
    have hlp : 0 < l.length := List.length_pos_iff.2 hl
    have HS0 := hide (unhide HSA 0)
    rw [spF_at l hl] at HS0
    have HSL := hide (unhide HSA ((l.length : Int) - 1))
    rw [last_at l hl] at HSL
    clear HSA hm hl
    cases hsf : spF mk11 l
    · cases hsl : lastSp l
      · have HE : Hid (pieM mk11 2 l = [] ++ (inn mk11 false false l ++ [])) := by
          show _ = _
          unfold pieM
          rw [if_neg (unhide HM), if_neg (fun h => h.elim (by decide) (fun h => by rw [hsf] at h; cases h)), if_neg (fun h => h.elim (by decide) (fun h => by rw [hsl] at h; cases h))]
        rw [hsf] at HS0
        rw [hsl] at HSL
        generalize pieM mk11 2 l = P at *
        generalize inn mk11 false false l = m at *
        obtain ⟨n, hn⟩ : ∃ n, n = m.length := ⟨_, rfl⟩
        have hn0 : 0 < n := by rw [hn]; exact List.length_pos_iff.2 (unhide HM)
        have hnz : ((n : Int) == 0) = false := by simp; omega
        rw [← hn] at HML
        have HN := hide hn
        have hml := unhide HML
        clear hn HM HML hsl hsf
        go_enter Try.func17, Try.ntmps17
        go_wp2_with (first
          | (go_at_call 19; refine (unhide HSL w5 hb5).mono ?_; rintro e w6 ⟨rfl, b6⟩; have hb6 := hb5.trans (b6.mono hb5.size); have hs6 := hb6.size; have O6 := hide (own_below (unhide O5) b6))
          | (at_builtin; refine wpList_append_rn _ rfl _ _ rfl w.heap.size i0 hi hz0 hz1 hz2 _ 0 _ rfl (World.ownsRow_nil _ _ _ _) _ m w.heap.size rfl (unhide R3) (by rw [← unhide HN]; unfold maxLen; omega) (by rw [← unhide HN]; omega) (by omega) ?_; intro v5 w5 hown5 hgrow5; rw [← unhide HN] at hown5; have hb5 := hb3.trans (below_own hgrow5 (by omega) (fun g h => by cases h)); have hs5 := hb5.size; have O5 := hide hown5; clear hown5 hgrow5)
          | (go_at_call 19; refine (unhide HS0 w2 hb2).mono ?_; rintro e w3 ⟨rfl, b3⟩; have hb3 := hb2.trans (b3.mono hb2.size); have hs3 := hb3.size; have R3 := hide ((unhide R2).below b3))
          | (go_at_call 28; refine (unhide HIN).mono ?_; rintro e w2 ⟨v2, rfl, r2, b2⟩; obtain ⟨a2, c2, hv2⟩ := r2.shape; rw [← unhide HN] at hv2; subst hv2; have R2 := hide r2; clear r2; have hb2 := b2; have hs2 := hb2.size))
        go_ret
        refine ⟨_, rfl, ?_, hb6⟩
        rw [unhide HE]
        have h9 := (unhide O6)
        show Rn _ _ _ _
        unfold Rn
        rw [List.length_append, List.length_append, ← unhide HN]
        simpa [Nat.add_assoc, Nat.add_comm, Nat.add_left_comm] using h9
      · have HE : Hid (pieM mk11 2 l = [] ++ (inn mk11 false false l ++ [32])) := by
          show _ = _
          unfold pieM
          rw [if_neg (unhide HM), if_neg (fun h => h.elim (by decide) (fun h => by rw [hsf] at h; cases h)), if_pos (.inr hsl)]
        rw [hsf] at HS0
        rw [hsl] at HSL
        generalize pieM mk11 2 l = P at *
        generalize inn mk11 false false l = m at *
        obtain ⟨n, hn⟩ : ∃ n, n = m.length := ⟨_, rfl⟩
        have hn0 : 0 < n := by rw [hn]; exact List.length_pos_iff.2 (unhide HM)
        have hnz : ((n : Int) == 0) = false := by simp; omega
        rw [← hn] at HML
        have HN := hide hn
        have hml := unhide HML
        clear hn HM HML hsl hsf
        go_enter Try.func17, Try.ntmps17
        go_wp2_with (first
          | (at_builtin; refine wpList_append_lies _ rfl _ _ 22 rfl w.heap.size 21 i0 _ 1 4 Try.underlying22 hi hz0 hz1 hz2 rfl (by omega) _ (0 + n) _ rfl (World.ownsRow.alloc (unhide O6) _) ⟨w6.heap.size, 0, none⟩ 1 1 [.int .i32 32] rfl rfl (World.news_of_block (cs := #[.int .i32 32]) (t := 21) (fr := (0, 0)) (heap_new w6 _)) (by simp [Value.oneCell']) (by omega) (by unfold maxLen; omega) (by omega) (by simp; omega) (w6.heap.size + 1) (by simp) ?_; intro g9 cap9 w9 hown9 hgrow9 hat9 hlt9; have hb9 := (hb6.alloc (by omega) _).trans (below_own hgrow9 (by simp; omega) (own_block (unhide O6))))
          | (go_at_call 19; refine (unhide HSL w5 hb5).mono ?_; rintro e w6 ⟨rfl, b6⟩; have hb6 := hb5.trans (b6.mono hb5.size); have hs6 := hb6.size; have O6 := hide (own_below (unhide O5) b6))
          | (at_builtin; refine wpList_append_rn _ rfl _ _ rfl w.heap.size i0 hi hz0 hz1 hz2 _ 0 _ rfl (World.ownsRow_nil _ _ _ _) _ m w.heap.size rfl (unhide R3) (by rw [← unhide HN]; unfold maxLen; omega) (by rw [← unhide HN]; omega) (by omega) ?_; intro v5 w5 hown5 hgrow5; rw [← unhide HN] at hown5; have hb5 := hb3.trans (below_own hgrow5 (by omega) (fun g h => by cases h)); have hs5 := hb5.size; have O5 := hide hown5; clear hown5 hgrow5)
          | (go_at_call 19; refine (unhide HS0 w2 hb2).mono ?_; rintro e w3 ⟨rfl, b3⟩; have hb3 := hb2.trans (b3.mono hb2.size); have hs3 := hb3.size; have R3 := hide ((unhide R2).below b3))
          | (go_at_call 28; refine (unhide HIN).mono ?_; rintro e w2 ⟨v2, rfl, r2, b2⟩; obtain ⟨a2, c2, hv2⟩ := r2.shape; rw [← unhide HN] at hv2; subst hv2; have R2 := hide r2; clear r2; have hb2 := b2; have hs2 := hb2.size))
        go_ret
        refine ⟨_, rfl, ?_, hb9⟩
        rw [unhide HE]
        have h9 := hown9
        show Rn _ _ _ _
        unfold Rn
        rw [List.length_append, List.length_append, ← unhide HN]
        simpa [Nat.add_assoc, Nat.add_comm, Nat.add_left_comm] using h9
    · cases hsl : lastSp l
      · have HE : Hid (pieM mk11 2 l = [32] ++ (inn mk11 false false l ++ [])) := by
          show _ = _
          unfold pieM
          rw [if_neg (unhide HM), if_pos (.inr hsf), if_neg (fun h => h.elim (by decide) (fun h => by rw [hsl] at h; cases h))]
        rw [hsf] at HS0
        rw [hsl] at HSL
        generalize pieM mk11 2 l = P at *
        generalize inn mk11 false false l = m at *
        obtain ⟨n, hn⟩ : ∃ n, n = m.length := ⟨_, rfl⟩
        have hn0 : 0 < n := by rw [hn]; exact List.length_pos_iff.2 (unhide HM)
        have hnz : ((n : Int) == 0) = false := by simp; omega
        rw [← hn] at HML
        have HN := hide hn
        have hml := unhide HML
        clear hn HM HML hsl hsf
        go_enter Try.func17, Try.ntmps17
        go_wp2_with (first
          | (go_at_call 19; refine (unhide HSL w5 hb5).mono ?_; rintro e w6 ⟨rfl, b6⟩; have hb6 := hb5.trans (b6.mono hb5.size); have hs6 := hb6.size; have O6 := hide (own_below (unhide O5) b6))
          | (at_builtin; refine wpList_append_rn _ rfl _ _ rfl w.heap.size i0 hi hz0 hz1 hz2 _ (0 + 1) _ rfl (unhide O4) _ m w.heap.size rfl (unhide R4) (by rw [← unhide HN]; unfold maxLen; omega) (by rw [← unhide HN]; omega) (by omega) ?_; intro v5 w5 hown5 hgrow5; rw [← unhide HN] at hown5; have hb5 := hb4.trans (below_own hgrow5 (by omega) (own_block (unhide O4))); have hs5 := hb5.size; have O5 := hide hown5; clear hown5 hgrow5)
          | (at_builtin; refine wpList_append_lies _ rfl _ _ 22 rfl w.heap.size 21 i0 _ 1 4 Try.underlying22 hi hz0 hz1 hz2 rfl (by omega) _ 0 [] rfl (World.ownsRow_nil _ _ _ _) ⟨w3.heap.size, 0, none⟩ 1 1 [.int .i32 32] rfl rfl (World.news_of_block (cs := #[.int .i32 32]) (t := 21) (fr := (0, 0)) (heap_new w3 _)) (by simp [Value.oneCell']) (by omega) (by unfold maxLen; omega) (by omega) (by simp; omega) (w3.heap.size + 1) (by simp) ?_; intro g4 cap4 w4 hown4 hgrow4 hat4 hlt4; have hb4 := (hb3.alloc (by omega) _).trans (below_own hgrow4 (by simp; omega) (fun g h => by cases h)); have hs4 := hb4.size; have O4 := hide hown4; have R4 := hide (((unhide R3).below (Below.one _ _)).below (below_own hgrow4 (Nat.le_refl _) (fun g h => by cases h))); clear hown4 hgrow4 hat4 hlt4)
          | (go_at_call 19; refine (unhide HS0 w2 hb2).mono ?_; rintro e w3 ⟨rfl, b3⟩; have hb3 := hb2.trans (b3.mono hb2.size); have hs3 := hb3.size; have R3 := hide ((unhide R2).below b3))
          | (go_at_call 28; refine (unhide HIN).mono ?_; rintro e w2 ⟨v2, rfl, r2, b2⟩; obtain ⟨a2, c2, hv2⟩ := r2.shape; rw [← unhide HN] at hv2; subst hv2; have R2 := hide r2; clear r2; have hb2 := b2; have hs2 := hb2.size))
        go_ret
        refine ⟨_, rfl, ?_, hb6⟩
        rw [unhide HE]
        have h9 := (unhide O6)
        show Rn _ _ _ _
        unfold Rn
        rw [List.length_append, List.length_append, ← unhide HN]
        simpa [Nat.add_assoc, Nat.add_comm, Nat.add_left_comm] using h9
      · have HE : Hid (pieM mk11 2 l = [32] ++ (inn mk11 false false l ++ [32])) := by
          show _ = _
          unfold pieM
          rw [if_neg (unhide HM), if_pos (.inr hsf), if_pos (.inr hsl)]
        rw [hsf] at HS0
        rw [hsl] at HSL
        generalize pieM mk11 2 l = P at *
        generalize inn mk11 false false l = m at *
        obtain ⟨n, hn⟩ : ∃ n, n = m.length := ⟨_, rfl⟩
        have hn0 : 0 < n := by rw [hn]; exact List.length_pos_iff.2 (unhide HM)
        have hnz : ((n : Int) == 0) = false := by simp; omega
        rw [← hn] at HML
        have HN := hide hn
        have hml := unhide HML
        clear hn HM HML hsl hsf
        go_enter Try.func17, Try.ntmps17
        go_wp2_with (first
          | (at_builtin; refine wpList_append_lies _ rfl _ _ 22 rfl w.heap.size 21 i0 _ 1 4 Try.underlying22 hi hz0 hz1 hz2 rfl (by omega) _ ((0 + 1) + n) _ rfl (World.ownsRow.alloc (unhide O6) _) ⟨w6.heap.size, 0, none⟩ 1 1 [.int .i32 32] rfl rfl (World.news_of_block (cs := #[.int .i32 32]) (t := 21) (fr := (0, 0)) (heap_new w6 _)) (by simp [Value.oneCell']) (by omega) (by unfold maxLen; omega) (by omega) (by simp; omega) (w6.heap.size + 1) (by simp) ?_; intro g9 cap9 w9 hown9 hgrow9 hat9 hlt9; have hb9 := (hb6.alloc (by omega) _).trans (below_own hgrow9 (by simp; omega) (own_block (unhide O6))))
          | (go_at_call 19; refine (unhide HSL w5 hb5).mono ?_; rintro e w6 ⟨rfl, b6⟩; have hb6 := hb5.trans (b6.mono hb5.size); have hs6 := hb6.size; have O6 := hide (own_below (unhide O5) b6))
          | (at_builtin; refine wpList_append_rn _ rfl _ _ rfl w.heap.size i0 hi hz0 hz1 hz2 _ (0 + 1) _ rfl (unhide O4) _ m w.heap.size rfl (unhide R4) (by rw [← unhide HN]; unfold maxLen; omega) (by rw [← unhide HN]; omega) (by omega) ?_; intro v5 w5 hown5 hgrow5; rw [← unhide HN] at hown5; have hb5 := hb4.trans (below_own hgrow5 (by omega) (own_block (unhide O4))); have hs5 := hb5.size; have O5 := hide hown5; clear hown5 hgrow5)
          | (at_builtin; refine wpList_append_lies _ rfl _ _ 22 rfl w.heap.size 21 i0 _ 1 4 Try.underlying22 hi hz0 hz1 hz2 rfl (by omega) _ 0 [] rfl (World.ownsRow_nil _ _ _ _) ⟨w3.heap.size, 0, none⟩ 1 1 [.int .i32 32] rfl rfl (World.news_of_block (cs := #[.int .i32 32]) (t := 21) (fr := (0, 0)) (heap_new w3 _)) (by simp [Value.oneCell']) (by omega) (by unfold maxLen; omega) (by omega) (by simp; omega) (w3.heap.size + 1) (by simp) ?_; intro g4 cap4 w4 hown4 hgrow4 hat4 hlt4; have hb4 := (hb3.alloc (by omega) _).trans (below_own hgrow4 (by simp; omega) (fun g h => by cases h)); have hs4 := hb4.size; have O4 := hide hown4; have R4 := hide (((unhide R3).below (Below.one _ _)).below (below_own hgrow4 (Nat.le_refl _) (fun g h => by cases h))); clear hown4 hgrow4 hat4 hlt4)
          | (go_at_call 19; refine (unhide HS0 w2 hb2).mono ?_; rintro e w3 ⟨rfl, b3⟩; have hb3 := hb2.trans (b3.mono hb2.size); have hs3 := hb3.size; have R3 := hide ((unhide R2).below b3))
          | (go_at_call 28; refine (unhide HIN).mono ?_; rintro e w2 ⟨v2, rfl, r2, b2⟩; obtain ⟨a2, c2, hv2⟩ := r2.shape; rw [← unhide HN] at hv2; subst hv2; have R2 := hide r2; clear r2; have hb2 := b2; have hs2 := hb2.size))
        go_ret
        refine ⟨_, rfl, ?_, hb9⟩
        rw [unhide HE]
        have h9 := hown9
        show Rn _ _ _ _
        unfold Rn
        rw [List.length_append, List.length_append, ← unhide HN]
        simpa [Nat.add_assoc, Nat.add_comm, Nat.add_left_comm] using h9
set_option maxHeartbeats 3200000 in
theorem rpieM_3 (v : Value) (l : List Int) (w : World) (hlen : l.length ≤ 9000) (hR : Row w v l) :
    Calls Try.prog 17 #[.int .i64 3, v] w fun e w' => ∃ v', e = .returned v' ∧ Rn w.heap.size v' (pieM mk11 3 l) w' ∧ Below w.heap.size w w' := by
  obtain ⟨i0, hi, hz0, hz1, hz2⟩ := info_parts elem_info
  have HIN := hide (rinner_any v l w (by omega) hR)
  have HML : Hid ((inn mk11 false false l).length ≤ 30000) := Nat.le_trans (inn_len _ _ _) (by omega)
  have HSA := hide (fun i w1 (h : Below w.heap.size w w1) => rspace_any v l i w1 (by omega) (hR.below h))
  obtain ⟨a, cap, rfl, hc⟩ := hR
  clear hc
  by_cases hm : inn mk11 false false l = []
  · rw [hm] at HIN
    by_cases hl : 0 < l.length
    · have HE : Hid (pieM mk11 3 l = [32]) := by show _ = _; unfold pieM; rw [if_pos hm, if_pos (.inl (List.length_pos_iff.1 hl))]
      have hlz : (0 : Int) < (l.length : Int) := by omega
      generalize pieM mk11 3 l = P at *
      clear hm HML
      go_enter Try.func17, Try.ntmps17
      go_wp2_with (go_at_call 28; refine (unhide HIN).mono ?_; rintro e w2 ⟨v2, rfl, r2, b2⟩; obtain ⟨a2, c2, hv2⟩ := r2.shape; subst hv2)
      go_ret
      rw [unhide HE]
      exact ⟨_, rfl, (Rn.new1 w2 32).base b2.size, b2.trans ((Below.one w2 _).mono b2.size)⟩
    · obtain rfl : l = [] := List.length_eq_zero_iff.1 (by omega)
      have HE : Hid (pieM mk11 3 [] = [32]) := by show _ = _; rfl
      generalize pieM mk11 3 [] = P at *
      clear hm HML
      go_enter Try.func17, Try.ntmps17
      go_wp2_with (go_at_call 28; refine (unhide HIN).mono ?_; rintro e w2 ⟨v2, rfl, r2, b2⟩; obtain ⟨a2, c2, hv2⟩ := r2.shape; subst hv2)
      go_ret
      rw [unhide HE]
      exact ⟨_, rfl, (Rn.new1 w2 32).base b2.size, b2.trans ((Below.one w2 _).mono b2.size)⟩
  · have HM := hide hm
    have hl : l ≠ [] := fun e => hm (by rw [e]; rfl)
    have hlp : 0 < l.length := List.length_pos_iff.2 hl
    have HS0 := hide (unhide HSA 0)
    rw [spF_at l hl] at HS0
    have HSL := hide (unhide HSA ((l.length : Int) - 1))
    rw [last_at l hl] at HSL
    clear HSA hm hl
    cases hsf : spF mk11 l
    · have HE : Hid (pieM mk11 3 l = [] ++ (inn mk11 false false l ++ [32])) := by
        show _ = _
        unfold pieM
        rw [if_neg (unhide HM), if_neg (fun h => h.elim (by decide) (fun h => by rw [hsf] at h; cases h)), if_pos (.inl rfl)]
      rw [hsf] at HS0
      generalize pieM mk11 3 l = P at *
      generalize inn mk11 false false l = m at *
      obtain ⟨n, hn⟩ : ∃ n, n = m.length := ⟨_, rfl⟩
      have hn0 : 0 < n := by rw [hn]; exact List.length_pos_iff.2 (unhide HM)
      have hnz : ((n : Int) == 0) = false := by simp; omega
      rw [← hn] at HML
      have HN := hide hn
      have hml := unhide HML
      clear hn HM HML hsf
      go_enter Try.func17, Try.ntmps17
      go_wp2_with (first
        | (at_builtin; refine wpList_append_lies _ rfl _ _ 22 rfl w.heap.size 21 i0 _ 1 4 Try.underlying22 hi hz0 hz1 hz2 rfl (by omega) _ (0 + n) _ rfl (World.ownsRow.alloc (unhide O5) _) ⟨w5.heap.size, 0, none⟩ 1 1 [.int .i32 32] rfl rfl (World.news_of_block (cs := #[.int .i32 32]) (t := 21) (fr := (0, 0)) (heap_new w5 _)) (by simp [Value.oneCell']) (by omega) (by unfold maxLen; omega) (by omega) (by simp; omega) (w5.heap.size + 1) (by simp) ?_; intro g9 cap9 w9 hown9 hgrow9 hat9 hlt9; have hb9 := (hb5.alloc (by omega) _).trans (below_own hgrow9 (by simp; omega) (own_block (unhide O5))))
        | (at_builtin; refine wpList_append_rn _ rfl _ _ rfl w.heap.size i0 hi hz0 hz1 hz2 _ 0 _ rfl (World.ownsRow_nil _ _ _ _) _ m w.heap.size rfl (unhide R3) (by rw [← unhide HN]; unfold maxLen; omega) (by rw [← unhide HN]; omega) (by omega) ?_; intro v5 w5 hown5 hgrow5; rw [← unhide HN] at hown5; have hb5 := hb3.trans (below_own hgrow5 (by omega) (fun g h => by cases h)); have hs5 := hb5.size; have O5 := hide hown5; clear hown5 hgrow5)
        | (go_at_call 19; refine (unhide HS0 w2 hb2).mono ?_; rintro e w3 ⟨rfl, b3⟩; have hb3 := hb2.trans (b3.mono hb2.size); have hs3 := hb3.size; have R3 := hide ((unhide R2).below b3))
        | (go_at_call 28; refine (unhide HIN).mono ?_; rintro e w2 ⟨v2, rfl, r2, b2⟩; obtain ⟨a2, c2, hv2⟩ := r2.shape; rw [← unhide HN] at hv2; subst hv2; have R2 := hide r2; clear r2; have hb2 := b2; have hs2 := hb2.size))
      go_ret
      refine ⟨_, rfl, ?_, hb9⟩
      rw [unhide HE]
      have h9 := hown9
      show Rn _ _ _ _
      unfold Rn
      rw [List.length_append, List.length_append, ← unhide HN]
      simpa [Nat.add_assoc, Nat.add_comm, Nat.add_left_comm] using h9
    · have HE : Hid (pieM mk11 3 l = [32] ++ (inn mk11 false false l ++ [32])) := by
        show _ = _
        unfold pieM
        rw [if_neg (unhide HM), if_pos (.inr hsf), if_pos (.inl rfl)]
      rw [hsf] at HS0
      generalize pieM mk11 3 l = P at *
      generalize inn mk11 false false l = m at *
      obtain ⟨n, hn⟩ : ∃ n, n = m.length := ⟨_, rfl⟩
      have hn0 : 0 < n := by rw [hn]; exact List.length_pos_iff.2 (unhide HM)
      have hnz : ((n : Int) == 0) = false := by simp; omega
      rw [← hn] at HML
      have HN := hide hn
      have hml := unhide HML
      clear hn HM HML hsf
      go_enter Try.func17, Try.ntmps17
      go_wp2_with (first
        | (at_builtin; refine wpList_append_lies _ rfl _ _ 22 rfl w.heap.size 21 i0 _ 1 4 Try.underlying22 hi hz0 hz1 hz2 rfl (by omega) _ ((0 + 1) + n) _ rfl (World.ownsRow.alloc (unhide O5) _) ⟨w5.heap.size, 0, none⟩ 1 1 [.int .i32 32] rfl rfl (World.news_of_block (cs := #[.int .i32 32]) (t := 21) (fr := (0, 0)) (heap_new w5 _)) (by simp [Value.oneCell']) (by omega) (by unfold maxLen; omega) (by omega) (by simp; omega) (w5.heap.size + 1) (by simp) ?_; intro g9 cap9 w9 hown9 hgrow9 hat9 hlt9; have hb9 := (hb5.alloc (by omega) _).trans (below_own hgrow9 (by simp; omega) (own_block (unhide O5))))
        | (at_builtin; refine wpList_append_rn _ rfl _ _ rfl w.heap.size i0 hi hz0 hz1 hz2 _ (0 + 1) _ rfl (unhide O4) _ m w.heap.size rfl (unhide R4) (by rw [← unhide HN]; unfold maxLen; omega) (by rw [← unhide HN]; omega) (by omega) ?_; intro v5 w5 hown5 hgrow5; rw [← unhide HN] at hown5; have hb5 := hb4.trans (below_own hgrow5 (by omega) (own_block (unhide O4))); have hs5 := hb5.size; have O5 := hide hown5; clear hown5 hgrow5)
        | (at_builtin; refine wpList_append_lies _ rfl _ _ 22 rfl w.heap.size 21 i0 _ 1 4 Try.underlying22 hi hz0 hz1 hz2 rfl (by omega) _ 0 [] rfl (World.ownsRow_nil _ _ _ _) ⟨w3.heap.size, 0, none⟩ 1 1 [.int .i32 32] rfl rfl (World.news_of_block (cs := #[.int .i32 32]) (t := 21) (fr := (0, 0)) (heap_new w3 _)) (by simp [Value.oneCell']) (by omega) (by unfold maxLen; omega) (by omega) (by simp; omega) (w3.heap.size + 1) (by simp) ?_; intro g4 cap4 w4 hown4 hgrow4 hat4 hlt4; have hb4 := (hb3.alloc (by omega) _).trans (below_own hgrow4 (by simp; omega) (fun g h => by cases h)); have hs4 := hb4.size; have O4 := hide hown4; have R4 := hide (((unhide R3).below (Below.one _ _)).below (below_own hgrow4 (Nat.le_refl _) (fun g h => by cases h))); clear hown4 hgrow4 hat4 hlt4)
        | (go_at_call 19; refine (unhide HS0 w2 hb2).mono ?_; rintro e w3 ⟨rfl, b3⟩; have hb3 := hb2.trans (b3.mono hb2.size); have hs3 := hb3.size; have R3 := hide ((unhide R2).below b3))
        | (go_at_call 28; refine (unhide HIN).mono ?_; rintro e w2 ⟨v2, rfl, r2, b2⟩; obtain ⟨a2, c2, hv2⟩ := r2.shape; rw [← unhide HN] at hv2; subst hv2; have R2 := hide r2; clear r2; have hb2 := b2; have hs2 := hb2.size))
      go_ret
      refine ⟨_, rfl, ?_, hb9⟩
      rw [unhide HE]
      have h9 := hown9
      show Rn _ _ _ _
      unfold Rn
      rw [List.length_append, List.length_append, ← unhide HN]
      simpa [Nat.add_assoc, Nat.add_comm, Nat.add_left_comm] using h9
set_option maxHeartbeats 3200000 in
theorem rpieM_1 (v : Value) (l : List Int) (w : World) (hlen : l.length ≤ 8000) (hR : Row w v l) :
    Calls Try.prog 17 #[.int .i64 1, v] w fun e w' => ∃ v', e = .returned v' ∧ Rn w.heap.size v' (pieM mk11 1 (firmL mk11 l)) w' ∧ Below w.heap.size w w' := by
  obtain ⟨i0, hi, hz0, hz1, hz2⟩ := info_parts elem_info
  have HFI := hide (rfirm_any v l w (by omega) hR)
  have hfl : (firmL mk11 l).length ≤ 9000 := by
    have : (firmL mk11 l).length ≤ l.length + 1 := by unfold firmL; split <;> simp
    omega
  obtain ⟨a, cap, rfl, hc⟩ := hR
  clear hc
  generalize firmL mk11 l = fl at *
  have HIN := hide (fun v1 w1 (h : Row w1 v1 fl) => rinner_any v1 fl w1 (by omega) h)
  have HML : Hid ((inn mk11 false false fl).length ≤ 30000) := Nat.le_trans (inn_len _ _ _) (by omega)
  by_cases hm : inn mk11 false false fl = []
  · rw [hm] at HIN
    by_cases hl : 0 < fl.length
    · have HE : Hid (pieM mk11 1 fl = [32]) := by show _ = _; unfold pieM; rw [if_pos hm, if_pos (.inl (List.length_pos_iff.1 hl))]
      have hlz : (0 : Int) < (fl.length : Int) := by omega
      generalize pieM mk11 1 fl = P at *
      clear hm HML
      go_enter Try.func17, Try.ntmps17
      go_wp2_with (first
        | (go_at_call 29; refine (unhide HFI).mono ?_; rintro e w1 ⟨v1, rfl, r1, b1⟩; obtain ⟨a1, c1, hv1, hcc1⟩ := r1; have hs1 := b1.size; subst hv1; have HIN2 := hide (unhide HIN _ w1 ⟨a1, c1, rfl, hcc1⟩); clear hcc1)
        | (go_at_call 28; refine (unhide HIN2).mono ?_; rintro e w2 ⟨v2, rfl, r2, b2⟩; obtain ⟨a2, c2, hv2⟩ := r2.shape; subst hv2; have hb2 := b1.trans (b2.mono hs1)))
      go_ret
      rw [unhide HE]
      exact ⟨_, rfl, (Rn.new1 w2 32).base hb2.size, hb2.trans ((Below.one w2 _).mono hb2.size)⟩
    · obtain rfl : fl = [] := List.length_eq_zero_iff.1 (by omega)
      have HE : Hid (pieM mk11 1 [] = [32]) := by show _ = _; rfl
      generalize pieM mk11 1 [] = P at *
      clear hm HML
      go_enter Try.func17, Try.ntmps17
      go_wp2_with (first
        | (go_at_call 29; refine (unhide HFI).mono ?_; rintro e w1 ⟨v1, rfl, r1, b1⟩; obtain ⟨a1, c1, hv1, hcc1⟩ := r1; have hs1 := b1.size; subst hv1; have HIN2 := hide (unhide HIN _ w1 ⟨a1, c1, rfl, hcc1⟩); clear hcc1)
        | (go_at_call 28; refine (unhide HIN2).mono ?_; rintro e w2 ⟨v2, rfl, r2, b2⟩; obtain ⟨a2, c2, hv2⟩ := r2.shape; subst hv2; have hb2 := b1.trans (b2.mono hs1)))
      go_ret
      rw [unhide HE]
      exact ⟨_, rfl, (Rn.new1 w2 32).base hb2.size, hb2.trans ((Below.one w2 _).mono hb2.size)⟩
  · have HM := hide hm
    have hl : fl ≠ [] := fun e => hm (by rw [e]; rfl)
    have hlp : 0 < fl.length := List.length_pos_iff.2 hl
    have HSL := hide (fun v1 w5 (h : Row w5 v1 fl) => rspace_any v1 fl ((fl.length : Int) - 1) w5 (by omega) h)
    rw [last_at fl hl] at HSL
    clear hm hl
    cases hsl : lastSp fl
    · have HE : Hid (pieM mk11 1 fl = [32] ++ (inn mk11 false false fl ++ [])) := by
        show _ = _
        unfold pieM
        rw [if_neg (unhide HM), if_pos (.inl rfl), if_neg (fun h => h.elim (by decide) (fun h => by rw [hsl] at h; cases h))]
      rw [hsl] at HSL
      generalize pieM mk11 1 fl = P at *
      generalize inn mk11 false false fl = m at *
      obtain ⟨n, hn⟩ : ∃ n, n = m.length := ⟨_, rfl⟩
      have hn0 : 0 < n := by rw [hn]; exact List.length_pos_iff.2 (unhide HM)
      have hnz : ((n : Int) == 0) = false := by simp; omega
      rw [← hn] at HML
      have HN := hide hn
      have hml := unhide HML
      clear hn HM HML hsl
      go_enter Try.func17, Try.ntmps17
      go_wp2_with (first
        | (go_at_call 19; refine (unhide HSL2 w5 hb5).mono ?_; rintro e w6 ⟨rfl, b6⟩; have hb6 := hb5.trans (b6.mono hb5.size); have hs6 := hb6.size; have O6 := hide (own_below (unhide O5) b6))
        | (at_builtin; refine wpList_append_rn _ rfl _ _ rfl w1.heap.size i0 hi hz0 hz1 hz2 _ (0 + 1) _ rfl (unhide O4) _ m w1.heap.size rfl (unhide R4) (by rw [← unhide HN]; unfold maxLen; omega) (by rw [← unhide HN]; omega) (by omega) ?_; intro v5 w5 hown5 hgrow5; rw [← unhide HN] at hown5; have hb5 := hb4.trans (below_own hgrow5 (by omega) (own_block (unhide O4))); have hs5 := hb5.size; have O5 := hide hown5; clear hown5 hgrow5)
        | (at_builtin; refine wpList_append_lies _ rfl _ _ 22 rfl w1.heap.size 21 i0 _ 1 4 Try.underlying22 hi hz0 hz1 hz2 rfl (by omega) _ 0 [] rfl (World.ownsRow_nil _ _ _ _) ⟨w2.heap.size, 0, none⟩ 1 1 [.int .i32 32] rfl rfl (World.news_of_block (cs := #[.int .i32 32]) (t := 21) (fr := (0, 0)) (heap_new w2 _)) (by simp [Value.oneCell']) (by omega) (by unfold maxLen; omega) (by omega) (by simp; omega) (w2.heap.size + 1) (by simp) ?_; intro g4 cap4 w4 hown4 hgrow4 hat4 hlt4; have hb4 := (hb2.alloc (by omega) _).trans (below_own hgrow4 (by simp; omega) (fun g h => by cases h)); have hs4 := hb4.size; have O4 := hide hown4; have R4 := hide (((unhide R2).below (Below.one _ _)).below (below_own hgrow4 (Nat.le_refl _) (fun g h => by cases h))); clear hown4 hgrow4 hat4 hlt4)
        | (go_at_call 28; refine (unhide HIN2).mono ?_; rintro e w2 ⟨v2, rfl, r2, b2⟩; obtain ⟨a2, c2, hv2⟩ := r2.shape; rw [← unhide HN] at hv2; subst hv2; have R2 := hide r2; clear r2; have hb2 := b2; have hs2 := hb2.size)
        | (go_at_call 29; refine (unhide HFI).mono ?_; rintro e w1 ⟨v1, rfl, r1, b1⟩; obtain ⟨a1, c1, hv1, hcc1⟩ := r1; have hs1 := b1.size; subst hv1; have HIN2 := hide (unhide HIN _ w1 ⟨a1, c1, rfl, hcc1⟩); have HSL2 := hide (fun w5 (h : Below w1.heap.size w1 w5) => unhide HSL (.slice a1 fl.length c1) w5 (Row.below ⟨a1, c1, rfl, hcc1⟩ h)); clear hcc1))
      go_ret
      refine ⟨_, rfl, Rn.base ?_ hs1, b1.trans (hb6.mono hs1)⟩
      rw [unhide HE]
      have h9 := (unhide O6)
      show Rn _ _ _ _
      unfold Rn
      rw [List.length_append, List.length_append, ← unhide HN]
      simpa [Nat.add_assoc, Nat.add_comm, Nat.add_left_comm] using h9
    · have HE : Hid (pieM mk11 1 fl = [32] ++ (inn mk11 false false fl ++ [32])) := by
        show _ = _
        unfold pieM
        rw [if_neg (unhide HM), if_pos (.inl rfl), if_pos (.inr hsl)]
      rw [hsl] at HSL
      generalize pieM mk11 1 fl = P at *
      generalize inn mk11 false false fl = m at *
      obtain ⟨n, hn⟩ : ∃ n, n = m.length := ⟨_, rfl⟩
      have hn0 : 0 < n := by rw [hn]; exact List.length_pos_iff.2 (unhide HM)
      have hnz : ((n : Int) == 0) = false := by simp; omega
      rw [← hn] at HML
      have HN := hide hn
      have hml := unhide HML
      clear hn HM HML hsl
      go_enter Try.func17, Try.ntmps17
      go_wp2_with (first
        | (at_builtin; refine wpList_append_lies _ rfl _ _ 22 rfl w1.heap.size 21 i0 _ 1 4 Try.underlying22 hi hz0 hz1 hz2 rfl (by omega) _ ((0 + 1) + n) _ rfl (World.ownsRow.alloc (unhide O6) _) ⟨w6.heap.size, 0, none⟩ 1 1 [.int .i32 32] rfl rfl (World.news_of_block (cs := #[.int .i32 32]) (t := 21) (fr := (0, 0)) (heap_new w6 _)) (by simp [Value.oneCell']) (by omega) (by unfold maxLen; omega) (by omega) (by simp; omega) (w6.heap.size + 1) (by simp) ?_; intro g9 cap9 w9 hown9 hgrow9 hat9 hlt9; have hb9 := (hb6.alloc (by omega) _).trans (below_own hgrow9 (by simp; omega) (own_block (unhide O6))))
        | (go_at_call 19; refine (unhide HSL2 w5 hb5).mono ?_; rintro e w6 ⟨rfl, b6⟩; have hb6 := hb5.trans (b6.mono hb5.size); have hs6 := hb6.size; have O6 := hide (own_below (unhide O5) b6))
        | (at_builtin; refine wpList_append_rn _ rfl _ _ rfl w1.heap.size i0 hi hz0 hz1 hz2 _ (0 + 1) _ rfl (unhide O4) _ m w1.heap.size rfl (unhide R4) (by rw [← unhide HN]; unfold maxLen; omega) (by rw [← unhide HN]; omega) (by omega) ?_; intro v5 w5 hown5 hgrow5; rw [← unhide HN] at hown5; have hb5 := hb4.trans (below_own hgrow5 (by omega) (own_block (unhide O4))); have hs5 := hb5.size; have O5 := hide hown5; clear hown5 hgrow5)
        | (at_builtin; refine wpList_append_lies _ rfl _ _ 22 rfl w1.heap.size 21 i0 _ 1 4 Try.underlying22 hi hz0 hz1 hz2 rfl (by omega) _ 0 [] rfl (World.ownsRow_nil _ _ _ _) ⟨w2.heap.size, 0, none⟩ 1 1 [.int .i32 32] rfl rfl (World.news_of_block (cs := #[.int .i32 32]) (t := 21) (fr := (0, 0)) (heap_new w2 _)) (by simp [Value.oneCell']) (by omega) (by unfold maxLen; omega) (by omega) (by simp; omega) (w2.heap.size + 1) (by simp) ?_; intro g4 cap4 w4 hown4 hgrow4 hat4 hlt4; have hb4 := (hb2.alloc (by omega) _).trans (below_own hgrow4 (by simp; omega) (fun g h => by cases h)); have hs4 := hb4.size; have O4 := hide hown4; have R4 := hide (((unhide R2).below (Below.one _ _)).below (below_own hgrow4 (Nat.le_refl _) (fun g h => by cases h))); clear hown4 hgrow4 hat4 hlt4)
        | (go_at_call 28; refine (unhide HIN2).mono ?_; rintro e w2 ⟨v2, rfl, r2, b2⟩; obtain ⟨a2, c2, hv2⟩ := r2.shape; rw [← unhide HN] at hv2; subst hv2; have R2 := hide r2; clear r2; have hb2 := b2; have hs2 := hb2.size)
        | (go_at_call 29; refine (unhide HFI).mono ?_; rintro e w1 ⟨v1, rfl, r1, b1⟩; obtain ⟨a1, c1, hv1, hcc1⟩ := r1; have hs1 := b1.size; subst hv1; have HIN2 := hide (unhide HIN _ w1 ⟨a1, c1, rfl, hcc1⟩); have HSL2 := hide (fun w5 (h : Below w1.heap.size w1 w5) => unhide HSL (.slice a1 fl.length c1) w5 (Row.below ⟨a1, c1, rfl, hcc1⟩ h)); clear hcc1))
      go_ret
      refine ⟨_, rfl, Rn.base ?_ hs1, b1.trans (hb9.mono hs1)⟩
      rw [unhide HE]
      have h9 := hown9
      show Rn _ _ _ _
      unfold Rn
      rw [List.length_append, List.length_append, ← unhide HN]
      simpa [Nat.add_assoc, Nat.add_comm, Nat.add_left_comm] using h9
set_option maxHeartbeats 800000 in
theorem rpie_none (k : Int) (a : Option Addr) (n cap : Nat) (w : World) (h1 : k ≠ 1) (h2 : k ≠ 2) (h3 : k ≠ 3) :
    Calls Try.prog 17 #[.int .i64 k, .slice a n cap] w fun e w' => ∃ v', e = .returned v' ∧ Rn w.heap.size v' [] w' ∧ Below w.heap.size w w' := by
  have n1 : (k != 1) = true := by simpa using h1
  have n2 : (k != 2) = true := by simpa using h2
  have n3 : (k != 3) = true := by simpa using h3
  go_enter Try.func17, Try.ntmps17
  go_wp2
  go_ret
  exact ⟨_, rfl, Rn.nil _ _, Below.refl _ _⟩
theorem rpiece_any (k : Int) (v : Value) (l : List Int) (w : World) (hlen : l.length ≤ 8000) (hR : Row w v l) :
    Calls Try.prog 17 #[.int .i64 k, v] w fun e w' => ∃ v', e = .returned v' ∧ Rn w.heap.size v' (pieL mk11 k l) w' ∧ Below w.heap.size w w' := by
  unfold pieL
  by_cases h1 : k = 1
  · subst h1
    rw [if_pos rfl]
    exact rpieM_1 v l w hlen hR
  · rw [if_neg h1]
    by_cases h2 : k = 2
    · subst h2
      rw [if_pos (.inl rfl)]
      exact rpieM_2 v l w (by omega) hR
    · by_cases h3 : k = 3
      · subst h3
        rw [if_pos (.inr rfl)]
        exact rpieM_3 v l w (by omega) hR
      · rw [if_neg (fun h => h.elim h2 h3)]
        obtain ⟨a, cap, rfl, _⟩ := hR
        exact rpie_none k a l.length cap w h1 h2 h3
end Go.Proofs.Ytdlbdfndnjdeeaa
