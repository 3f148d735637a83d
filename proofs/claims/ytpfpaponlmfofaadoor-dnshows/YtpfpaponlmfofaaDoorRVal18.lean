/- The document's hex, sign and Value of layer 18. -/
import Derived.Test.YtpfpaponlmfofaaDoorDc18
import Derived.Test.YtpfpaponlmfofaaDoorLen18
import Derived.Test.YtpfpaponlmfofaaDoorTxt18
namespace Go.Proofs.YtpfpaponlmfofaaDoor
set_option maxRecDepth 100000
open Go.RowKit

set_option maxHeartbeats 800000 in
theorem rhex_any (n : Int) (w : World) (h0 : 0 ≤ n) (h1 : n < 16) : Calls Tryd.prog 40 #[.int .u8 n] w fun e w' => e = .returned (.int .u8 (hexD n)) ∧ w = w' := by
  by_cases h : n < 10
  · have e : hexD n = 48 + n := by unfold hexD; rw [if_pos h]
    have wr : IntKind.u8.wrap (48 + n) = 48 + n := by simp [IntKind.wrap, IntKind.bits, IntKind.signed]; omega
    rw [e]
    clear e
    go_enter Tryd.func40, Tryd.ntmps40
    go_wp2
    go_ret
    exact ⟨rfl, rfl⟩
  · have e : hexD n = 87 + n := by unfold hexD; rw [if_neg h]
    have wr : IntKind.u8.wrap (87 + n) = 87 + n := by simp [IntKind.wrap, IntKind.bits, IntKind.signed]; omega
    rw [e]
    clear e
    go_enter Tryd.func40, Tryd.ntmps40
    go_wp2
    go_ret
    exact ⟨rfl, rfl⟩
set_option maxHeartbeats 1600000 in
theorem rsign_any (c : Int) (w : World) : Calls Tryd.prog 41 #[.int .u8 c] w fun e w' => e = .returned (.bool (sgn c)) ∧ w = w' := by
  by_cases h44 : c = 44
  · have e : sgn c = true := by unfold sgn; simp [h44]
    rw [e]
    clear e
    subst h44
    go_enter Tryd.func41, Tryd.ntmps41
    go_wp2
    go_ret
    exact ⟨rfl, rfl⟩
  have g44 : (c == 44) = false := by rw [beq_eq_false_iff_ne]; exact h44
  by_cases h43 : c = 43
  · have e : sgn c = true := by unfold sgn; simp [h43]
    rw [e]
    clear e
    subst h43
    go_enter Tryd.func41, Tryd.ntmps41
    go_wp2
    go_ret
    exact ⟨rfl, rfl⟩
  have g43 : (c == 43) = false := by rw [beq_eq_false_iff_ne]; exact h43
  by_cases h34 : c = 34
  · have e : sgn c = true := by unfold sgn; simp [h34]
    rw [e]
    clear e
    subst h34
    go_enter Tryd.func41, Tryd.ntmps41
    go_wp2
    go_ret
    exact ⟨rfl, rfl⟩
  have g34 : (c == 34) = false := by rw [beq_eq_false_iff_ne]; exact h34
  by_cases h92 : c = 92
  · have e : sgn c = true := by unfold sgn; simp [h92]
    rw [e]
    clear e
    subst h92
    go_enter Tryd.func41, Tryd.ntmps41
    go_wp2
    go_ret
    exact ⟨rfl, rfl⟩
  have g92 : (c == 92) = false := by rw [beq_eq_false_iff_ne]; exact h92
  by_cases h60 : c = 60
  · have e : sgn c = true := by unfold sgn; simp [h60]
    rw [e]
    clear e
    subst h60
    go_enter Tryd.func41, Tryd.ntmps41
    go_wp2
    go_ret
    exact ⟨rfl, rfl⟩
  have g60 : (c == 60) = false := by rw [beq_eq_false_iff_ne]; exact h60
  by_cases h62 : c = 62
  · have e : sgn c = true := by unfold sgn; simp [h62]
    rw [e]
    clear e
    subst h62
    go_enter Tryd.func41, Tryd.ntmps41
    go_wp2
    go_ret
    exact ⟨rfl, rfl⟩
  have g62 : (c == 62) = false := by rw [beq_eq_false_iff_ne]; exact h62
  by_cases h59 : c = 59
  · have e : sgn c = true := by unfold sgn; simp [h59]
    rw [e]
    clear e
    subst h59
    go_enter Tryd.func41, Tryd.ntmps41
    go_wp2
    go_ret
    exact ⟨rfl, rfl⟩
  have g59 : (c == 59) = false := by rw [beq_eq_false_iff_ne]; exact h59
  by_cases h61 : c = 61
  · have e : sgn c = true := by unfold sgn; simp [h61]
    rw [e]
    clear e
    subst h61
    go_enter Tryd.func41, Tryd.ntmps41
    go_wp2
    go_ret
    exact ⟨rfl, rfl⟩
  have g61 : (c == 61) = false := by rw [beq_eq_false_iff_ne]; exact h61
  have e : sgn c = false := by unfold sgn; rw [decide_eq_false]; omega
  rw [e]
  clear e
  go_enter Tryd.func41, Tryd.ntmps41
  go_wp2
  go_ret
  exact ⟨rfl, rfl⟩
set_option maxHeartbeats 6400000 in
theorem rvalue18_any (s : ByteArray) (w : World) (hs : s.size ≤ 1000) : Calls Tryd.prog 28 #[.string s] w fun e w' => e = .returned (.string (strOfNums (shV true (nums s)))) ∧ Below w.heap.size w w' := by
  obtain ⟨i0, hi, hz0, hz1, hz2⟩ := info_parts u8_info
  go_enter Tryd.func28, Tryd.ntmps28
  go_wp2
  go_loopw [3, 4] (fun vo vi wr => ∃ (k : Nat) (D : List Int), k ≤ s.size ∧ vi = .int .i64 (k : Int) ∧ D.length ≤ 3 * k ∧ Hid (D ++ shV (decide (k = 0)) ((nums s).drop k) = shV true (nums s)) ∧ Ob w.heap.size vo D wr ∧ Below w.heap.size w wr) (fun _ i _ => s.size - (intOf i).toNat)
  case atStart => exact ⟨0, [], Nat.zero_le _, rfl, Nat.le_refl _, rfl, ⟨rfl, .inl ⟨rfl, rfl⟩⟩, Below.refl _ _⟩
  case round =>
    obtain ⟨k, D, hk, rfl, hD, HD, hO, hb⟩ := hrel
    have HO := hide hO
    have hsz := hb.size
    clear hO
    by_cases hlt : k < s.size
    · have hzl : (k : Int) < (s.size : Int) := by omega
      have hz0' : (0 : Int) ≤ (k : Int) := by omega
      have cb := getD_nums s k
      obtain ⟨c, hc⟩ : ∃ c : Int, (s[k].toNat : Int) = c := ⟨_, rfl⟩
      rw [nums_at s k hlt, hc] at cb
      obtain ⟨cb0, cb1⟩ := cb
      have HST : Hid ((D ++ escB (decide (k = 0)) (decide (k + 1 = s.size)) c) ++ shV (decide (k + 1 = 0)) ((nums s).drop (k + 1)) = shV true (nums s)) := by
        show _ = _
        have h1 := shV_step (nums s) k (by rw [nums_length]; exact hlt)
        rw [nums_at s k hlt, hc, nums_length] at h1
        rw [List.append_assoc, ← h1]
        exact unhide HD
      clear HD
      obtain ⟨N, hN⟩ : ∃ N, N = D.length := ⟨_, rfl⟩
      have HN := hide hN
      rw [← hN] at hD
      clear hN
      have hm1 : N + 1 ≤ maxLen := by unfold maxLen; omega
      have hb1 : (N + 1) * 1 ≤ 140737488355328 := by omega
      have hm2 : N + 1 + 1 ≤ maxLen := by unfold maxLen; omega
      have hb2 : (N + 1 + 1) * 1 ≤ 140737488355328 := by omega
      have hm3 : N + 3 ≤ maxLen := by unfold maxLen; omega
      have hb3 : (N + 3) * 1 ≤ 140737488355328 := by omega
      by_cases h : c < 32 ∨ c = 127
      · have HE : Hid (escB (decide (k = 0)) (decide (k + 1 = s.size)) c = [92, hexD (c / 16), hexD (c % 16)]) := by show _ = _; unfold escB; rw [if_pos h]
        have q1 : Int.tdiv c 16 = c / 16 := Int.tdiv_eq_ediv_of_nonneg cb0
        have q2 : Int.tmod c 16 = c % 16 := Int.tmod_eq_emod_of_nonneg cb0
        have C1 := hide (fun W => rhex_any (c / 16) W (by omega) (by omega))
        have C2 := hide (fun W => rhex_any (c % 16) W (by omega) (by omega))
        generalize hexD (c / 16) = z1 at *
        generalize hexD (c % 16) = z2 at *
        have ht : (c < 32 ∨ (¬ c < 32 ∧ (c == 127) = true)) := by
          rcases h with h | h
          · exact .inl h
          · subst h; exact .inr ⟨by omega, rfl⟩
        clear h
        rcases ht with ht | ⟨ht, ht2⟩
        · go_wp2_with (first
            | (at_builtin; refine wpList_append_lies _ rfl _ _ 54 rfl w.heap.size 5 i0 _ 1 1 Tryd.underlying54 hi hz0 hz1 hz2 rfl (by omega) _ N _ rfl (World.ownsRow.alloc (Ob.own (unhide HN) (unhide HO)) _) ⟨wr.heap.size, 0, none⟩ 3 3 [.int .u8 92, .int .u8 z1, .int .u8 z2] rfl rfl (World.news_of_block (cs := #[.int .u8 92, .int .u8 z1, .int .u8 z2]) (t := 5) (fr := (0, 0)) (heap_new wr _)) (by simp [Value.oneCell']) (by omega) hm3 hb3 (by simp; omega) (wr.heap.size + 1) (by simp) ?_; intro g9 cap9 w9 hown9 hgrow9 hat9 hlt9)
            | (go_at_call 40; have M2 := F1; refine (unhide C2 _).mono ?_; rintro e w4 ⟨rfl, rfl⟩)
            | (go_at_call 40; refine (unhide C1 _).mono ?_; rintro e w3 ⟨rfl, rfl⟩; have F1 := trivial))
          go_roundw
          case rel =>
            refine ⟨k + 1, D ++ [92, z1, z2], by omega, by go_num, ?_, ?_, Ob.push (unhide HN) (Z := [92, z1, z2]) rfl hown9, hb.trans (below_own (grown_new hgrow9) hsz (own_block (Ob.own (unhide HN) (unhide HO))))⟩
            · rw [List.length_append, ← unhide HN]; simp; omega
            · have h := unhide HST
              rw [unhide HE] at h
              exact h
          case measure => simp [intOf]; omega
        · have hc127 : c = 127 := by simpa using ht2
          subst hc127
          go_wp2_with (first
            | (at_builtin; refine wpList_append_lies _ rfl _ _ 54 rfl w.heap.size 5 i0 _ 1 1 Tryd.underlying54 hi hz0 hz1 hz2 rfl (by omega) _ N _ rfl (World.ownsRow.alloc (Ob.own (unhide HN) (unhide HO)) _) ⟨wr.heap.size, 0, none⟩ 3 3 [.int .u8 92, .int .u8 z1, .int .u8 z2] rfl rfl (World.news_of_block (cs := #[.int .u8 92, .int .u8 z1, .int .u8 z2]) (t := 5) (fr := (0, 0)) (heap_new wr _)) (by simp [Value.oneCell']) (by omega) hm3 hb3 (by simp; omega) (wr.heap.size + 1) (by simp) ?_; intro g9 cap9 w9 hown9 hgrow9 hat9 hlt9)
            | (go_at_call 40; have M2 := F1; refine (unhide C2 _).mono ?_; rintro e w4 ⟨rfl, rfl⟩)
            | (go_at_call 40; refine (unhide C1 _).mono ?_; rintro e w3 ⟨rfl, rfl⟩; have F1 := trivial))
          go_roundw
          case rel =>
            refine ⟨k + 1, D ++ [92, z1, z2], by omega, by go_num, ?_, ?_, Ob.push (unhide HN) (Z := [92, z1, z2]) rfl hown9, hb.trans (below_own (grown_new hgrow9) hsz (own_block (Ob.own (unhide HN) (unhide HO))))⟩
            · rw [List.length_append, ← unhide HN]; simp; omega
            · have h := unhide HST
              rw [unhide HE] at h
              exact h
          case measure => simp [intOf]; omega
      have CS := hide (rsign_any c)
      have HNS := hide (esc_ns (decide (k = 0)) (decide (k + 1 = s.size)) c h)
      have h1 : ¬ c < 32 := fun e => h (.inl e)
      have h2 : (c == 127) = false := by rw [beq_eq_false_iff_ne]; exact fun e => h (.inr e)
      clear h
      by_cases hsg : sgn c = true
      · have HE : Hid (escB (decide (k = 0)) (decide (k + 1 = s.size)) c = [92, c]) := by
          show _ = _
          rw [unhide HNS, if_pos]
          unfold nsB
          rw [if_neg (by intro e; rw [e] at hsg; revert hsg; decide), if_neg (by intro e; rw [e] at hsg; revert hsg; decide)]
          exact hsg
        rw [hsg] at CS
        clear HNS hsg
        have HN8 : Hid (N + 1 = (D ++ [92]).length) := by show _ = _; rw [List.length_append, ← unhide HN]; rfl
        go_wp2_with (first
          | (at_builtin; refine wpList_append_lies _ rfl _ _ 54 rfl w.heap.size 5 i0 _ 1 1 Tryd.underlying54 hi hz0 hz1 hz2 rfl (by omega) _ (N + 1) _ rfl (World.ownsRow.alloc (Ob.own (unhide HN8) (unhide O8)) _) ⟨w8.heap.size, 0, none⟩ 1 1 [.int .u8 c] rfl rfl (World.news_of_block (cs := #[.int .u8 c]) (t := 5) (fr := (0, 0)) (heap_new w8 _)) (by simp [Value.oneCell']) (by omega) hm2 hb2 (by simp; omega) (w8.heap.size + 1) (by simp) ?_; intro g9 cap9 w9 hown9 hgrow9 hat9 hlt9)
          | (at_builtin; refine wpList_append_lies _ rfl _ _ 54 rfl w.heap.size 5 i0 _ 1 1 Tryd.underlying54 hi hz0 hz1 hz2 rfl (by omega) _ N _ rfl (World.ownsRow.alloc (Ob.own (unhide HN) (unhide HO)) _) ⟨wr.heap.size, 0, none⟩ 1 1 [.int .u8 92] rfl rfl (World.news_of_block (cs := #[.int .u8 92]) (t := 5) (fr := (0, 0)) (heap_new wr _)) (by simp [Value.oneCell']) (by omega) hm1 hb1 (by simp; omega) (wr.heap.size + 1) (by simp) ?_; intro g8 cap8 w8 hown8 hgrow8 hat8 hlt8; have O8 := hide (Ob.push (unhide HN) (Z := [92]) rfl hown8); have b8 := hb.trans (below_own (grown_new hgrow8) hsz (own_block (Ob.own (unhide HN) (unhide HO)))); have s8 := b8.size; clear hown8 hgrow8 hat8 hlt8)
          | (go_at_call 41; refine (unhide CS _).mono ?_; rintro e w3 ⟨rfl, rfl⟩))
        go_roundw
        case rel =>
          refine ⟨k + 1, D ++ [92, c], by omega, by go_num, ?_, ?_, by have h := Ob.push (unhide HN8) (Z := [c]) rfl hown9; simpa using h, b8.trans (below_own (grown_new hgrow9) s8 (own_block (Ob.own (unhide HN8) (unhide O8))))⟩
          · rw [List.length_append, ← unhide HN]; simp; omega
          · have h := unhide HST
            rw [unhide HE] at h
            exact h
        case measure => simp [intOf]; omega
      rw [Bool.not_eq_true] at hsg
      rw [hsg] at CS
      obtain ⟨m, hm⟩ : ∃ m : Int, IntKind.i64.wrap ((s.size : Int) - 1) = m := ⟨_, rfl⟩
      have HM : Hid (m = (s.size : Int) - 1) := by show _ = _; rw [← hm]; exact wrap_in (by omega) (by omega)
      by_cases h32 : c = 32
      · have HE0 : Hid (nsB (decide (k = 0)) (decide (k + 1 = s.size)) c = (decide (k = 0) || decide (k + 1 = s.size))) := by show _ = _; unfold nsB; rw [if_pos h32]
        by_cases k0 : k = 0
        · have HE : Hid (escB (decide (k = 0)) (decide (k + 1 = s.size)) c = [92, c]) := by show _ = _; rw [unhide HNS, unhide HE0, decide_eq_true k0]; rfl
          have k1 : (k : Int) = 0 := by omega
          have h00 : 0 < s.size := by omega
          have hc0 : (s[0].toNat : Int) = c := by have := hc; simp only [k0] at this; exact this
          clear HNS HE0 hsg k0 HM
          subst h32
          have HN8 : Hid (N + 1 = (D ++ [92]).length) := by show _ = _; rw [List.length_append, ← unhide HN]; rfl
          go_wp2_with (first
            | (at_builtin; refine wpList_append_lies _ rfl _ _ 54 rfl w.heap.size 5 i0 _ 1 1 Tryd.underlying54 hi hz0 hz1 hz2 rfl (by omega) _ (N + 1) _ rfl (World.ownsRow.alloc (Ob.own (unhide HN8) (unhide O8)) _) ⟨w8.heap.size, 0, none⟩ 1 1 [.int .u8 32] rfl rfl (World.news_of_block (cs := #[.int .u8 32]) (t := 5) (fr := (0, 0)) (heap_new w8 _)) (by simp [Value.oneCell']) (by omega) hm2 hb2 (by simp; omega) (w8.heap.size + 1) (by simp) ?_; intro g9 cap9 w9 hown9 hgrow9 hat9 hlt9)
            | (at_builtin; refine wpList_append_lies _ rfl _ _ 54 rfl w.heap.size 5 i0 _ 1 1 Tryd.underlying54 hi hz0 hz1 hz2 rfl (by omega) _ N _ rfl (World.ownsRow.alloc (Ob.own (unhide HN) (unhide HO)) _) ⟨wr.heap.size, 0, none⟩ 1 1 [.int .u8 92] rfl rfl (World.news_of_block (cs := #[.int .u8 92]) (t := 5) (fr := (0, 0)) (heap_new wr _)) (by simp [Value.oneCell']) (by omega) hm1 hb1 (by simp; omega) (wr.heap.size + 1) (by simp) ?_; intro g8 cap8 w8 hown8 hgrow8 hat8 hlt8; have O8 := hide (Ob.push (unhide HN) (Z := [92]) rfl hown8); have b8 := hb.trans (below_own (grown_new hgrow8) hsz (own_block (Ob.own (unhide HN) (unhide HO)))); have s8 := b8.size; clear hown8 hgrow8 hat8 hlt8)
            | (go_at_call 41; refine (unhide CS _).mono ?_; rintro e w3 ⟨rfl, rfl⟩))
          go_roundw
          case rel =>
            refine ⟨k + 1, D ++ [92, 32], by omega, by go_num, ?_, ?_, by have h := Ob.push (unhide HN8) (Z := [32]) rfl hown9; simpa using h, b8.trans (below_own (grown_new hgrow9) s8 (own_block (Ob.own (unhide HN8) (unhide O8))))⟩
            · rw [List.length_append, ← unhide HN]; simp; omega
            · have h := unhide HST
              rw [unhide HE] at h
              exact h
          case measure => simp [intOf]; omega
        · by_cases kl : k + 1 = s.size
          · have HE : Hid (escB (decide (k = 0)) (decide (k + 1 = s.size)) c = [92, c]) := by show _ = _; rw [unhide HNS, unhide HE0, decide_eq_true kl, Bool.or_true]; rfl
            have k1 : ((k : Int) == 0) = false := by rw [beq_eq_false_iff_ne]; omega
            have hmk : m = (k : Int) := by rw [unhide HM]; omega
            subst hmk
            clear HNS HE0 hsg k0 HM kl
            subst h32
            have HN8 : Hid (N + 1 = (D ++ [92]).length) := by show _ = _; rw [List.length_append, ← unhide HN]; rfl
            go_wp2_with (first
              | (at_builtin; refine wpList_append_lies _ rfl _ _ 54 rfl w.heap.size 5 i0 _ 1 1 Tryd.underlying54 hi hz0 hz1 hz2 rfl (by omega) _ (N + 1) _ rfl (World.ownsRow.alloc (Ob.own (unhide HN8) (unhide O8)) _) ⟨w8.heap.size, 0, none⟩ 1 1 [.int .u8 32] rfl rfl (World.news_of_block (cs := #[.int .u8 32]) (t := 5) (fr := (0, 0)) (heap_new w8 _)) (by simp [Value.oneCell']) (by omega) hm2 hb2 (by simp; omega) (w8.heap.size + 1) (by simp) ?_; intro g9 cap9 w9 hown9 hgrow9 hat9 hlt9)
              | (at_builtin; refine wpList_append_lies _ rfl _ _ 54 rfl w.heap.size 5 i0 _ 1 1 Tryd.underlying54 hi hz0 hz1 hz2 rfl (by omega) _ N _ rfl (World.ownsRow.alloc (Ob.own (unhide HN) (unhide HO)) _) ⟨wr.heap.size, 0, none⟩ 1 1 [.int .u8 92] rfl rfl (World.news_of_block (cs := #[.int .u8 92]) (t := 5) (fr := (0, 0)) (heap_new wr _)) (by simp [Value.oneCell']) (by omega) hm1 hb1 (by simp; omega) (wr.heap.size + 1) (by simp) ?_; intro g8 cap8 w8 hown8 hgrow8 hat8 hlt8; have O8 := hide (Ob.push (unhide HN) (Z := [92]) rfl hown8); have b8 := hb.trans (below_own (grown_new hgrow8) hsz (own_block (Ob.own (unhide HN) (unhide HO)))); have s8 := b8.size; clear hown8 hgrow8 hat8 hlt8)
              | (go_at_call 41; refine (unhide CS _).mono ?_; rintro e w3 ⟨rfl, rfl⟩))
            go_roundw
            case rel =>
              refine ⟨k + 1, D ++ [92, 32], by omega, by go_num, ?_, ?_, by have h := Ob.push (unhide HN8) (Z := [32]) rfl hown9; simpa using h, b8.trans (below_own (grown_new hgrow9) s8 (own_block (Ob.own (unhide HN8) (unhide O8))))⟩
              · rw [List.length_append, ← unhide HN]; simp; omega
              · have h := unhide HST
                rw [unhide HE] at h
                exact h
            case measure => simp [intOf]; omega
          · have HE : Hid (escB (decide (k = 0)) (decide (k + 1 = s.size)) c = [c]) := by show _ = _; rw [unhide HNS, unhide HE0, decide_eq_false k0, decide_eq_false kl]; rfl
            have k1 : ((k : Int) == 0) = false := by rw [beq_eq_false_iff_ne]; omega
            have k2 : ((k : Int) == m) = false := by rw [beq_eq_false_iff_ne, unhide HM]; omega
            clear HNS HE0 hsg k0 HM kl
            subst h32
            go_wp2_with (first
              | (at_builtin; refine wpList_append_lies _ rfl _ _ 54 rfl w.heap.size 5 i0 _ 1 1 Tryd.underlying54 hi hz0 hz1 hz2 rfl (by omega) _ N _ rfl (World.ownsRow.alloc (Ob.own (unhide HN) (unhide HO)) _) ⟨wr.heap.size, 0, none⟩ 1 1 [.int .u8 32] rfl rfl (World.news_of_block (cs := #[.int .u8 32]) (t := 5) (fr := (0, 0)) (heap_new wr _)) (by simp [Value.oneCell']) (by omega) hm1 hb1 (by simp; omega) (wr.heap.size + 1) (by simp) ?_; intro g9 cap9 w9 hown9 hgrow9 hat9 hlt9)
              | (go_at_call 41; refine (unhide CS _).mono ?_; rintro e w3 ⟨rfl, rfl⟩))
            go_roundw
            case rel =>
              refine ⟨k + 1, D ++ [32], by omega, by go_num, ?_, ?_, Ob.push (unhide HN) (Z := [32]) rfl hown9, hb.trans (below_own (grown_new hgrow9) hsz (own_block (Ob.own (unhide HN) (unhide HO))))⟩
              · rw [List.length_append, ← unhide HN]; simp; omega
              · have h := unhide HST
                rw [unhide HE] at h
                exact h
            case measure => simp [intOf]; omega
      have g32 : (c == 32) = false := by rw [beq_eq_false_iff_ne]; exact h32
      by_cases h35 : c = 35
      · have HE0 : Hid (nsB (decide (k = 0)) (decide (k + 1 = s.size)) c = decide (k = 0)) := by show _ = _; unfold nsB; rw [if_neg h32, if_pos h35]
        by_cases k0 : k = 0
        · have HE : Hid (escB (decide (k = 0)) (decide (k + 1 = s.size)) c = [92, c]) := by show _ = _; rw [unhide HNS, unhide HE0, decide_eq_true k0]; rfl
          have k1 : (k : Int) = 0 := by omega
          have h00 : 0 < s.size := by omega
          have hc0 : (s[0].toNat : Int) = c := by have := hc; simp only [k0] at this; exact this
          clear HNS HE0 hsg k0 HM g32 h32
          subst h35
          have HN8 : Hid (N + 1 = (D ++ [92]).length) := by show _ = _; rw [List.length_append, ← unhide HN]; rfl
          go_wp2_with (first
            | (at_builtin; refine wpList_append_lies _ rfl _ _ 54 rfl w.heap.size 5 i0 _ 1 1 Tryd.underlying54 hi hz0 hz1 hz2 rfl (by omega) _ (N + 1) _ rfl (World.ownsRow.alloc (Ob.own (unhide HN8) (unhide O8)) _) ⟨w8.heap.size, 0, none⟩ 1 1 [.int .u8 35] rfl rfl (World.news_of_block (cs := #[.int .u8 35]) (t := 5) (fr := (0, 0)) (heap_new w8 _)) (by simp [Value.oneCell']) (by omega) hm2 hb2 (by simp; omega) (w8.heap.size + 1) (by simp) ?_; intro g9 cap9 w9 hown9 hgrow9 hat9 hlt9)
            | (at_builtin; refine wpList_append_lies _ rfl _ _ 54 rfl w.heap.size 5 i0 _ 1 1 Tryd.underlying54 hi hz0 hz1 hz2 rfl (by omega) _ N _ rfl (World.ownsRow.alloc (Ob.own (unhide HN) (unhide HO)) _) ⟨wr.heap.size, 0, none⟩ 1 1 [.int .u8 92] rfl rfl (World.news_of_block (cs := #[.int .u8 92]) (t := 5) (fr := (0, 0)) (heap_new wr _)) (by simp [Value.oneCell']) (by omega) hm1 hb1 (by simp; omega) (wr.heap.size + 1) (by simp) ?_; intro g8 cap8 w8 hown8 hgrow8 hat8 hlt8; have O8 := hide (Ob.push (unhide HN) (Z := [92]) rfl hown8); have b8 := hb.trans (below_own (grown_new hgrow8) hsz (own_block (Ob.own (unhide HN) (unhide HO)))); have s8 := b8.size; clear hown8 hgrow8 hat8 hlt8)
            | (go_at_call 41; refine (unhide CS _).mono ?_; rintro e w3 ⟨rfl, rfl⟩))
          go_roundw
          case rel =>
            refine ⟨k + 1, D ++ [92, 35], by omega, by go_num, ?_, ?_, by have h := Ob.push (unhide HN8) (Z := [35]) rfl hown9; simpa using h, b8.trans (below_own (grown_new hgrow9) s8 (own_block (Ob.own (unhide HN8) (unhide O8))))⟩
            · rw [List.length_append, ← unhide HN]; simp; omega
            · have h := unhide HST
              rw [unhide HE] at h
              exact h
          case measure => simp [intOf]; omega
        · have HE : Hid (escB (decide (k = 0)) (decide (k + 1 = s.size)) c = [c]) := by show _ = _; rw [unhide HNS, unhide HE0, decide_eq_false k0]; rfl
          have k1 : ((k : Int) == 0) = false := by rw [beq_eq_false_iff_ne]; omega
          clear HNS HE0 hsg k0 HM g32 h32
          subst h35
          go_wp2_with (first
            | (at_builtin; refine wpList_append_lies _ rfl _ _ 54 rfl w.heap.size 5 i0 _ 1 1 Tryd.underlying54 hi hz0 hz1 hz2 rfl (by omega) _ N _ rfl (World.ownsRow.alloc (Ob.own (unhide HN) (unhide HO)) _) ⟨wr.heap.size, 0, none⟩ 1 1 [.int .u8 35] rfl rfl (World.news_of_block (cs := #[.int .u8 35]) (t := 5) (fr := (0, 0)) (heap_new wr _)) (by simp [Value.oneCell']) (by omega) hm1 hb1 (by simp; omega) (wr.heap.size + 1) (by simp) ?_; intro g9 cap9 w9 hown9 hgrow9 hat9 hlt9)
            | (go_at_call 41; refine (unhide CS _).mono ?_; rintro e w3 ⟨rfl, rfl⟩))
          go_roundw
          case rel =>
            refine ⟨k + 1, D ++ [35], by omega, by go_num, ?_, ?_, Ob.push (unhide HN) (Z := [35]) rfl hown9, hb.trans (below_own (grown_new hgrow9) hsz (own_block (Ob.own (unhide HN) (unhide HO))))⟩
            · rw [List.length_append, ← unhide HN]; simp; omega
            · have h := unhide HST
              rw [unhide HE] at h
              exact h
          case measure => simp [intOf]; omega
      have g35 : (c == 35) = false := by rw [beq_eq_false_iff_ne]; exact h35
      have HE : Hid (escB (decide (k = 0)) (decide (k + 1 = s.size)) c = [c]) := by
        show _ = _
        rw [unhide HNS, if_neg]
        unfold nsB
        rw [if_neg h32, if_neg h35, hsg]
        decide
      clear HNS hsg HM h32 h35
      go_wp2_with (first
        | (at_builtin; refine wpList_append_lies _ rfl _ _ 54 rfl w.heap.size 5 i0 _ 1 1 Tryd.underlying54 hi hz0 hz1 hz2 rfl (by omega) _ N _ rfl (World.ownsRow.alloc (Ob.own (unhide HN) (unhide HO)) _) ⟨wr.heap.size, 0, none⟩ 1 1 [.int .u8 c] rfl rfl (World.news_of_block (cs := #[.int .u8 c]) (t := 5) (fr := (0, 0)) (heap_new wr _)) (by simp [Value.oneCell']) (by omega) hm1 hb1 (by simp; omega) (wr.heap.size + 1) (by simp) ?_; intro g9 cap9 w9 hown9 hgrow9 hat9 hlt9)
        | (go_at_call 41; refine (unhide CS _).mono ?_; rintro e w3 ⟨rfl, rfl⟩))
      go_roundw
      case rel =>
        refine ⟨k + 1, D ++ [c], by omega, by go_num, ?_, ?_, Ob.push (unhide HN) (Z := [c]) rfl hown9, hb.trans (below_own (grown_new hgrow9) hsz (own_block (Ob.own (unhide HN) (unhide HO))))⟩
        · rw [List.length_append, ← unhide HN]; simp; omega
        · have h := unhide HST
          rw [unhide HE] at h
          exact h
      case measure => simp [intOf]; omega
    · have hzl : ¬ (k : Int) < (s.size : Int) := by omega
      have HE : Hid (D = shV true (nums s)) := by
        show _ = _
        have := unhide HD
        rw [List.drop_eq_nil_of_le (by rw [nums_length]; omega)] at this
        simpa [shV] using this
      have cv := (unhide HO).conv
      rw [unhide HE] at cv
      go_wp2
      go_ret
      exact ⟨rfl, hb⟩
end Go.Proofs.YtpfpaponlmfofaaDoor
