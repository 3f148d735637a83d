/- The document's take and Parse of layer 14. (By gen_par.py.) -/
import Derived.Test.YtpkofpgdnbkknaaDoorRCmp14
namespace Go.Proofs.YtpkofpgdnbkknaaDoor
open Go.RowKit

theorem goD_step (s : List Int) (x : Int) (k : Nat) (h : k < s.length) : goD (s.drop k) x = if 48 ≤ s.getD k 0 ∧ s.getD k 0 ≤ 57 ∧ x < 1000000 then goD (s.drop (k + 1)) (10 * x + s.getD k 0 - 48) else (x, s.drop k) := by
  rw [List.drop_eq_getElem_cons h]
  simp [goD, List.getD, h]
theorem goD_end (s : List Int) (x : Int) (k : Nat) (h : ¬ k < s.length) : goD (s.drop k) x = (x, s.drop k) := by
  rw [List.drop_eq_nil_of_le (by omega)]
  rfl
theorem drop_head (s : List Int) (k : Nat) : (s.drop k).getD 0 0 = s.getD k 0 := by simp [List.getD]
theorem ret_ii {a b c d : Int} (h : a = b) (h' : c = d) : Ending.returned (.tuple #[.int .i64 a, .int .i64 c]) = .returned (.tuple #[.int .i64 b, .int .i64 d]) := by rw [h, h']
theorem takeL_neg {s : List Int} (h : s.getD 0 0 = 45) {v : Int} {r : List Int} (e : goD (s.drop 1) 0 = (v, r)) : takeL s = (-v, r) := by unfold takeL; rw [if_pos h, e]
theorem takeL_pos {s : List Int} (h : ¬ s.getD 0 0 = 45) {v : Int} {r : List Int} (e : goD s 0 = (v, r)) : takeL s = (v, r) := by unfold takeL; rw [if_neg h, e]
set_option maxHeartbeats 6400000 in
theorem rtake_any (s : ByteArray) (i : Nat) (w : World) (hi : i ≤ s.size) (hs : s.size ≤ 9223372036854775806) :
    Calls Tryd.prog 35 #[.string s, .int .i64 i] w fun e w' => ∃ (j : Nat) (v : Int), e = .returned (.tuple #[.int .i64 v, .int .i64 j]) ∧ j ≤ s.size ∧ takeL ((nums s).drop i) = (v, (nums s).drop j) ∧ -9999999 ≤ v ∧ v ≤ 9999999 ∧ w' = w := by
  have i0 : (0 : Int) ≤ (i : Int) := by omega
  by_cases hi2 : i < s.size
  · have zi : (i : Int) < (s.size : Int) := by omega
    have hat := nums_at s i hi2
    have hbb := (s[i]).toNat_lt
    obtain ⟨d, hd⟩ : ∃ d : Int, (s[i].toNat : Int) = d := ⟨_, rfl⟩
    rw [hd] at hat
    have hd0 : 0 ≤ d := by omega
    have hd1 : d < 256 := by omega
    clear hbb
    by_cases d45 : d = 45
    · subst d45
      have HT : Hid (∀ p, goD ((nums s).drop (i + 1)) 0 = p → takeL ((nums s).drop i) = (-p.1, p.2)) := fun p hp => takeL_neg (by rw [drop_head]; exact hat) (by rw [List.drop_drop]; exact hp)
      have wi : IntKind.i64.wrap ((i : Int) + 1) = (i : Int) + 1 := wrap_in (by omega) (by omega)
      clear hat
      go_enter Tryd.func35, Tryd.ntmps35
      go_wp2
      go_loopw [1, 7] (fun va vn wr => ∃ (k : Nat) (x : Int), k ≤ s.size ∧ va = .int .i64 (k : Int) ∧ vn = .int .i64 x ∧ 0 ≤ x ∧ x ≤ 9999999 ∧ Hid (goD ((nums s).drop (i + 1)) 0 = goD ((nums s).drop k) x) ∧ wr = w) (fun a _ _ => s.size - (intOf a).toNat)
      case atStart => exact ⟨i + 1, 0, by omega, by go_num, rfl, Int.le_refl _, by omega, rfl, rfl⟩
      case round =>
        obtain ⟨k, x, hk, rfl, rfl, x0, x1, HG, rfl⟩ := hrel
        have y1 : IntKind.i64.wrap (-x) = -x := wrap_in (by omega) (by omega)
        have y2 : IntKind.i64.wrap (-1 * x) = -x := (wrap_in (by omega) (by omega)).trans (by omega)
        have y3 : IntKind.i64.wrap (1 * x) = x := (wrap_in (by omega) (by omega)).trans (by omega)
        have y4 : IntKind.i64.wrap x = x := wrap_in (by omega) (by omega)
        by_cases hlt : k < s.size
        · have hzl : (k : Int) < (s.size : Int) := by omega
          have hz0' : (0 : Int) ≤ (k : Int) := by omega
          have hst := goD_step (nums s) x k (by rw [nums_length]; exact hlt)
          rw [nums_at s k hlt] at hst
          have hb0 := (s[k]).toNat_lt
          obtain ⟨c, hc⟩ : ∃ c : Int, (s[k].toNat : Int) = c := ⟨_, rfl⟩
          rw [hc] at hst
          have hc0 : 0 ≤ c := by omega
          have hc1 : c < 256 := by omega
          have HS := hide hst
          clear hst hb0
          by_cases d1 : 48 ≤ c
          · by_cases d2 : c ≤ 57
            · by_cases d3 : x < 1000000
              · have w1 : IntKind.i64.wrap (10 * x) = 10 * x := wrap_in (by omega) (by omega)
                have w2 : IntKind.i64.wrap (10 * x + c) = 10 * x + c := wrap_in (by omega) (by omega)
                have w3 : IntKind.i64.wrap (10 * x + c - 48) = 10 * x + c - 48 := wrap_in (by omega) (by omega)
                go_wp2
                go_roundw
                case rel =>
                  refine ⟨k + 1, 10 * x + c - 48, by omega, by go_num, rfl, by omega, by omega, ?_, trivial⟩
                  show _ = _
                  rw [unhide HG, unhide HS, if_pos ⟨d1, d2, d3⟩]
                case measure => simp [intOf]; omega
              · go_wp2
                go_ret2
                have e := unhide HT (x, (nums s).drop k) (by rw [unhide HG]; rw [unhide HS, if_neg (by omega)])
                exact ⟨k, -x, ret_ii (by omega) rfl, hk, e, by omega, by omega, rfl⟩
            · go_wp2
              go_ret2
              have e := unhide HT (x, (nums s).drop k) (by rw [unhide HG]; rw [unhide HS, if_neg (by omega)])
              exact ⟨k, -x, ret_ii (by omega) rfl, hk, e, by omega, by omega, rfl⟩
          · go_wp2
            go_ret2
            have e := unhide HT (x, (nums s).drop k) (by rw [unhide HG]; rw [unhide HS, if_neg (by omega)])
            exact ⟨k, -x, ret_ii (by omega) rfl, hk, e, by omega, by omega, rfl⟩
        · have hzl : ¬ (k : Int) < (s.size : Int) := by omega
          go_wp2
          go_ret2
          have e := unhide HT (x, (nums s).drop k) (by rw [unhide HG]; exact goD_end _ _ _ (by rw [nums_length]; exact hlt))
          exact ⟨k, -x, ret_ii (by omega) rfl, hk, e, by omega, by omega, rfl⟩
    · have z45 : (d == 45) = false := by simpa using d45
      have HT : Hid (∀ p, goD ((nums s).drop i) 0 = p → takeL ((nums s).drop i) = (p.1, p.2)) := fun p hp => takeL_pos (by rw [drop_head, hat]; exact d45) hp
      clear hat
      go_enter Tryd.func35, Tryd.ntmps35
      go_wp2
      go_loopw [1, 7] (fun va vn wr => ∃ (k : Nat) (x : Int), k ≤ s.size ∧ va = .int .i64 (k : Int) ∧ vn = .int .i64 x ∧ 0 ≤ x ∧ x ≤ 9999999 ∧ Hid (goD ((nums s).drop (i)) 0 = goD ((nums s).drop k) x) ∧ wr = w) (fun a _ _ => s.size - (intOf a).toNat)
      case atStart => exact ⟨i, 0, by omega, by go_num, rfl, Int.le_refl _, by omega, rfl, rfl⟩
      case round =>
        obtain ⟨k, x, hk, rfl, rfl, x0, x1, HG, rfl⟩ := hrel
        have y1 : IntKind.i64.wrap (-x) = -x := wrap_in (by omega) (by omega)
        have y2 : IntKind.i64.wrap (-1 * x) = -x := (wrap_in (by omega) (by omega)).trans (by omega)
        have y3 : IntKind.i64.wrap (1 * x) = x := (wrap_in (by omega) (by omega)).trans (by omega)
        have y4 : IntKind.i64.wrap x = x := wrap_in (by omega) (by omega)
        by_cases hlt : k < s.size
        · have hzl : (k : Int) < (s.size : Int) := by omega
          have hz0' : (0 : Int) ≤ (k : Int) := by omega
          have hst := goD_step (nums s) x k (by rw [nums_length]; exact hlt)
          rw [nums_at s k hlt] at hst
          have hb0 := (s[k]).toNat_lt
          obtain ⟨c, hc⟩ : ∃ c : Int, (s[k].toNat : Int) = c := ⟨_, rfl⟩
          rw [hc] at hst
          have hc0 : 0 ≤ c := by omega
          have hc1 : c < 256 := by omega
          have HS := hide hst
          clear hst hb0
          by_cases d1 : 48 ≤ c
          · by_cases d2 : c ≤ 57
            · by_cases d3 : x < 1000000
              · have w1 : IntKind.i64.wrap (10 * x) = 10 * x := wrap_in (by omega) (by omega)
                have w2 : IntKind.i64.wrap (10 * x + c) = 10 * x + c := wrap_in (by omega) (by omega)
                have w3 : IntKind.i64.wrap (10 * x + c - 48) = 10 * x + c - 48 := wrap_in (by omega) (by omega)
                go_wp2
                go_roundw
                case rel =>
                  refine ⟨k + 1, 10 * x + c - 48, by omega, by go_num, rfl, by omega, by omega, ?_, trivial⟩
                  show _ = _
                  rw [unhide HG, unhide HS, if_pos ⟨d1, d2, d3⟩]
                case measure => simp [intOf]; omega
              · go_wp2
                go_ret2
                have e := unhide HT (x, (nums s).drop k) (by rw [unhide HG]; rw [unhide HS, if_neg (by omega)])
                exact ⟨k, x, ret_ii (by omega) rfl, hk, e, by omega, by omega, rfl⟩
            · go_wp2
              go_ret2
              have e := unhide HT (x, (nums s).drop k) (by rw [unhide HG]; rw [unhide HS, if_neg (by omega)])
              exact ⟨k, x, ret_ii (by omega) rfl, hk, e, by omega, by omega, rfl⟩
          · go_wp2
            go_ret2
            have e := unhide HT (x, (nums s).drop k) (by rw [unhide HG]; rw [unhide HS, if_neg (by omega)])
            exact ⟨k, x, ret_ii (by omega) rfl, hk, e, by omega, by omega, rfl⟩
        · have hzl : ¬ (k : Int) < (s.size : Int) := by omega
          go_wp2
          go_ret2
          have e := unhide HT (x, (nums s).drop k) (by rw [unhide HG]; exact goD_end _ _ _ (by rw [nums_length]; exact hlt))
          exact ⟨k, x, ret_ii (by omega) rfl, hk, e, by omega, by omega, rfl⟩
  · have zi : ¬ (i : Int) < (s.size : Int) := by omega
    have HT : Hid (∀ p, goD ((nums s).drop i) 0 = p → takeL ((nums s).drop i) = (p.1, p.2)) := fun p hp => takeL_pos (by rw [List.drop_eq_nil_of_le (by rw [nums_length]; omega)]; simp) hp
    go_enter Tryd.func35, Tryd.ntmps35
    go_wp2
    go_loopw [1, 7] (fun va vn wr => ∃ (k : Nat) (x : Int), k ≤ s.size ∧ va = .int .i64 (k : Int) ∧ vn = .int .i64 x ∧ 0 ≤ x ∧ x ≤ 9999999 ∧ Hid (goD ((nums s).drop (i)) 0 = goD ((nums s).drop k) x) ∧ wr = w) (fun a _ _ => s.size - (intOf a).toNat)
    case atStart => exact ⟨i, 0, by omega, by go_num, rfl, Int.le_refl _, by omega, rfl, rfl⟩
    case round =>
      obtain ⟨k, x, hk, rfl, rfl, x0, x1, HG, rfl⟩ := hrel
      have y1 : IntKind.i64.wrap (-x) = -x := wrap_in (by omega) (by omega)
      have y2 : IntKind.i64.wrap (-1 * x) = -x := (wrap_in (by omega) (by omega)).trans (by omega)
      have y3 : IntKind.i64.wrap (1 * x) = x := (wrap_in (by omega) (by omega)).trans (by omega)
      have y4 : IntKind.i64.wrap x = x := wrap_in (by omega) (by omega)
      by_cases hlt : k < s.size
      · have hzl : (k : Int) < (s.size : Int) := by omega
        have hz0' : (0 : Int) ≤ (k : Int) := by omega
        have hst := goD_step (nums s) x k (by rw [nums_length]; exact hlt)
        rw [nums_at s k hlt] at hst
        have hb0 := (s[k]).toNat_lt
        obtain ⟨c, hc⟩ : ∃ c : Int, (s[k].toNat : Int) = c := ⟨_, rfl⟩
        rw [hc] at hst
        have hc0 : 0 ≤ c := by omega
        have hc1 : c < 256 := by omega
        have HS := hide hst
        clear hst hb0
        by_cases d1 : 48 ≤ c
        · by_cases d2 : c ≤ 57
          · by_cases d3 : x < 1000000
            · have w1 : IntKind.i64.wrap (10 * x) = 10 * x := wrap_in (by omega) (by omega)
              have w2 : IntKind.i64.wrap (10 * x + c) = 10 * x + c := wrap_in (by omega) (by omega)
              have w3 : IntKind.i64.wrap (10 * x + c - 48) = 10 * x + c - 48 := wrap_in (by omega) (by omega)
              go_wp2
              go_roundw
              case rel =>
                refine ⟨k + 1, 10 * x + c - 48, by omega, by go_num, rfl, by omega, by omega, ?_, trivial⟩
                show _ = _
                rw [unhide HG, unhide HS, if_pos ⟨d1, d2, d3⟩]
              case measure => simp [intOf]; omega
            · go_wp2
              go_ret2
              have e := unhide HT (x, (nums s).drop k) (by rw [unhide HG]; rw [unhide HS, if_neg (by omega)])
              exact ⟨k, x, ret_ii (by omega) rfl, hk, e, by omega, by omega, rfl⟩
          · go_wp2
            go_ret2
            have e := unhide HT (x, (nums s).drop k) (by rw [unhide HG]; rw [unhide HS, if_neg (by omega)])
            exact ⟨k, x, ret_ii (by omega) rfl, hk, e, by omega, by omega, rfl⟩
        · go_wp2
          go_ret2
          have e := unhide HT (x, (nums s).drop k) (by rw [unhide HG]; rw [unhide HS, if_neg (by omega)])
          exact ⟨k, x, ret_ii (by omega) rfl, hk, e, by omega, by omega, rfl⟩
      · have hzl : ¬ (k : Int) < (s.size : Int) := by omega
        go_wp2
        go_ret2
        have e := unhide HT (x, (nums s).drop k) (by rw [unhide HG]; exact goD_end _ _ _ (by rw [nums_length]; exact hlt))
        exact ⟨k, x, ret_ii (by omega) rfl, hk, e, by omega, by omega, rfl⟩
end Go.Proofs.YtpkofpgdnbkknaaDoor
