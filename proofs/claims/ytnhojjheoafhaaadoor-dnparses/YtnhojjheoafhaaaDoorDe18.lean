/- The landed appendPart of layer 18. -/
import Derived.Test.YtnhojjheoafhaaaDoorDd18
import Derived.Test.YtnhojjheoafhaaaDoorLen18
namespace Go.Proofs.YtnhojjheoafhaaaDoor
set_option maxRecDepth 100000
open Go.RowKit

set_option maxHeartbeats 6400000 in
theorem appart_any (w0 : World) (rv : Value) (r : List Pr) (hR : PsV w0 rv r) (hsm : ∀ p ∈ r, smP p) (v : Value) (Y : List Int) (w : World) (hO : Ob w0.heap.size v Y w) (hb : Below w0.heap.size w0 w) (hl : Y.length + 1218 * r.length ≤ 150000) :
    Calls Tryd.prog 23 #[v, rv] w fun e w' => ∃ v2, e = .returned v2 ∧ Ob w0.heap.size v2 (Y ++ shR true r) w' ∧ Below w0.heap.size w0 w' := by
  obtain ⟨i0, hi, hz0, hz1, hz2⟩ := info_parts u8_info
  obtain ⟨a, cap, rfl, hn, hc⟩ := hR
  have HC := hide hc
  have HSM := hide hsm
  clear hc hsm
  go_enter Tryd.func23, Tryd.ntmps23
  go_wp2
  go_loopw [0, 10] (fun vo vi wr => ∃ i : Nat, i ≤ r.length ∧ vi = .int .i64 (i : Int) ∧ Ob w0.heap.size vo (Y ++ shR true (r.take i)) wr ∧ Below w0.heap.size w0 wr) (fun _ i _ => r.length - (intOf i).toNat)
  case atStart => exact ⟨0, Nat.zero_le _, rfl, by simpa [shR] using hO, hb⟩
  case round =>
    obtain ⟨i, hile, rfl, hE, hbr⟩ := hrel
    clear hO hb
    have hB : w0.heap.size ≤ wr.heap.size := hbr.size
    by_cases hlt : i < r.length
    · have hzl : (i : Int) < (r.length : Int) := by omega
      have hz0' : (0 : Int) ≤ (i : Int) := by omega
      obtain ⟨b, off, rfl, hcc⟩ := unhide HC (by omega)
      obtain ⟨q1, q2⟩ := hcc i hlt
      replace q1 := (hbr.cell (cell_lt q1)).trans q1
      replace q2 := (hbr.cell (cell_lt q2)).trans q2
      clear hcc
      have HNX := hide (shR_next r i hlt)
      obtain ⟨hs1, hs2⟩ := unhide HSM _ (getD_memP r i hlt)
      have hTl : (shR true (r.take i)).length ≤ 1218 * i := by
        have := shR_len (r.take i) true (fun p hp => unhide HSM p (List.mem_of_mem_take hp))
        rw [List.length_take] at this
        omega
      obtain ⟨N, hN⟩ : ∃ N, N = (Y ++ shR true (r.take i)).length := ⟨_, rfl⟩
      have hNl : N + 1218 ≤ 150000 := by rw [hN, List.length_append]; omega
      have HN := hide hN
      clear hN
      generalize r.getD i pr0 = p at *
      have L0 := hide (Lb.new p.nam p.val hE hbr hB)
      clear hE
      by_cases h0 : i = 0
      · have zi : ¬ (0 : Int) < (i : Int) := by omega
        have HY := hide (unhide HNX)
        rw [if_pos h0] at HY
        have HN2 : Hid (N + p.nam.size = ((Y ++ shR true (r.take i)) ++ nums p.nam).length) := by show _ = _; rw [List.length_append, ← unhide HN, nums_length]
        have HN3 : Hid (N + p.nam.size + 1 = (((Y ++ shR true (r.take i)) ++ nums p.nam) ++ nums ⟨#[61]⟩).length) := by show _ = _; rw [List.length_append, ← unhide HN2]; rfl
        have ha1 : N + p.nam.size ≤ maxLen := by unfold maxLen; omega
        have ha2 : N + p.nam.size ≤ 140737488355328 := by omega
        have hb1 : N + p.nam.size + 1 ≤ maxLen := by unfold maxLen; omega
        have hb2 : N + p.nam.size + 1 ≤ 140737488355328 := by omega
        clear HNX h0
        go_wp2_with (first
          | (at_builtin; refine Lib.wpList_append_own_string _ rfl _ _ 55 9 rfl w0.heap.size 5 i0 Tryd.underlying55 Tryd.underlying9 hi hz0 hz1 hz2 _ (N + p.nam.size) _ rfl (Ob.own (unhide HN2) (unhide L2).own) ⟨#[61]⟩ rfl hb1 hb2 (unhide L2).big ?_; intro v3 w3 hown hgrow hnil; clear hnil; have L3 := hide ((unhide L2).app hgrow (Ob.push_str (unhide HN2) hown)); clear hown hgrow; have k31 := (unhide L3).c1)
          | (at_builtin; refine Lib.wpList_append_own_string _ rfl _ _ 55 9 rfl w0.heap.size 5 i0 Tryd.underlying55 Tryd.underlying9 hi hz0 hz1 hz2 _ N _ rfl (Ob.own (unhide HN) (unhide L0).own) p.nam rfl ha1 ha2 (unhide L0).big ?_; intro v2 w2 hown hgrow hnil; clear hnil; have L2 := hide ((unhide L0).app hgrow (Ob.push_str (unhide HN) hown)); clear hown hgrow))
        clear HN2
        go_loopw [0, 29] (fun vo vi ws => ∃ (k : Nat) (D : List Int), k ≤ p.val.size ∧ vi = .int .i64 (k : Int) ∧ D.length ≤ 3 * k ∧ Hid (D ++ shV (decide (k = 0)) ((nums p.val).drop k) = shV true (nums p.val)) ∧ Lb w0.heap.size wr.heap.size w0 p.nam p.val vo (((Y ++ shR true (r.take i)) ++ nums p.nam) ++ nums ⟨#[61]⟩ ++ D) ws) (fun _ i _ => p.val.size - (intOf i).toNat)
        case atStart => exact ⟨0, [], Nat.zero_le _, rfl, Nat.le_refl _, rfl, by rw [List.append_nil]; exact unhide L3⟩
        case round =>
          obtain ⟨k, D, hk, rfl, hD, HD, hL⟩ := hrel
          have LL := hide hL
          have ks1 := hL.c1
          clear hL
          by_cases hlt2 : k < p.val.size
          · have yzl : (k : Int) < (p.val.size : Int) := by omega
            have yz0 : (0 : Int) ≤ (k : Int) := by omega
            obtain ⟨c, hc⟩ : ∃ c : Int, (p.val[k].toNat : Int) = c := ⟨_, rfl⟩
            have HS : Hid ((D ++ escB (decide (k = 0)) (decide (k + 1 = p.val.size)) c) ++ shV (decide (k + 1 = 0)) ((nums p.val).drop (k + 1)) = shV true (nums p.val)) := by
              show _ = _
              have h1 := shV_step (nums p.val) k (by rw [nums_length]; exact hlt2)
              rw [nums_at p.val k hlt2, hc, nums_length] at h1
              rw [List.append_assoc, ← h1]
              exact unhide HD
            have HEL := hide (escB_len (decide (k = 0)) (decide (k + 1 = p.val.size)) c)
            have CA := hide (fun v W hO hB => appb_any w0.heap.size ((((Y ++ shR true (r.take i)) ++ nums p.nam) ++ nums ⟨#[61]⟩) ++ D) _ rfl v p.val k hlt2 c hc W hO hB (by rw [List.length_append, ← unhide HN3]; omega) (by omega))
            clear hc
            generalize escB (decide (k = 0)) (decide (k + 1 = p.val.size)) c = E at *
            go_wp2_with (go_at_call 33; refine (unhide CA _ _ (unhide LL).own (unhide LL).big).mono ?_; rintro e w5 ⟨v5, rfl, ho5, hg5, hx5⟩; have L5 := hide ((unhide LL).app hg5 ho5); clear ho5 hg5 hx5)
            go_roundw
            case rel => exact ⟨k + 1, D ++ E, by omega, by go_num, by rw [List.length_append]; have := (unhide HEL).2; omega, unhide HS, by rw [← List.append_assoc]; exact unhide L5⟩
            case measure => simp [intOf]; omega
          · have yzl : ¬ (k : Int) < (p.val.size : Int) := by omega
            have HE : Hid (D = shV true (nums p.val)) := by
              show _ = _
              have := unhide HD
              rw [List.drop_eq_nil_of_le (by rw [nums_length]; omega)] at this
              simpa [shV] using this
            go_wp2
            go_roundw
            case rel =>
              refine ⟨i + 1, by omega, by go_num, ?_, (unhide LL).bel⟩
              have ho := (unhide LL).own
              rw [unhide HE] at ho
              rw [unhide HY]
              have e61 : nums ⟨#[61]⟩ = [61] := rfl
              rw [e61] at ho
              unfold shP
              simpa using ho
            case measure => simp [intOf]; omega
      · have zi : (0 : Int) < (i : Int) := by omega
        have HNB : Hid (((wr.alloc (.cells #[.string p.nam, .string p.val] 44)).alloc (.cells #[.int .u8 43] 5)).heap[wr.heap.size + 1]? = some (.cells #[.int .u8 43] 5)) := by
          have := heap_new (wr.alloc (.cells #[.string p.nam, .string p.val] 44)) (.cells #[.int .u8 43] 5)
          show _ = _
          simpa using this
        have HY := hide (unhide HNX)
        rw [if_neg h0] at HY
        have hmp1 : N + 1 ≤ maxLen := by unfold maxLen; omega
        have hmp2 : (N + 1) * 1 ≤ 140737488355328 := by omega
        have HN1 : Hid (N + 1 = ((Y ++ shR true (r.take i)) ++ [43]).length) := by show _ = _; rw [List.length_append, ← unhide HN]; rfl
        have HN2 : Hid ((N + 1) + p.nam.size = (((Y ++ shR true (r.take i)) ++ [43]) ++ nums p.nam).length) := by show _ = _; rw [List.length_append, ← unhide HN1, nums_length]
        have HN3 : Hid ((N + 1) + p.nam.size + 1 = ((((Y ++ shR true (r.take i)) ++ [43]) ++ nums p.nam) ++ nums ⟨#[61]⟩).length) := by show _ = _; rw [List.length_append, ← unhide HN2]; rfl
        have ha1 : (N + 1) + p.nam.size ≤ maxLen := by unfold maxLen; omega
        have ha2 : (N + 1) + p.nam.size ≤ 140737488355328 := by omega
        have hb1 : (N + 1) + p.nam.size + 1 ≤ maxLen := by unfold maxLen; omega
        have hb2 : (N + 1) + p.nam.size + 1 ≤ 140737488355328 := by omega
        clear HNX h0
        go_wp2_with (first
          | (at_builtin; refine Lib.wpList_append_own_string _ rfl _ _ 55 9 rfl w0.heap.size 5 i0 Tryd.underlying55 Tryd.underlying9 hi hz0 hz1 hz2 _ ((N + 1) + p.nam.size) _ rfl (Ob.own (unhide HN2) (unhide L2).own) ⟨#[61]⟩ rfl hb1 hb2 (unhide L2).big ?_; intro v3 w3 hown hgrow hnil; clear hnil; have L3 := hide ((unhide L2).app hgrow (Ob.push_str (unhide HN2) hown)); clear hown hgrow; have k31 := (unhide L3).c1)
          | (at_builtin; refine Lib.wpList_append_own_string _ rfl _ _ 55 9 rfl w0.heap.size 5 i0 Tryd.underlying55 Tryd.underlying9 hi hz0 hz1 hz2 _ (N + 1) _ rfl (Ob.own (unhide HN1) (unhide L1).own) p.nam rfl ha1 ha2 (unhide L1).big ?_; intro v2 w2 hown hgrow hnil; clear hnil; have L2 := hide ((unhide L1).app hgrow (Ob.push_str (unhide HN1) hown)); clear hown hgrow)
          | (at_builtin; refine wpList_append_lies _ rfl _ _ 55 rfl w0.heap.size 5 i0 _ 1 1 Tryd.underlying55 hi hz0 hz1 hz2 rfl (by omega) _ N _ rfl (World.ownsRow.alloc (Ob.own (unhide HN) (unhide L0).own) _) ⟨wr.heap.size + 1, 0, none⟩ 1 1 [.int .u8 43] rfl rfl (World.news_of_block (cs := #[.int .u8 43]) (t := 5) (fr := (0, 0)) (unhide HNB)) (by simp [Value.oneCell']) (by omega) hmp1 hmp2 (by simp; omega) (wr.heap.size + 2) (by simp) ?_; intro g9 cap9 w9 hown hgrow hat hlt; have L1 := hide ((unhide L0).app (grown_new hgrow) (Ob.push (unhide HN) (Z := [43]) rfl hown)); have k10 := (unhide L1).c0; clear hown hgrow hat hlt))
        clear HN2
        go_loopw [0, 29] (fun vo vi ws => ∃ (k : Nat) (D : List Int), k ≤ p.val.size ∧ vi = .int .i64 (k : Int) ∧ D.length ≤ 3 * k ∧ Hid (D ++ shV (decide (k = 0)) ((nums p.val).drop k) = shV true (nums p.val)) ∧ Lb w0.heap.size wr.heap.size w0 p.nam p.val vo ((((Y ++ shR true (r.take i)) ++ [43]) ++ nums p.nam) ++ nums ⟨#[61]⟩ ++ D) ws) (fun _ i _ => p.val.size - (intOf i).toNat)
        case atStart => exact ⟨0, [], Nat.zero_le _, rfl, Nat.le_refl _, rfl, by rw [List.append_nil]; exact unhide L3⟩
        case round =>
          obtain ⟨k, D, hk, rfl, hD, HD, hL⟩ := hrel
          have LL := hide hL
          have ks1 := hL.c1
          clear hL
          by_cases hlt2 : k < p.val.size
          · have yzl : (k : Int) < (p.val.size : Int) := by omega
            have yz0 : (0 : Int) ≤ (k : Int) := by omega
            obtain ⟨c, hc⟩ : ∃ c : Int, (p.val[k].toNat : Int) = c := ⟨_, rfl⟩
            have HS : Hid ((D ++ escB (decide (k = 0)) (decide (k + 1 = p.val.size)) c) ++ shV (decide (k + 1 = 0)) ((nums p.val).drop (k + 1)) = shV true (nums p.val)) := by
              show _ = _
              have h1 := shV_step (nums p.val) k (by rw [nums_length]; exact hlt2)
              rw [nums_at p.val k hlt2, hc, nums_length] at h1
              rw [List.append_assoc, ← h1]
              exact unhide HD
            have HEL := hide (escB_len (decide (k = 0)) (decide (k + 1 = p.val.size)) c)
            have CA := hide (fun v W hO hB => appb_any w0.heap.size (((((Y ++ shR true (r.take i)) ++ [43]) ++ nums p.nam) ++ nums ⟨#[61]⟩) ++ D) _ rfl v p.val k hlt2 c hc W hO hB (by rw [List.length_append, ← unhide HN3]; omega) (by omega))
            clear hc
            generalize escB (decide (k = 0)) (decide (k + 1 = p.val.size)) c = E at *
            go_wp2_with (go_at_call 33; refine (unhide CA _ _ (unhide LL).own (unhide LL).big).mono ?_; rintro e w5 ⟨v5, rfl, ho5, hg5, hx5⟩; have L5 := hide ((unhide LL).app hg5 ho5); clear ho5 hg5 hx5)
            go_roundw
            case rel => exact ⟨k + 1, D ++ E, by omega, by go_num, by rw [List.length_append]; have := (unhide HEL).2; omega, unhide HS, by rw [← List.append_assoc]; exact unhide L5⟩
            case measure => simp [intOf]; omega
          · have yzl : ¬ (k : Int) < (p.val.size : Int) := by omega
            have HE : Hid (D = shV true (nums p.val)) := by
              show _ = _
              have := unhide HD
              rw [List.drop_eq_nil_of_le (by rw [nums_length]; omega)] at this
              simpa [shV] using this
            go_wp2
            go_roundw
            case rel =>
              refine ⟨i + 1, by omega, by go_num, ?_, (unhide LL).bel⟩
              have ho := (unhide LL).own
              rw [unhide HE] at ho
              rw [unhide HY]
              have e61 : nums ⟨#[61]⟩ = [61] := rfl
              rw [e61] at ho
              unfold shP
              simpa using ho
            case measure => simp [intOf]; omega
    · have hzl : ¬ (i : Int) < (r.length : Int) := by omega
      obtain rfl : i = r.length := by omega
      rw [List.take_length] at hE
      have HE := hide hE
      clear hE
      go_wp2
      go_ret
      exact ⟨_, rfl, unhide HE, hbr⟩
end Go.Proofs.YtnhojjheoafhaaaDoor
