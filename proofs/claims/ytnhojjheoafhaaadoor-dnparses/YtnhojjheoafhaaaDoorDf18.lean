/- The landed Show of layer 18. -/
import Derived.Test.YtnhojjheoafhaaaDoorDe18
import Derived.Test.YtnhojjheoafhaaaDoorDb18
namespace Go.Proofs.YtnhojjheoafhaaaDoor
set_option maxRecDepth 100000
open Go.RowKit

theorem shS_yes {n : List (List Pr)} (h : okN n = true) : shS n = strOfNums (shN true n) := by unfold shS; rw [if_pos h]
theorem shS_no {n : List (List Pr)} (h : okN n = false) : shS n = ⟨#[]⟩ := by unfold shS; rw [h]; rfl
set_option maxHeartbeats 6400000 in
theorem show_any (v : Value) (n : List (List Pr)) (w : World) (hV : NmV w v n) : Calls Tryd.prog 15 #[v] w fun e w' => e = .returned (.tuple #[.string (shS n), .int .i64 (chkN n)]) ∧ Below w.heap.size w w' := by
  obtain ⟨i0, hi, hz0, hz1, hz2⟩ := info_parts u8_info
  have CC := hide (check_any v n w hV)
  cases hk : okN n
  · rw [shS_no hk]
    rw [chk_no hk] at CC ⊢
    clear hk
    go_enter Tryd.func15, Tryd.ntmps15
    go_wp2_with (go_at_call 11; refine (unhide CC).mono ?_; rintro e w3 ⟨rfl, g3⟩)
    go_ret2
    exact ⟨rfl, g3.below⟩
  rw [shS_yes hk]
  rw [chk_yes hk] at CC ⊢
  obtain ⟨hn6, hsm⟩ := okN_sm hk
  clear hk
  have HV := hide hV
  obtain ⟨a, cap, rfl, hcap, hn, _⟩ := hV
  have HSM := hide hsm
  clear hsm
  go_enter Tryd.func15, Tryd.ntmps15
  go_wp2_with (go_at_call 11; refine (unhide CC).mono ?_; rintro e w1 ⟨rfl, g1⟩)
  obtain ⟨_, _, hva, _, _, hc⟩ := (unhide HV).below g1.below
  cases hva
  have HC := hide hc
  clear hc CC HV
  go_loopw [5, 15] (fun vo vi wr => ∃ i : Nat, i ≤ n.length ∧ vi = .int .i64 (i : Int) ∧ Ob w1.heap.size vo (shN true (n.take i)) wr ∧ Below w1.heap.size w1 wr) (fun _ i _ => n.length - (intOf i).toNat)
  case atStart => exact ⟨0, Nat.zero_le _, rfl, ⟨rfl, .inl ⟨rfl, rfl⟩⟩, Below.refl _ _⟩
  case round =>
    obtain ⟨i, hile, rfl, hE, hbr⟩ := hrel
    have HO := hide hE
    clear hE
    have hB : w1.heap.size ≤ wr.heap.size := hbr.size
    by_cases hlt : i < n.length
    · have hzl : (i : Int) < (n.length : Int) := by omega
      have hz0' : (0 : Int) ≤ (i : Int) := by omega
      obtain ⟨b, off, rfl, hcc⟩ := unhide HC (by omega)
      obtain ⟨rv, q1, hP⟩ := hcc i hlt
      replace q1 := (hbr.cell (cell_lt q1)).trans q1
      have HP := hide hP
      clear hcc hP
      have HNX := hide (shN_next n i hlt)
      obtain ⟨hs1, hs2⟩ := unhide HSM _ (getD_memR n i hlt)
      have hTl : (shN true (n.take i)).length ≤ 3655 * i := by
        have := shN_len (n.take i) true (fun p hp => unhide HSM p (List.mem_of_mem_take hp))
        rw [List.length_take] at this
        omega
      obtain ⟨N, hN⟩ : ∃ N, N = (shN true (n.take i)).length := ⟨_, rfl⟩
      have hNl : N ≤ 30000 := by rw [hN]; omega
      have HN := hide hN
      clear hN
      generalize n.getD i [] = r at *
      by_cases h0 : i = 0
      · have zi : ¬ (0 : Int) < (i : Int) := by omega
        have HY := hide (unhide HNX)
        rw [if_pos h0] at HY
        have CA := hide (fun v W hO hb => appart_any w1 rv r (unhide HP) hs2 v (shN true (n.take i)) W hO hb (by rw [← unhide HN]; omega))
        clear HNX h0
        go_wp2_with (first
          | (go_at_call 23; refine (unhide CA _ _ (unhide HO) hbr).mono ?_; rintro e w5 ⟨v5, rfl, ho5, hb5⟩; have O5 := hide ho5; clear ho5))
        go_roundw
        case rel =>
          refine ⟨i + 1, by omega, by go_num, ?_, hb5⟩
          rw [unhide HY]
          simpa using unhide O5
        case measure => simp [intOf]; omega
      · have zi : (0 : Int) < (i : Int) := by omega
        have HY := hide (unhide HNX)
        rw [if_neg h0] at HY
        have hmp1 : N + 1 ≤ maxLen := by unfold maxLen; omega
        have hmp2 : (N + 1) * 1 ≤ 140737488355328 := by omega
        have CA := hide (fun v W hO hb => appart_any w1 rv r (unhide HP) hs2 v ((shN true (n.take i) ++ [44])) W hO hb (by rw [List.length_append, ← unhide HN]; simp; omega))
        clear HNX h0
        go_wp2_with (first
          | (go_at_call 23; refine (unhide CA _ _ (unhide O9) b9).mono ?_; rintro e w5 ⟨v5, rfl, ho5, hb5⟩; have O5 := hide ho5; clear ho5)
          | (at_builtin; refine wpList_append_lies _ rfl _ _ 55 rfl w1.heap.size 5 i0 _ 1 1 Tryd.underlying55 hi hz0 hz1 hz2 rfl (by omega) _ N _ rfl (World.ownsRow.alloc (Ob.own (unhide HN) (unhide HO)) _) ⟨wr.heap.size, 0, none⟩ 1 1 [.int .u8 44] rfl rfl (World.news_of_block (cs := #[.int .u8 44]) (t := 5) (fr := (0, 0)) (heap_new wr _)) (by simp [Value.oneCell']) (by omega) hmp1 hmp2 (by simp; omega) (wr.heap.size + 1) (by simp) ?_; intro g9 cap9 w9 hown hgrow hat hlt9; have O9 := hide (Ob.push (unhide HN) (Z := [44]) rfl hown); have b9 := hbr.trans (below_own (grown_new hgrow) hB (own_block (unhide HO))); clear hown hgrow hat hlt9))
        go_roundw
        case rel =>
          refine ⟨i + 1, by omega, by go_num, ?_, hb5⟩
          rw [unhide HY]
          simpa using unhide O5
        case measure => simp [intOf]; omega
    · have hzl : ¬ (i : Int) < (n.length : Int) := by omega
      obtain rfl : i = n.length := by omega
      rw [List.take_length] at HO
      have cv := (unhide HO).conv
      go_wp2
      go_ret2
      exact ⟨rfl, g1.below.trans (hbr.mono g1.size)⟩
end Go.Proofs.YtnhojjheoafhaaaDoor
