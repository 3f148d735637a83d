/- The document's Show of layer 18. -/
import Derived.Test.YtpfpaponlmfofaaDoorRVal18
import Derived.Test.YtpfpaponlmfofaaDoorRChk18
import Derived.Test.YtpfpaponlmfofaaDoorQuietB
namespace Go.Proofs.YtpfpaponlmfofaaDoor
set_option maxRecDepth 100000
open Go.RowKit

theorem str_pair (D X : List Int) (p : Pr) : ((strOfNums D ++ p.nam) ++ (⟨#[61]⟩ : ByteArray)) ++ strOfNums X = strOfNums (D ++ (nums p.nam ++ (61 :: X))) := by
  have e : (⟨#[61]⟩ : ByteArray) = strOfNums [61] := by rfl
  have e2 : strOfNums (nums p.nam) = p.nam := strOfNums_nums _
  rw [e, ← e2, strOfNums_app, strOfNums_app, strOfNums_app, e2]
  simp
theorem str_one (D : List Int) (c : Int) (b : UInt8) (h : strOfNums [c] = ⟨#[b]⟩) : strOfNums D ++ (⟨#[b]⟩ : ByteArray) = strOfNums (D ++ [c]) := by
  rw [← h, strOfNums_app]
theorem s43 : strOfNums [43] = ⟨#[43]⟩ := by rfl
theorem s44 : strOfNums [44] = ⟨#[44]⟩ := by rfl
/-- What Show answers, the document's. -/
def rshS (n : List (List Pr)) : ByteArray := if okN n = true then strOfNums (shN true n) else ⟨#[]⟩
def rshE (n : List (List Pr)) : Int := if okN n = true then 0 else 220
set_option maxHeartbeats 6400000 in
theorem rshow_any (v : Value) (n : List (List Pr)) (w : World) (hV : NmV w v n) : Calls Tryd.prog 12 #[v] w fun e w' => e = .returned (.tuple #[.string (rshS n), .int .i64 (rshE n)]) ∧ Below w.heap.size w w' := by
  have mx : Tryd.prog.follows .mixedOrders = true := by kernel_rfl
  have CC := hide ((rcheck_any v n w hV).mono fun _ _ ⟨a, b⟩ => (⟨a, b.symm⟩ : _ ∧ w = _))
  cases hk : okN n
  · have e1 : rshS n = ⟨#[]⟩ := by unfold rshS; rw [hk]; rfl
    have e2 : rshE n = 220 := by unfold rshE; rw [hk]; rfl
    rw [e1, e2]
    rw [chk_no hk] at CC
    clear hk e1 e2
    go_enter Tryd.func12, Tryd.ntmps12
    go_wp2_with (go_at_call 14; refine (unhide CC).mono ?_; rintro e w3 ⟨rfl, rfl⟩)
    go_ret2
    exact ⟨rfl, Below.refl _ _⟩
  have e1 : rshS n = strOfNums (shN true n) := by unfold rshS; rw [hk]; rfl
  have e2 : rshE n = 0 := by unfold rshE; rw [hk]; rfl
  rw [e1, e2]
  rw [chk_yes hk] at CC
  obtain ⟨hn6, hsm⟩ := okN_sm hk
  clear hk e1 e2
  obtain ⟨a, cap, rfl, hcap, hn, hc⟩ := hV
  have HC := hide hc
  have HSM := hide hsm
  have CV := hide (fun s W (h : s.size ≤ 1000) => rvalue18_any s W h)
  clear hc hsm
  go_enter Tryd.func12, Tryd.ntmps12
  go_wp2_with (go_at_call 14; refine (unhide CC).mono ?_; rintro e w3 ⟨rfl, rfl⟩)
  clear CC
  go_loopw [4, 5] (fun vo vi wr => ∃ i : Nat, i ≤ n.length ∧ vi = .int .i64 (i : Int) ∧ (∃ X : List Int, vo = .string (strOfNums X) ∧ Hid (X = shN true (n.take i))) ∧ Below w.heap.size w wr) (fun _ i _ => n.length - (intOf i).toNat)
  case atStart => exact ⟨0, Nat.zero_le _, rfl, ⟨[], rfl, rfl⟩, Below.refl _ _⟩
  case round =>
    obtain ⟨i, hile, rfl, ⟨T, rfl, HT⟩, hbr⟩ := hrel
    by_cases hlt : i < n.length
    · have hzl : (i : Int) < (n.length : Int) := by omega
      have hz0' : (0 : Int) ≤ (i : Int) := by omega
      obtain ⟨b, off, rfl, hcc⟩ := unhide HC (by omega)
      obtain ⟨rv, q1, a2, cap2, rfl, hn2, hc2⟩ := hcc i hlt
      have Q1 := hide q1
      replace q1 := (hbr.cell (cell_lt q1)).trans q1
      have HC2 := hide hc2
      clear hcc hc2
      have HNX := hide (shN_next n i hlt)
      obtain ⟨hs1, hs2⟩ := unhide HSM _ (getD_memR n i hlt)
      have HS2 := hide hs2
      clear hs2
      have hTl : T.length ≤ 3655 * i := by
        rw [unhide HT]
        have := shN_len (n.take i) true (fun p hp => unhide HSM p (List.mem_of_mem_take hp))
        rw [List.length_take] at this
        omega
      generalize n.getD i [] = r at *
      rw [← unhide HT] at HNX
      clear HT
      by_cases h0 : i = 0
      · have HNY := hide (unhide HNX)
        rw [if_pos h0] at HNY
        have zi : ¬ (0 : Int) < (i : Int) := by omega
        obtain ⟨T2, hT2⟩ : ∃ T2, T2 = T ++ [] := ⟨_, rfl⟩
        have hT2l : T2.length ≤ 30000 := by rw [hT2]; simp; omega
        rw [List.append_nil] at hT2
        subst hT2
        have HT2 : Hid (T2 = T2) := rfl
        clear HNX h0
        go_wp2
        go_loopw [4, 6] (fun vo vk ws => ∃ (k : Nat) (X : List Int), k ≤ r.length ∧ vk = .int .i64 (k : Int) ∧ vo = .string (strOfNums X) ∧ Hid (X = T2 ++ shR true (r.take k)) ∧ Below w.heap.size w ws) (fun _ k _ => r.length - (intOf k).toNat)
        case atStart => exact ⟨0, T2, Nat.zero_le _, rfl, rfl, by show _ = _; simp [shR], hbr⟩
        case round =>
          obtain ⟨k, X, hkl, rfl, rfl, HX, hb2⟩ := hrel
          have q1 := (hb2.cell (cell_lt (unhide Q1))).trans (unhide Q1)
          by_cases hlt2 : k < r.length
          · have yzl : (k : Int) < (r.length : Int) := by omega
            have yz0 : (0 : Int) ≤ (k : Int) := by omega
            obtain ⟨b3, o3, rfl, hp1⟩ := unhide HC2 (by omega)
            obtain ⟨p1, p2⟩ := hp1 k hlt2
            replace p1 := (hb2.cell (cell_lt p1)).trans p1
            replace p2 := (hb2.cell (cell_lt p2)).trans p2
            clear hp1
            have HRX := hide (shR_next r k hlt2)
            obtain ⟨hpn, hpv⟩ := unhide HS2 _ (getD_memP r k hlt2)
            have hXl : X.length ≤ 40000 := by
              rw [unhide HX, List.length_append]
              have := shR_len (r.take k) true (fun p hp => unhide HS2 p (List.mem_of_mem_take hp))
              rw [List.length_take] at this
              omega
            generalize r.getD k pr0 = p at *
            have CP := hide (fun W => unhide CV p.val W (by omega))
            have hVl := shV_len (nums p.val) true
            rw [nums_length] at hVl
            have HVP : Hid (shP p = nums p.nam ++ (61 :: shV true (nums p.val))) := rfl
            generalize shV true (nums p.val) = V at *
            have e43 : (ByteArray.mk #[43]).size = 1 := rfl
            have e61 : (ByteArray.mk #[61]).size = 1 := rfl
            by_cases k0 : k = 0
            · have HRY := hide (unhide HRX)
              rw [if_pos k0] at HRY
              have zk : ¬ (0 : Int) < (k : Int) := by omega
              obtain ⟨Z, hZ⟩ : ∃ Z, Z = X ++ (nums p.nam ++ (61 :: V)) := ⟨_, rfl⟩
              have hsp : ((strOfNums X ++ p.nam) ++ (⟨#[61]⟩ : ByteArray)) ++ strOfNums V = strOfNums Z := by rw [hZ]; exact str_pair X V p
              have HZ : Hid (Z = T2 ++ shR true (r.take (k + 1))) := by
                show _ = _
                rw [hZ, unhide HRY, unhide HVP, unhide HX]
                simp
              have hy1 : (strOfNums X).size + p.nam.size ≤ 9223372036854775807 := by rw [strOfNums_size]; omega
              have hy2 : (strOfNums X ++ p.nam).size + (ByteArray.mk #[61]).size ≤ 9223372036854775807 := by rw [ByteArray.size_append, strOfNums_size, e61]; omega
              have hy3 : ((strOfNums X ++ p.nam) ++ (ByteArray.mk #[61])).size + (strOfNums V).size ≤ 9223372036854775807 := by rw [ByteArray.size_append, ByteArray.size_append, strOfNums_size, strOfNums_size, e61]; omega
              clear e43 e61 HRX k0 hZ HX HVP HRY
              go_wp2
              replace q1 := cell_bb q1
              replace p1 := cell_bb p1
              replace p2 := cell_bb p2
              refine wp_region_below (by first | exact mx | assumption) (by kernel_rfl) ?_
              intro nebb
              repeat (go_big_quiet_step ((go_at_call 28; exact callsBB (unhide CP _))))
              refine wpQuiet_nil ?_
              intro _ hw'
              obtain ⟨pq, hw''⟩ := hw'
              subst hw''
              have bq := pq.b
              generalize pq.W = wq at *
              go_wp2
              go_roundw
              case rel => exact ⟨k + 1, Z, by omega, by go_num, by first | rfl | rw [hsp], unhide HZ, hb2.trans (bq.mono hb2.size)⟩
              case measure => simp [intOf]; omega
            · have HRY := hide (unhide HRX)
              rw [if_neg k0] at HRY
              have zk : (0 : Int) < (k : Int) := by omega
              obtain ⟨Y, hY⟩ : ∃ Y, Y = X ++ [43] := ⟨_, rfl⟩
              have hst : strOfNums X ++ (⟨#[43]⟩ : ByteArray) = strOfNums Y := by rw [hY]; exact str_one X 43 43 s43
              have hYl : Y.length ≤ 40001 := by rw [hY]; simp; omega
              have HY := hide hY
              clear hY
              have hy0 : (strOfNums X).size + (ByteArray.mk #[43]).size ≤ 9223372036854775807 := by rw [strOfNums_size, e43]; omega
              obtain ⟨Z, hZ⟩ : ∃ Z, Z = Y ++ (nums p.nam ++ (61 :: V)) := ⟨_, rfl⟩
              have hsp : ((strOfNums Y ++ p.nam) ++ (⟨#[61]⟩ : ByteArray)) ++ strOfNums V = strOfNums Z := by rw [hZ]; exact str_pair Y V p
              have HZ : Hid (Z = T2 ++ shR true (r.take (k + 1))) := by
                show _ = _
                rw [hZ, unhide HRY, unhide HVP, unhide HY, unhide HX]
                simp
              have hy1 : (strOfNums Y).size + p.nam.size ≤ 9223372036854775807 := by rw [strOfNums_size]; omega
              have hy2 : (strOfNums Y ++ p.nam).size + (ByteArray.mk #[61]).size ≤ 9223372036854775807 := by rw [ByteArray.size_append, strOfNums_size, e61]; omega
              have hy3 : ((strOfNums Y ++ p.nam) ++ (ByteArray.mk #[61])).size + (strOfNums V).size ≤ 9223372036854775807 := by rw [ByteArray.size_append, ByteArray.size_append, strOfNums_size, strOfNums_size, e61]; omega
              clear e43 e61 HRX k0 hZ HX HVP HRY HY
              go_wp2
              replace q1 := cell_bb q1
              replace p1 := cell_bb p1
              replace p2 := cell_bb p2
              refine wp_region_below (by first | exact mx | assumption) (by kernel_rfl) ?_
              intro nebb
              repeat (go_big_quiet_step ((go_at_call 28; exact callsBB (unhide CP _))))
              refine wpQuiet_nil ?_
              intro _ hw'
              obtain ⟨pq, hw''⟩ := hw'
              subst hw''
              have bq := pq.b
              generalize pq.W = wq at *
              go_wp2
              go_roundw
              case rel => exact ⟨k + 1, Z, by omega, by go_num, by first | rfl | rw [hsp], unhide HZ, hb2.trans (bq.mono hb2.size)⟩
              case measure => simp [intOf]; omega
          · have yzl : ¬ (k : Int) < (r.length : Int) := by omega
            obtain rfl : k = r.length := by omega
            rw [List.take_length] at HX
            go_wp2
            go_roundw
            case rel => exact ⟨i + 1, by omega, by go_num, ⟨X, rfl, by show _ = _; rw [unhide HX, unhide HNY]; first | rfl | simp [unhide HT2]⟩, hb2⟩
            case measure => simp [intOf]; omega
      · have HNY := hide (unhide HNX)
        rw [if_neg h0] at HNY
        have zi : (0 : Int) < (i : Int) := by omega
        obtain ⟨T2, hT2⟩ : ∃ T2, T2 = T ++ [44] := ⟨_, rfl⟩
        have hT2l : T2.length ≤ 30000 := by rw [hT2]; simp; omega
        have zin : 0 < i := by omega
        have hst0 : strOfNums T ++ (⟨#[44]⟩ : ByteArray) = strOfNums T2 := by rw [hT2]; exact str_one T 44 44 s44
        have e44 : (ByteArray.mk #[44]).size = 1 := rfl
        have hy00 : (strOfNums T).size + (ByteArray.mk #[44]).size ≤ 9223372036854775807 := by rw [strOfNums_size, e44]; omega
        clear e44
        have HT2 := hide hT2
        clear hT2
        clear HNX h0
        go_wp2
        clear hst0 hy00
        go_loopw [4, 6] (fun vo vk ws => ∃ (k : Nat) (X : List Int), k ≤ r.length ∧ vk = .int .i64 (k : Int) ∧ vo = .string (strOfNums X) ∧ Hid (X = T2 ++ shR true (r.take k)) ∧ Below w.heap.size w ws) (fun _ k _ => r.length - (intOf k).toNat)
        case atStart => exact ⟨0, T2, Nat.zero_le _, rfl, rfl, by show _ = _; simp [shR], hbr⟩
        case round =>
          obtain ⟨k, X, hkl, rfl, rfl, HX, hb2⟩ := hrel
          have q1 := (hb2.cell (cell_lt (unhide Q1))).trans (unhide Q1)
          by_cases hlt2 : k < r.length
          · have yzl : (k : Int) < (r.length : Int) := by omega
            have yz0 : (0 : Int) ≤ (k : Int) := by omega
            obtain ⟨b3, o3, rfl, hp1⟩ := unhide HC2 (by omega)
            obtain ⟨p1, p2⟩ := hp1 k hlt2
            replace p1 := (hb2.cell (cell_lt p1)).trans p1
            replace p2 := (hb2.cell (cell_lt p2)).trans p2
            clear hp1
            have HRX := hide (shR_next r k hlt2)
            obtain ⟨hpn, hpv⟩ := unhide HS2 _ (getD_memP r k hlt2)
            have hXl : X.length ≤ 40000 := by
              rw [unhide HX, List.length_append]
              have := shR_len (r.take k) true (fun p hp => unhide HS2 p (List.mem_of_mem_take hp))
              rw [List.length_take] at this
              omega
            generalize r.getD k pr0 = p at *
            have CP := hide (fun W => unhide CV p.val W (by omega))
            have hVl := shV_len (nums p.val) true
            rw [nums_length] at hVl
            have HVP : Hid (shP p = nums p.nam ++ (61 :: shV true (nums p.val))) := rfl
            generalize shV true (nums p.val) = V at *
            have e43 : (ByteArray.mk #[43]).size = 1 := rfl
            have e61 : (ByteArray.mk #[61]).size = 1 := rfl
            by_cases k0 : k = 0
            · have HRY := hide (unhide HRX)
              rw [if_pos k0] at HRY
              have zk : ¬ (0 : Int) < (k : Int) := by omega
              obtain ⟨Z, hZ⟩ : ∃ Z, Z = X ++ (nums p.nam ++ (61 :: V)) := ⟨_, rfl⟩
              have hsp : ((strOfNums X ++ p.nam) ++ (⟨#[61]⟩ : ByteArray)) ++ strOfNums V = strOfNums Z := by rw [hZ]; exact str_pair X V p
              have HZ : Hid (Z = T2 ++ shR true (r.take (k + 1))) := by
                show _ = _
                rw [hZ, unhide HRY, unhide HVP, unhide HX]
                simp
              have hy1 : (strOfNums X).size + p.nam.size ≤ 9223372036854775807 := by rw [strOfNums_size]; omega
              have hy2 : (strOfNums X ++ p.nam).size + (ByteArray.mk #[61]).size ≤ 9223372036854775807 := by rw [ByteArray.size_append, strOfNums_size, e61]; omega
              have hy3 : ((strOfNums X ++ p.nam) ++ (ByteArray.mk #[61])).size + (strOfNums V).size ≤ 9223372036854775807 := by rw [ByteArray.size_append, ByteArray.size_append, strOfNums_size, strOfNums_size, e61]; omega
              clear e43 e61 HRX k0 hZ HX HVP HRY
              go_wp2
              replace q1 := cell_bb q1
              replace p1 := cell_bb p1
              replace p2 := cell_bb p2
              refine wp_region_below (by first | exact mx | assumption) (by kernel_rfl) ?_
              intro nebb
              repeat (go_big_quiet_step ((go_at_call 28; exact callsBB (unhide CP _))))
              refine wpQuiet_nil ?_
              intro _ hw'
              obtain ⟨pq, hw''⟩ := hw'
              subst hw''
              have bq := pq.b
              generalize pq.W = wq at *
              go_wp2
              go_roundw
              case rel => exact ⟨k + 1, Z, by omega, by go_num, by first | rfl | rw [hsp], unhide HZ, hb2.trans (bq.mono hb2.size)⟩
              case measure => simp [intOf]; omega
            · have HRY := hide (unhide HRX)
              rw [if_neg k0] at HRY
              have zk : (0 : Int) < (k : Int) := by omega
              obtain ⟨Y, hY⟩ : ∃ Y, Y = X ++ [43] := ⟨_, rfl⟩
              have hst : strOfNums X ++ (⟨#[43]⟩ : ByteArray) = strOfNums Y := by rw [hY]; exact str_one X 43 43 s43
              have hYl : Y.length ≤ 40001 := by rw [hY]; simp; omega
              have HY := hide hY
              clear hY
              have hy0 : (strOfNums X).size + (ByteArray.mk #[43]).size ≤ 9223372036854775807 := by rw [strOfNums_size, e43]; omega
              obtain ⟨Z, hZ⟩ : ∃ Z, Z = Y ++ (nums p.nam ++ (61 :: V)) := ⟨_, rfl⟩
              have hsp : ((strOfNums Y ++ p.nam) ++ (⟨#[61]⟩ : ByteArray)) ++ strOfNums V = strOfNums Z := by rw [hZ]; exact str_pair Y V p
              have HZ : Hid (Z = T2 ++ shR true (r.take (k + 1))) := by
                show _ = _
                rw [hZ, unhide HRY, unhide HVP, unhide HY, unhide HX]
                simp
              have hy1 : (strOfNums Y).size + p.nam.size ≤ 9223372036854775807 := by rw [strOfNums_size]; omega
              have hy2 : (strOfNums Y ++ p.nam).size + (ByteArray.mk #[61]).size ≤ 9223372036854775807 := by rw [ByteArray.size_append, strOfNums_size, e61]; omega
              have hy3 : ((strOfNums Y ++ p.nam) ++ (ByteArray.mk #[61])).size + (strOfNums V).size ≤ 9223372036854775807 := by rw [ByteArray.size_append, ByteArray.size_append, strOfNums_size, strOfNums_size, e61]; omega
              clear e43 e61 HRX k0 hZ HX HVP HRY HY
              go_wp2
              replace q1 := cell_bb q1
              replace p1 := cell_bb p1
              replace p2 := cell_bb p2
              refine wp_region_below (by first | exact mx | assumption) (by kernel_rfl) ?_
              intro nebb
              repeat (go_big_quiet_step ((go_at_call 28; exact callsBB (unhide CP _))))
              refine wpQuiet_nil ?_
              intro _ hw'
              obtain ⟨pq, hw''⟩ := hw'
              subst hw''
              have bq := pq.b
              generalize pq.W = wq at *
              go_wp2
              go_roundw
              case rel => exact ⟨k + 1, Z, by omega, by go_num, by first | rfl | rw [hsp], unhide HZ, hb2.trans (bq.mono hb2.size)⟩
              case measure => simp [intOf]; omega
          · have yzl : ¬ (k : Int) < (r.length : Int) := by omega
            obtain rfl : k = r.length := by omega
            rw [List.take_length] at HX
            go_wp2
            go_roundw
            case rel => exact ⟨i + 1, by omega, by go_num, ⟨X, rfl, by show _ = _; rw [unhide HX, unhide HNY]; first | rfl | simp [unhide HT2]⟩, hb2⟩
            case measure => simp [intOf]; omega
    · have hzl : ¬ (i : Int) < (n.length : Int) := by omega
      obtain rfl : i = n.length := by omega
      have HE : Hid (T = shN true n) := by
        have := unhide HT
        rwa [List.take_length] at this
      go_wp2
      go_ret2
      exact ⟨by rw [unhide HE]; rfl, hbr⟩
end Go.Proofs.YtpfpaponlmfofaaDoor
