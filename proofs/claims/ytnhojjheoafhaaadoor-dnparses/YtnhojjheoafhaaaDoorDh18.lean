/- The landed readByte of layer 18. -/
import Derived.Test.YtnhojjheoafhaaaDoorDg18
namespace Go.Proofs.YtnhojjheoafhaaaDoor
set_option maxRecDepth 100000
open Go.RowKit

set_option maxHeartbeats 1600000 in
theorem pu_yes (s : ByteArray) (hs : s.size = 2) (x : Int) (w : World) (h : hexG (nums s) 0 = some x) : Calls Tryd.prog 40 #[.string s, .int .i64 16, .int .i64 8] w fun e w' => e = .returned (.tuple #[.int .u64 x, .nilIface]) ∧ Below w.heap.size w w' := by
  have CI := hide (ipu_any s hs w)
  rw [h] at CI
  clear h
  go_enter Tryd.func40, Tryd.ntmps40
  go_wp2_with (go_at_call 45; refine (unhide CI).mono ?_; rintro e w3 ⟨rfl, b3⟩; unfold puR)
  go_ret2
  exact ⟨rfl, b3⟩
set_option maxHeartbeats 1600000 in
theorem pu_no (s : ByteArray) (hs : s.size = 2) (w : World) (hL : Ly w) (h : hexG (nums s) 0 = none) : Calls Tryd.prog 40 #[.string s, .int .i64 16, .int .i64 8] w fun e w' => ∃ t p, e = .returned (.tuple #[.int .u64 0, .iface t p]) ∧ Below w.heap.size w w' := by
  have CI := hide (ipu_any s hs w)
  rw [h] at CI
  have HL := hide hL
  have CT := hide (fun fn W hL => toerr_any fn s W hL (by omega))
  clear h hL
  go_enter Tryd.func40, Tryd.ntmps40
  go_wp2_with (first
    | (go_at_call 46; refine (unhide CT _ _ ((unhide HL).keep b3)).mono ?_; rintro e w4 ⟨t4, p4, rfl, b4⟩)
    | (go_at_call 45; refine (unhide CI).mono ?_; rintro e w3 ⟨rfl, b3⟩; unfold puR))
  go_ret2
  exact ⟨_, _, rfl, b3.trans (b4.mono b3.size)⟩
/-- The byte that a value's text begins with, and how many bytes are its own (none: 0). -/
def rdB (l : List Int) : Int × Int :=
  if l.getD 0 0 ≠ 92 then (if sgn (l.getD 0 0) = true then (0, 0) else (l.getD 0 0, 1))
  else if 1 < l.length ∧ esc (l.getD 1 0) = true then (l.getD 1 0, 2)
  else if 2 < l.length then ((hexG [l.getD 1 0, l.getD 2 0] 0).getD 0, if (hexG [l.getD 1 0, l.getD 2 0] 0).isSome = true then 3 else 0)
  else (0, 0)
theorem unh_nn (c : Int) : 0 ≤ unh c := by
  unfold unh
  repeat' split
  all_goals omega
theorem hexG_in {d e x : Int} (h : hexG [d, e] 0 = some x) : 0 ≤ x ∧ x < 256 ∧ unh d < 16 ∧ unh e < 16 ∧ x = 16 * unh d + unh e := by
  unfold hexG hexG hexG at h
  have h1 := unh_nn d
  have h2 := unh_nn e
  split at h
  · split at h
    · have := Option.some.inj h
      omega
    · cases h
  · cases h
theorem rd_sgn {l : List Int} (h : l.getD 0 0 ≠ 92) (hs : sgn (l.getD 0 0) = true) : rdB l = (0, 0) := by
  unfold rdB
  rw [if_pos h, if_pos hs]
theorem rd_bare {l : List Int} (h : l.getD 0 0 ≠ 92) (hs : sgn (l.getD 0 0) = false) : rdB l = (l.getD 0 0, 1) := by
  unfold rdB
  rw [if_pos h, if_neg (by rw [hs]; decide)]
theorem rd_esc {l : List Int} (h : l.getD 0 0 = 92) (h1 : 1 < l.length) (hs : esc (l.getD 1 0) = true) : rdB l = (l.getD 1 0, 2) := by
  unfold rdB
  rw [if_neg (by omega), if_pos ⟨h1, hs⟩]
theorem rd_hex {l : List Int} {x : Int} (h : l.getD 0 0 = 92) (h1 : 2 < l.length) (hs : esc (l.getD 1 0) = false) (hx : hexG [l.getD 1 0, l.getD 2 0] 0 = some x) : rdB l = (x, 3) := by
  unfold rdB
  rw [if_neg (by omega), if_neg (by rw [hs]; simp), if_pos h1, hx]
  rfl
theorem rd_none {l : List Int} (h : l.getD 0 0 = 92) (h1 : 2 < l.length) (hs : esc (l.getD 1 0) = false) (hx : hexG [l.getD 1 0, l.getD 2 0] 0 = none) : rdB l = (0, 0) := by
  unfold rdB
  rw [if_neg (by omega), if_neg (by rw [hs]; simp), if_pos h1, hx]
  rfl
theorem rd_short {l : List Int} (h : l.getD 0 0 = 92) (h1 : ¬ 2 < l.length) (hs : ¬ (1 < l.length ∧ esc (l.getD 1 0) = true)) : rdB l = (0, 0) := by
  unfold rdB
  rw [if_neg (by omega), if_neg hs, if_neg h1]
theorem two_of (l : List Int) (h : 2 < l.length) : ((l.drop 1).take 2) = [l.getD 1 0, l.getD 2 0] := by
  match l, h with
  | [_], h => simp at h
  | [_, _], h => simp at h
  | a :: b :: c :: t, _ => simp
set_option maxHeartbeats 3200000 in
theorem rbyte_any (s : ByteArray) (w : World) (hL : Ly w) (h0 : 0 < s.size) : Calls Tryd.prog 36 #[.string s] w fun e w' => e = .returned (.tuple #[.int .u8 (rdB (nums s)).1, .int .i64 (rdB (nums s)).2]) ∧ Below w.heap.size w w' := by
  have hat := nums_at s 0 h0
  obtain ⟨c, hc⟩ : ∃ c : Int, (s[0].toNat : Int) = c := ⟨_, rfl⟩
  rw [hc] at hat
  have cb := getD_nums s 0
  rw [hat] at cb
  have z00 : (0 : Int) < (s.size : Int) := by omega
  have HX := hide (ix_sgn c cb.1 cb.2)
  have HI := hide (ixb_any ⟨#[44, 43, 34, 92, 60, 62, 59, 61]⟩ c w)
  have hnl := nums_length s
  by_cases h92 : c = 92
  · subst h92
    clear HX HI
    by_cases h1 : 1 < s.size
    · have z1 : (1 : Int) < (s.size : Int) := by omega
      have hat1 := nums_at s 1 h1
      obtain ⟨d, hd⟩ : ∃ c : Int, (s[1].toNat : Int) = c := ⟨_, rfl⟩
      rw [hd] at hat1
      have db := getD_nums s 1
      rw [hat1] at db
      have hx := ix_esc d db.1 db.2
      have HI := hide (ixb_any ⟨#[44, 43, 34, 92, 60, 62, 59, 61, 32, 35]⟩ d w)
      cases he : esc d
      · rw [he, decide_eq_false_iff_not] at hx
        by_cases h2 : 2 < s.size
        · have z2 : (2 : Int) < (s.size : Int) := by omega
          have z3 : (3 : Int) ≤ (s.size : Int) := by omega
          have hz : (s.extract 1 3).size = 2 := by rw [ByteArray.size_extract]; omega
          have hnn : nums (s.extract 1 3) = [(nums s).getD 1 0, (nums s).getD 2 0] := by rw [nums_sub]; exact two_of _ (by omega)
          cases hg : hexG [(nums s).getD 1 0, (nums s).getD 2 0] 0 with
          | none =>
            rw [rd_none hat (by omega) (by rw [hat1]; exact he) hg]
            have CP := hide (pu_no (s.extract 1 3) hz w hL (by rw [hnn]; exact hg))
            clear hat hat1 hnl hnn hz hg cb db he
            generalize Lib.indexByte _ _ = q at *
            go_enter Tryd.func36, Tryd.ntmps36
            go_wp2_with (first
              | (go_at_call 40; refine (unhide CP).mono ?_; rintro e w4 ⟨t4, p4, rfl, b4⟩)
              | (go_at_call 37; refine (unhide HI).mono ?_; rintro e w3 ⟨rfl, rfl⟩))
            go_ret2
            exact ⟨rfl, b4⟩
          | some x =>
            have x0 := (hexG_in hg).1
            have x1 := (hexG_in hg).2.1
            rw [rd_hex hat (by omega) (by rw [hat1]; exact he) hg]
            have CP := hide (pu_yes (s.extract 1 3) hz x w (by rw [hnn]; exact hg))
            have wx : IntKind.u8.wrap x = x := u8w x0 x1
            clear hat hat1 hnl hnn hz hg cb db he
            generalize Lib.indexByte _ _ = q at *
            go_enter Tryd.func36, Tryd.ntmps36
            go_wp2_with (first
              | (go_at_call 40; refine (unhide CP).mono ?_; rintro e w4 ⟨rfl, b4⟩)
              | (go_at_call 37; refine (unhide HI).mono ?_; rintro e w3 ⟨rfl, rfl⟩))
            go_ret2
            exact ⟨rfl, b4⟩
        · have z2 : ¬ (2 : Int) < (s.size : Int) := by omega
          rw [rd_short hat (by omega) (by rw [hat1, he]; simp)]
          clear hat hat1 hnl cb db he
          generalize Lib.indexByte _ _ = q at *
          go_enter Tryd.func36, Tryd.ntmps36
          go_wp2_with (go_at_call 37; refine (unhide HI).mono ?_; rintro e w3 ⟨rfl, rfl⟩)
          go_ret2
          exact ⟨rfl, Below.refl _ _⟩
      · rw [he, decide_eq_true_eq] at hx
        rw [rd_esc hat (by omega) (by rw [hat1]; exact he), hat1]
        clear hat hat1 hnl cb db he
        generalize Lib.indexByte _ _ = q at *
        go_enter Tryd.func36, Tryd.ntmps36
        go_wp2_with (go_at_call 37; refine (unhide HI).mono ?_; rintro e w3 ⟨rfl, rfl⟩)
        go_ret2
        exact ⟨rfl, Below.refl _ _⟩
    · have z1 : ¬ (1 : Int) < (s.size : Int) := by omega
      have z2 : ¬ (2 : Int) < (s.size : Int) := by omega
      rw [rd_short hat (by omega) (by omega)]
      clear hat hnl cb
      go_enter Tryd.func36, Tryd.ntmps36
      go_wp2
      go_ret2
      exact ⟨rfl, Below.refl _ _⟩
  · have hne : (c == 92) = false := by rw [beq_eq_false_iff_ne]; exact h92
    have hx := unhide HX
    cases he : sgn c
    · rw [he, decide_eq_false_iff_not] at hx
      rw [rd_bare (by rw [hat]; exact h92) (by rw [hat]; exact he), hat]
      clear hat hnl cb he HX
      generalize Lib.indexByte _ _ = q at *
      go_enter Tryd.func36, Tryd.ntmps36
      go_wp2_with (go_at_call 37; refine (unhide HI).mono ?_; rintro e w3 ⟨rfl, rfl⟩)
      go_ret2
      exact ⟨rfl, Below.refl _ _⟩
    · rw [he, decide_eq_true_eq] at hx
      rw [rd_sgn (by rw [hat]; exact h92) (by rw [hat]; exact he)]
      clear hat hnl cb he HX
      generalize Lib.indexByte _ _ = q at *
      go_enter Tryd.func36, Tryd.ntmps36
      go_wp2_with (go_at_call 37; refine (unhide HI).mono ?_; rintro e w3 ⟨rfl, rfl⟩)
      go_ret2
      exact ⟨rfl, Below.refl _ _⟩
end Go.Proofs.YtnhojjheoafhaaaDoor
