/- strconv.ParseUint of two bytes to the base 16. -/
import Derived.Test.YtefobkgifigclaaGreatDoorM28
import Derived.Test.YtefobkgifigclaaGreatDoorM29
namespace Go.Proofs.YtefobkgifigclaaGreatDoor.S18
set_option maxRecDepth 100000
open Go.RowKit

/-- The number of digits to the base 16, behind x. -/
def hexG : List Int → Int → Option Int
  | [], x => some x
  | c :: t, x => if unh c < 16 then hexG t (16 * x + unh c) else none
/-- A byte, made small. -/
def lwr (c : Int) : Int := bits .or .u8 c 32
theorem lwr_in (c : Int) (h0 : 0 ≤ c) (h1 : c < 256) : 0 ≤ lwr c ∧ lwr c < 256 ∧ ((97 ≤ lwr c ∧ lwr c ≤ 122) → ¬ (48 ≤ c ∧ c ≤ 57) ∧ (unh c = if lwr c < 103 then lwr c - 87 else 16)) ∧ (¬ (97 ≤ lwr c ∧ lwr c ≤ 122) → ¬ (48 ≤ c ∧ c ≤ 57) → unh c = 16) := by
  have h : ∀ c : Fin 256, 0 ≤ lwr (c.val : Int) ∧ lwr (c.val : Int) < 256 ∧ ((97 ≤ lwr (c.val : Int) ∧ lwr (c.val : Int) ≤ 122) → ¬ (48 ≤ (c.val : Int) ∧ (c.val : Int) ≤ 57) ∧ (unh (c.val : Int) = if lwr (c.val : Int) < 103 then lwr (c.val : Int) - 87 else 16)) ∧ (¬ (97 ≤ lwr (c.val : Int) ∧ lwr (c.val : Int) ≤ 122) → ¬ (48 ≤ (c.val : Int) ∧ (c.val : Int) ≤ 57) → unh (c.val : Int) = 16) := by decide +kernel
  have := h ⟨c.toNat, by omega⟩
  simpa only [Int.toNat_of_nonneg h0] using this
set_option maxHeartbeats 800000 in
theorem lower_any (c : Int) (w : World) : Calls Tryz.prog 99 #[.int .u8 c] w fun e w' => e = .returned (.int .u8 (lwr c)) ∧ w = w' := by
  have HE : Hid (bits .or .u8 c 32 = lwr c) := rfl
  generalize lwr c = x at *
  go_enter Tryz.func99, Tryz.ntmps99
  go_wp2
  go_ret
  exact ⟨ret_int (unhide HE), rfl⟩
theorem u64w {x : Int} (h0 : 0 ≤ x) (h1 : x < 1000000) : IntKind.u64.wrap x = x := by
  simp [IntKind.wrap, IntKind.bits, IntKind.signed]; omega
theorem u8w {x : Int} (h0 : 0 ≤ x) (h1 : x < 256) : IntKind.u8.wrap x = x := by
  simp [IntKind.wrap, IntKind.bits, IntKind.signed]; omega
/-- What is answered: the number, or an error. -/
def puR (o : Option Int) : Value := match o with
  | some x => .tuple #[.int .u64 x, .nilIface]
  | none => .tuple #[.int .u64 0, .iface 115 (.int .i64 2)]
set_option maxHeartbeats 6400000 in
theorem ipu_any (s : ByteArray) (hs : s.size = 2) (w : World) : Calls Tryz.prog 71 #[.string s, .int .i64 16, .int .i64 8] w fun e w' => e = .returned (puR (hexG (nums s) 0)) ∧ Below w.heap.size w w' := by
  obtain ⟨w1, cap1, hcv, hcell, hbel⟩ := bytes_new s w
  rw [hs] at hcv hcell
  have e0 := toList_some (show 0 < s.size by omega)
  have HC := hide hcell
  have BE := hide hbel
  have HL := hide lower_any
  have HN := hide (nums_length s)
  have HB := hide (getD_nums s)
  clear hcell hbel
  generalize nums s = l at *
  go_enter Tryz.func71, Tryz.ntmps71
  go_wp2
  go_loopw [12, 13, 101] (fun vu vn vi wr => ∃ (k : Nat) (x : Int), k ≤ 2 ∧ vi = .int .i64 (k : Int) ∧ vu = .bool false ∧ vn = .int .u64 x ∧ 0 ≤ x ∧ (k = 0 → x = 0) ∧ x < 256 ∧ (k ≤ 1 → x < 16) ∧ Hid (hexG l 0 = hexG (l.drop k) x) ∧ wr = w1) (fun _ _ i _ => 2 - (intOf i).toNat)
  case atStart => exact ⟨0, 0, by omega, rfl, rfl, rfl, by omega, fun _ => rfl, by omega, fun _ => by omega, rfl, rfl⟩
  case round =>
    obtain ⟨k, x, hk, rfl, rfl, rfl, hx0, hxk, hx1, hx2, HG, rfl⟩ := hrel
    by_cases hlt : k < 2
    · have hzl : (k : Int) < 2 := by omega
      have hz0 : (0 : Int) ≤ (k : Int) := by omega
      have q1 := unhide HC k hlt
      obtain ⟨c0, c1⟩ := unhide HB k
      have hx16 : x < 16 := hx2 (by omega)
      have HK1 : Hid (k + 1 ≤ 1 → x = 0) := fun h => hxk (by omega)
      have HST : Hid (hexG l 0 = if unh (l.getD k 0) < 16 then hexG (l.drop (k + 1)) (16 * x + unh (l.getD k 0)) else none) := by
        show _ = _
        rw [unhide HG, drop_consI l k (by rw [unhide HN, hs]; exact hlt)]
        rfl
      clear HG hx2 hxk
      generalize l.getD k 0 = c at *
      obtain ⟨m0, m1, m2, m3⟩ := lwr_in c c0 c1
      have HM2 := hide m2
      have HM3 := hide m3
      clear m2 m3
      have CL := hide (unhide HL c wr)
      have cx1 : ¬ 1152921504606846976 ≤ x := by omega
      have cx2 : IntKind.u64.wrap (x * 16) = x * 16 := u64w (by omega) (by omega)
      by_cases h95 : c = 95
      · subst h95
        have HE : Hid (hexG l 0 = none) := by show _ = _; rw [unhide HST]; rfl
        have e127 : lwr 95 = 127 := by decide +kernel
        rw [e127] at CL
        clear HST HM2 HM3 m0 m1 e127
        go_wp2_with (go_at_call 99; refine (unhide CL).mono ?_; rintro e w3 ⟨rfl, rfl⟩)
        go_ret2
        exact ⟨by rw [unhide HE]; rfl, unhide BE⟩
      have e7 : (c == 95) = false := by rw [beq_eq_false_iff_ne]; exact h95
      by_cases d : 48 ≤ c ∧ c ≤ 57
      · obtain ⟨d1, d2⟩ := d
        have HU : Hid (unh c = c - 48) := by show _ = _; unfold unh; rw [if_pos ⟨d1, d2⟩]
        have e1 : IntKind.u8.wrap (c - 48) = c - 48 := u8w (by omega) (by omega)
        have e2 : ¬ 16 ≤ c - 48 := by omega
        have e3 : IntKind.u64.wrap (c - 48) = c - 48 := u64w (by omega) (by omega)
        have e4 : IntKind.u64.wrap (x * 16 + (c - 48)) = x * 16 + (c - 48) := u64w (by omega) (by omega)
        have e5 : ¬ x * 16 + (c - 48) < x * 16 := by omega
        have e6 : ¬ 255 < x * 16 + (c - 48) := by omega
        go_wp2
        go_roundw
        case rel =>
          refine ⟨k + 1, x * 16 + (c - 48), by omega, by go_num, rfl, rfl, by omega, fun h => by omega, by omega, fun h => by have := unhide HK1 h; omega, ?_, trivial⟩
          show _ = _
          rw [unhide HST, unhide HU, if_pos (by omega), show 16 * x + (c - 48) = x * 16 + (c - 48) by omega]
        case measure => simp [intOf]; omega
      · have hd : ¬ 48 ≤ c ∨ (48 ≤ c ∧ ¬ c ≤ 57) := by omega
        by_cases g1 : 97 ≤ lwr c
        · by_cases g2 : lwr c ≤ 122
          · have HU := hide (unhide HM2 ⟨g1, g2⟩).2
            clear HM2 HM3
            generalize lwr c = y at *
            have e1 : IntKind.u8.wrap (y - 97) = y - 97 := u8w (by omega) (by omega)
            have e1' : IntKind.u8.wrap (y - 97 + 10) = y - 97 + 10 := u8w (by omega) (by omega)
            have e1'' : y - 97 + 10 = y - 87 := by omega
            by_cases g3 : y < 103
            · rw [if_pos g3] at HU
              have e2 : ¬ 16 ≤ y - 87 := by omega
              have e3 : IntKind.u64.wrap (y - 87) = y - 87 := u64w (by omega) (by omega)
              have e4 : IntKind.u64.wrap (x * 16 + (y - 87)) = x * 16 + (y - 87) := u64w (by omega) (by omega)
              have e5 : ¬ x * 16 + (y - 87) < x * 16 := by omega
              have e6 : ¬ 255 < x * 16 + (y - 87) := by omega
              have fin : Hid (hexG l 0 = hexG (l.drop (k + 1)) (x * 16 + (y - 87))) := by
                show _ = _
                rw [unhide HST, unhide HU, if_pos (by omega), show 16 * x + (y - 87) = x * 16 + (y - 87) by omega]
              rcases hd with hd | ⟨hd, hd2⟩
              · go_wp2_with (go_at_call 99; refine (unhide CL).mono ?_; rintro e w3 ⟨rfl, rfl⟩)
                go_roundw
                case rel => exact ⟨k + 1, x * 16 + (y - 87), by omega, by go_num, rfl, rfl, by omega, fun h => by omega, by omega, fun h => by have := unhide HK1 h; omega, unhide fin, trivial⟩
                case measure => simp [intOf]; omega
              · go_wp2_with (go_at_call 99; refine (unhide CL).mono ?_; rintro e w3 ⟨rfl, rfl⟩)
                go_roundw
                case rel => exact ⟨k + 1, x * 16 + (y - 87), by omega, by go_num, rfl, rfl, by omega, fun h => by omega, by omega, fun h => by have := unhide HK1 h; omega, unhide fin, trivial⟩
                case measure => simp [intOf]; omega
            · rw [if_neg g3] at HU
              have e2 : 16 ≤ y - 87 := by omega
              have HE : Hid (hexG l 0 = none) := by show _ = _; rw [unhide HST, unhide HU, if_neg (by omega)]
              rcases hd with hd | ⟨hd, hd2⟩
              · go_wp2_with (go_at_call 99; refine (unhide CL).mono ?_; rintro e w3 ⟨rfl, rfl⟩)
                go_ret2
                exact ⟨by rw [unhide HE]; rfl, unhide BE⟩
              · go_wp2_with (go_at_call 99; refine (unhide CL).mono ?_; rintro e w3 ⟨rfl, rfl⟩)
                go_ret2
                exact ⟨by rw [unhide HE]; rfl, unhide BE⟩
          · have HU := hide (unhide HM3 (by omega) d)
            have HE : Hid (hexG l 0 = none) := by show _ = _; rw [unhide HST, unhide HU, if_neg (by omega)]
            clear HM2 HM3 HU
            generalize lwr c = y at *
            rcases hd with hd | ⟨hd, hd2⟩
            · go_wp2_with (go_at_call 99; refine (unhide CL).mono ?_; rintro e w3 ⟨rfl, rfl⟩)
              go_ret2
              exact ⟨by rw [unhide HE]; rfl, unhide BE⟩
            · go_wp2_with (go_at_call 99; refine (unhide CL).mono ?_; rintro e w3 ⟨rfl, rfl⟩)
              go_ret2
              exact ⟨by rw [unhide HE]; rfl, unhide BE⟩
        · have HU := hide (unhide HM3 (by omega) d)
          have HE : Hid (hexG l 0 = none) := by show _ = _; rw [unhide HST, unhide HU, if_neg (by omega)]
          clear HM2 HM3 HU
          generalize lwr c = y at *
          rcases hd with hd | ⟨hd, hd2⟩
          · go_wp2_with (go_at_call 99; refine (unhide CL).mono ?_; rintro e w3 ⟨rfl, rfl⟩)
            go_ret2
            exact ⟨by rw [unhide HE]; rfl, unhide BE⟩
          · go_wp2_with (go_at_call 99; refine (unhide CL).mono ?_; rintro e w3 ⟨rfl, rfl⟩)
            go_ret2
            exact ⟨by rw [unhide HE]; rfl, unhide BE⟩
    · have hzl : ¬ (k : Int) < 2 := by omega
      have HE : Hid (hexG l 0 = some x) := by
        show _ = _
        rw [unhide HG, List.drop_eq_nil_of_le (by rw [unhide HN, hs]; omega)]
        rfl
      go_wp2
      go_ret2
      exact ⟨by rw [unhide HE]; rfl, unhide BE⟩
end Go.Proofs.YtefobkgifigclaaGreatDoor.S18
/- The landed readByte of layer 18. -/
namespace Go.Proofs.YtefobkgifigclaaGreatDoor.S18
set_option maxRecDepth 100000
open Go.RowKit

set_option maxHeartbeats 1600000 in
theorem pu_yes (s : ByteArray) (hs : s.size = 2) (x : Int) (w : World) (h : hexG (nums s) 0 = some x) : Calls Tryz.prog 214 #[.string s, .int .i64 16, .int .i64 8] w fun e w' => e = .returned (.tuple #[.int .u64 x, .nilIface]) ∧ Below w.heap.size w w' := by
  have CI := hide (ipu_any s hs w)
  rw [h] at CI
  clear h
  go_enter Tryz.func214, Tryz.ntmps214
  go_wp2_with (go_at_call 71; refine (unhide CI).mono ?_; rintro e w3 ⟨rfl, b3⟩; unfold puR)
  go_ret2
  exact ⟨rfl, b3⟩
set_option maxHeartbeats 1600000 in
theorem pu_no (s : ByteArray) (hs : s.size = 2) (w : World) (hL : Ly w) (h : hexG (nums s) 0 = none) : Calls Tryz.prog 214 #[.string s, .int .i64 16, .int .i64 8] w fun e w' => ∃ t p, e = .returned (.tuple #[.int .u64 0, .iface t p]) ∧ Below w.heap.size w w' := by
  have CI := hide (ipu_any s hs w)
  rw [h] at CI
  have HL := hide hL
  have CT := hide (fun fn W hL => toerr_any fn s W hL (by omega))
  clear h hL
  go_enter Tryz.func214, Tryz.ntmps214
  go_wp2_with (first
    | (go_at_call 46; refine (unhide CT _ _ ((unhide HL).keep b3)).mono ?_; rintro e w4 ⟨t4, p4, rfl, b4⟩)
    | (go_at_call 71; refine (unhide CI).mono ?_; rintro e w3 ⟨rfl, b3⟩; unfold puR))
  go_ret2
  exact ⟨_, _, rfl, b3.trans (b4.mono b3.size)⟩
/-- The byte that a value's text begins with, and how many bytes are its own (none: 0). -/
def rdB (l : List Int) : Int × Int :=
  if l.getD 0 0 ≠ 92 then (if sgn (l.getD 0 0) = true then (0, 0) else (l.getD 0 0, 1))
  else if 1 < l.length ∧ esc (l.getD 1 0) = true then (l.getD 1 0, 2)
  else if 2 < l.length then ((hexG [l.getD 1 0, l.getD 2 0] 0).getD 0, if (hexG [l.getD 1 0, l.getD 2 0] 0).isSome = true then 3 else 0)
  else (0, 0)
theorem unh_nn (c : Int) : 0 ≤ unh c := by
  unfold unh
  repeat' split
  all_goals omega
theorem hexG_in {d e x : Int} (h : hexG [d, e] 0 = some x) : 0 ≤ x ∧ x < 256 ∧ unh d < 16 ∧ unh e < 16 ∧ x = 16 * unh d + unh e := by
  unfold hexG hexG hexG at h
  have h1 := unh_nn d
  have h2 := unh_nn e
  split at h
  · split at h
    · have := Option.some.inj h
      omega
    · cases h
  · cases h
theorem rd_sgn {l : List Int} (h : l.getD 0 0 ≠ 92) (hs : sgn (l.getD 0 0) = true) : rdB l = (0, 0) := by
  unfold rdB
  rw [if_pos h, if_pos hs]
theorem rd_bare {l : List Int} (h : l.getD 0 0 ≠ 92) (hs : sgn (l.getD 0 0) = false) : rdB l = (l.getD 0 0, 1) := by
  unfold rdB
  rw [if_pos h, if_neg (by rw [hs]; decide)]
theorem rd_esc {l : List Int} (h : l.getD 0 0 = 92) (h1 : 1 < l.length) (hs : esc (l.getD 1 0) = true) : rdB l = (l.getD 1 0, 2) := by
  unfold rdB
  rw [if_neg (by omega), if_pos ⟨h1, hs⟩]
theorem rd_hex {l : List Int} {x : Int} (h : l.getD 0 0 = 92) (h1 : 2 < l.length) (hs : esc (l.getD 1 0) = false) (hx : hexG [l.getD 1 0, l.getD 2 0] 0 = some x) : rdB l = (x, 3) := by
  unfold rdB
  rw [if_neg (by omega), if_neg (by rw [hs]; simp), if_pos h1, hx]
  rfl
theorem rd_none {l : List Int} (h : l.getD 0 0 = 92) (h1 : 2 < l.length) (hs : esc (l.getD 1 0) = false) (hx : hexG [l.getD 1 0, l.getD 2 0] 0 = none) : rdB l = (0, 0) := by
  unfold rdB
  rw [if_neg (by omega), if_neg (by rw [hs]; simp), if_pos h1, hx]
  rfl
theorem rd_short {l : List Int} (h : l.getD 0 0 = 92) (h1 : ¬ 2 < l.length) (hs : ¬ (1 < l.length ∧ esc (l.getD 1 0) = true)) : rdB l = (0, 0) := by
  unfold rdB
  rw [if_neg (by omega), if_neg hs, if_neg h1]
theorem two_of (l : List Int) (h : 2 < l.length) : ((l.drop 1).take 2) = [l.getD 1 0, l.getD 2 0] := by
  match l, h with
  | [_], h => simp at h
  | [_, _], h => simp at h
  | a :: b :: c :: t, _ => simp
set_option maxHeartbeats 3200000 in
theorem rbyte_any (s : ByteArray) (w : World) (hL : Ly w) (h0 : 0 < s.size) : Calls Tryz.prog 184 #[.string s] w fun e w' => e = .returned (.tuple #[.int .u8 (rdB (nums s)).1, .int .i64 (rdB (nums s)).2]) ∧ Below w.heap.size w w' := by
  have hat := nums_at s 0 h0
  obtain ⟨c, hc⟩ : ∃ c : Int, (s[0].toNat : Int) = c := ⟨_, rfl⟩
  rw [hc] at hat
  have cb := getD_nums s 0
  rw [hat] at cb
  have z00 : (0 : Int) < (s.size : Int) := by omega
  have HX := hide (ix_sgn c cb.1 cb.2)
  have HI := hide (ixb_any ⟨#[44, 43, 34, 92, 60, 62, 59, 61]⟩ c w)
  have hnl := nums_length s
  by_cases h92 : c = 92
  · subst h92
    clear HX HI
    by_cases h1 : 1 < s.size
    · have z1 : (1 : Int) < (s.size : Int) := by omega
      have hat1 := nums_at s 1 h1
      obtain ⟨d, hd⟩ : ∃ c : Int, (s[1].toNat : Int) = c := ⟨_, rfl⟩
      rw [hd] at hat1
      have db := getD_nums s 1
      rw [hat1] at db
      have hx := ix_esc d db.1 db.2
      have HI := hide (ixb_any ⟨#[44, 43, 34, 92, 60, 62, 59, 61, 32, 35]⟩ d w)
      cases he : esc d
      · rw [he, decide_eq_false_iff_not] at hx
        by_cases h2 : 2 < s.size
        · have z2 : (2 : Int) < (s.size : Int) := by omega
          have z3 : (3 : Int) ≤ (s.size : Int) := by omega
          have hz : (s.extract 1 3).size = 2 := by rw [ByteArray.size_extract]; omega
          have hnn : nums (s.extract 1 3) = [(nums s).getD 1 0, (nums s).getD 2 0] := by rw [nums_sub]; exact two_of _ (by omega)
          cases hg : hexG [(nums s).getD 1 0, (nums s).getD 2 0] 0 with
          | none =>
            rw [rd_none hat (by omega) (by rw [hat1]; exact he) hg]
            have CP := hide (pu_no (s.extract 1 3) hz w hL (by rw [hnn]; exact hg))
            clear hat hat1 hnl hnn hz hg cb db he
            generalize Lib.indexByte _ _ = q at *
            go_enter Tryz.func184, Tryz.ntmps184
            go_wp2_with (first
              | (go_at_call 214; refine (unhide CP).mono ?_; rintro e w4 ⟨t4, p4, rfl, b4⟩)
              | (go_at_call 185; refine (unhide HI).mono ?_; rintro e w3 ⟨rfl, rfl⟩))
            go_ret2
            exact ⟨rfl, b4⟩
          | some x =>
            have x0 := (hexG_in hg).1
            have x1 := (hexG_in hg).2.1
            rw [rd_hex hat (by omega) (by rw [hat1]; exact he) hg]
            have CP := hide (pu_yes (s.extract 1 3) hz x w (by rw [hnn]; exact hg))
            have wx : IntKind.u8.wrap x = x := u8w x0 x1
            clear hat hat1 hnl hnn hz hg cb db he
            generalize Lib.indexByte _ _ = q at *
            go_enter Tryz.func184, Tryz.ntmps184
            go_wp2_with (first
              | (go_at_call 214; refine (unhide CP).mono ?_; rintro e w4 ⟨rfl, b4⟩)
              | (go_at_call 185; refine (unhide HI).mono ?_; rintro e w3 ⟨rfl, rfl⟩))
            go_ret2
            exact ⟨rfl, b4⟩
        · have z2 : ¬ (2 : Int) < (s.size : Int) := by omega
          rw [rd_short hat (by omega) (by rw [hat1, he]; simp)]
          clear hat hat1 hnl cb db he
          generalize Lib.indexByte _ _ = q at *
          go_enter Tryz.func184, Tryz.ntmps184
          go_wp2_with (go_at_call 185; refine (unhide HI).mono ?_; rintro e w3 ⟨rfl, rfl⟩)
          go_ret2
          exact ⟨rfl, Below.refl _ _⟩
      · rw [he, decide_eq_true_eq] at hx
        rw [rd_esc hat (by omega) (by rw [hat1]; exact he), hat1]
        clear hat hat1 hnl cb db he
        generalize Lib.indexByte _ _ = q at *
        go_enter Tryz.func184, Tryz.ntmps184
        go_wp2_with (go_at_call 185; refine (unhide HI).mono ?_; rintro e w3 ⟨rfl, rfl⟩)
        go_ret2
        exact ⟨rfl, Below.refl _ _⟩
    · have z1 : ¬ (1 : Int) < (s.size : Int) := by omega
      have z2 : ¬ (2 : Int) < (s.size : Int) := by omega
      rw [rd_short hat (by omega) (by omega)]
      clear hat hnl cb
      go_enter Tryz.func184, Tryz.ntmps184
      go_wp2
      go_ret2
      exact ⟨rfl, Below.refl _ _⟩
  · have hne : (c == 92) = false := by rw [beq_eq_false_iff_ne]; exact h92
    have hx := unhide HX
    cases he : sgn c
    · rw [he, decide_eq_false_iff_not] at hx
      rw [rd_bare (by rw [hat]; exact h92) (by rw [hat]; exact he), hat]
      clear hat hnl cb he HX
      generalize Lib.indexByte _ _ = q at *
      go_enter Tryz.func184, Tryz.ntmps184
      go_wp2_with (go_at_call 185; refine (unhide HI).mono ?_; rintro e w3 ⟨rfl, rfl⟩)
      go_ret2
      exact ⟨rfl, Below.refl _ _⟩
    · rw [he, decide_eq_true_eq] at hx
      rw [rd_sgn (by rw [hat]; exact h92) (by rw [hat]; exact he)]
      clear hat hnl cb he HX
      generalize Lib.indexByte _ _ = q at *
      go_enter Tryz.func184, Tryz.ntmps184
      go_wp2_with (go_at_call 185; refine (unhide HI).mono ?_; rintro e w3 ⟨rfl, rfl⟩)
      go_ret2
      exact ⟨rfl, Below.refl _ _⟩
end Go.Proofs.YtefobkgifigclaaGreatDoor.S18
/- A value's text, read byte by byte: the landed way is the plain one. -/
namespace Go.Proofs.YtefobkgifigclaaGreatDoor.S18
set_option maxRecDepth 100000
open Go.RowKit

theorem rd_size (l : List Int) (h : 0 < l.length) : ((rdB l).2 = 0 ∨ (rdB l).2 = 1 ∨ (rdB l).2 = 2 ∨ (rdB l).2 = 3) ∧ (rdB l).2 ≤ l.length ∧ ((rdB l).2 = 1 → (rdB l).1 = l.getD 0 0) := by
  unfold rdB
  repeat' split
  all_goals simp
  all_goals omega
theorem rd_in (l : List Int) (h : ∀ j, 0 ≤ l.getD j 0 ∧ l.getD j 0 < 256) : 0 ≤ (rdB l).1 ∧ (rdB l).1 < 256 := by
  unfold rdB
  split
  · split
    · simp
    · exact h 0
  · split
    · exact h 1
    · split
      · cases hg : hexG [l.getD 1 0, l.getD 2 0] 0 with
        | none => simp
        | some x => exact ⟨(hexG_in hg).1, (hexG_in hg).2.1⟩
      · simp
theorem hexG_yes {d e : Int} (h1 : unh d < 16) (h2 : unh e < 16) : hexG [d, e] 0 = some (16 * unh d + unh e) := by
  unfold hexG hexG hexG
  rw [if_pos h1, if_pos h2]
  simp
theorem hexG_no {d e : Int} (h : ¬ (unh d < 16 ∧ unh e < 16)) : hexG [d, e] 0 = none := by
  unfold hexG hexG hexG
  by_cases h1 : unh d < 16
  · rw [if_pos h1, if_neg (fun h2 => h ⟨h1, h2⟩)]
  · rw [if_neg h1]
/-- A step through a value's text. -/
theorem val_rd (f b : Bool) (l : List Int) (h : 0 < l.length) (h1 : ¬ (l.getD 0 0 = 44 ∨ l.getD 0 0 = 43)) :
    valL f b l = if (rdB l).2 = 0 ∨ (f = true ∧ (rdB l).2 = 1 ∧ ((rdB l).1 = 32 ∨ (rdB l).1 = 35)) then none
      else (valL false (decide ((rdB l).2 = 1 ∧ (rdB l).1 = 32)) (l.drop (rdB l).2.toNat)).map fun x => ((rdB l).1 :: x.1, x.2) := by
  match l, h with
  | c :: t, _ =>
    simp only [List.getD_cons_zero] at h1
    by_cases h92 : c = 92
    · subst h92
      match t with
      | [] => rw [val_one, rd_short (by rfl) (by simp) (by simp)]; simp
      | d :: u =>
        cases he : esc d
        · match u with
          | [] => rw [val_two f b he, rd_short (by rfl) (by simp) (by simp [he])]; simp
          | e :: r =>
            rw [val_hex f b e r he]
            by_cases hh : unh d < 16 ∧ unh e < 16
            · rw [if_pos hh, rd_hex (x := 16 * unh d + unh e) (by rfl) (by simp) (by simp [he]) (by simpa using hexG_yes hh.1 hh.2)]
              simp
            · rw [if_neg hh, rd_none (by rfl) (by simp) (by simp [he]) (by simpa using hexG_no hh)]
              simp
        · rw [val_esc f b u he, rd_esc (by rfl) (by simp) (by simp [he])]
          simp
    · rw [val_bare f b t h1 h92]
      cases hs : sgn c
      · rw [rd_bare (by simpa using h92) (by simpa using hs)]
        simp
      · rw [rd_sgn (by simpa using h92) (by simpa using hs)]
        simp
theorem val_end (f b : Bool) (l : List Int) (h : l.length = 0 ∨ l.getD 0 0 = 44 ∨ l.getD 0 0 = 43) : valL f b l = if b then none else some ([], l) := by
  cases l with
  | nil => exact val_nil f b
  | cons c t => exact val_sep f b t (by simpa using h)
/-- What readValue tells, against what is read. -/
def rvOk (l : List Int) (a r : ByteArray) (ok : Bool) : Prop := match valL true false l with
  | none => ok = false
  | some (v, x) => ok = true ∧ a = strOfNums v ∧ nums r = x
theorem rv_none {l : List Int} (h : valL true false l = none) (a r : ByteArray) : rvOk l a r false := by unfold rvOk; rw [h]
theorem rv_some {l v x : List Int} (h : valL true false l = some (v, x)) {r : ByteArray} (hr : nums r = x) : rvOk l (strOfNums v) r true := by unfold rvOk; rw [h]; exact ⟨rfl, rfl, hr⟩
/-- What was read so far, at the label. -/
def atL (l : List Int) (t : Nat) (bs : Bool) (out : List Int) : Prop := (valL (decide (t = 0)) bs (l.drop t)).map (fun x => (out ++ x.1, x.2)) = valL true false l
theorem atL_start (l : List Int) : atL l 0 false [] := by
  unfold atL
  rw [List.drop_zero, decide_eq_true rfl]
  cases valL true false l <;> rfl
theorem atL_end {l : List Int} {t : Nat} {bs : Bool} {out : List Int} (h : atL l t bs out) (he : l.length ≤ t ∨ l.getD t 0 = 44 ∨ l.getD t 0 = 43) : valL true false l = if bs then none else some (out, l.drop t) := by
  unfold atL at h
  rw [← h, val_end]
  · cases bs <;> simp
  · rcases he with he | he
    · exact .inl (by rw [List.length_drop]; omega)
    · exact .inr (by simpa [List.getD] using he)
theorem getD_drop (l : List Int) (t j : Nat) : (l.drop t).getD j 0 = l.getD (t + j) 0 := by simp [List.getD]
theorem atL_none {l : List Int} {t : Nat} {bs : Bool} {out : List Int} (h : atL l t bs out) (ht : t < l.length) (h1 : ¬ (l.getD t 0 = 44 ∨ l.getD t 0 = 43)) (h2 : (rdB (l.drop t)).2 = 0 ∨ (t = 0 ∧ (rdB (l.drop t)).2 = 1 ∧ ((rdB (l.drop t)).1 = 32 ∨ (rdB (l.drop t)).1 = 35))) : valL true false l = none := by
  unfold atL at h
  rw [← h, val_rd _ _ _ (by rw [List.length_drop]; omega) (by rw [getD_drop]; exact h1), if_pos]
  · rfl
  · rcases h2 with h2 | ⟨h2, h3⟩
    · exact .inl h2
    · exact .inr ⟨by simp [h2], h3⟩
theorem atL_step {l : List Int} {t : Nat} {bs : Bool} {out : List Int} (h : atL l t bs out) (ht : t < l.length) (h1 : ¬ (l.getD t 0 = 44 ∨ l.getD t 0 = 43)) (h2 : (rdB (l.drop t)).2 ≠ 0) (h3 : ¬ (t = 0 ∧ (rdB (l.drop t)).2 = 1 ∧ ((rdB (l.drop t)).1 = 32 ∨ (rdB (l.drop t)).1 = 35))) :
    atL l (t + (rdB (l.drop t)).2.toNat) (decide ((rdB (l.drop t)).2 = 1 ∧ (rdB (l.drop t)).1 = 32)) (out ++ [(rdB (l.drop t)).1]) := by
  have hz := (rd_size (l.drop t) (by rw [List.length_drop]; omega)).1
  unfold atL at h ⊢
  rw [← h, val_rd (decide (t = 0)) bs _ (by rw [List.length_drop]; omega) (by rw [getD_drop]; exact h1), if_neg, List.drop_drop, decide_eq_false (p := t + _ = 0) (by omega)]
  · generalize valL _ _ _ = o
    cases o <;> simp
  · intro h4
    rcases h4 with h4 | ⟨h4, h5⟩
    · exact h2 h4
    · exact h3 ⟨by simpa using h4, h5⟩
/-- All that is to be known of a byte that is read. -/
theorem rd_facts (s : ByteArray) (t : Nat) (bs : Bool) (out : List Int) (ha : atL (nums s) t bs out) (ht : t < s.size) (c : Int) (hc : (s[t].toNat : Int) = c) (h44 : ¬ c = 44) (h43 : ¬ c = 43) :
    ∃ B Z : Int, rdB ((nums s).drop t) = (B, Z) ∧ 0 ≤ B ∧ B < 256 ∧ 0 ≤ Z ∧ Z ≤ 3 ∧ (t : Int) + Z ≤ s.size ∧ ((Z = 0 ∨ (t = 0 ∧ Z = 1 ∧ (B = 32 ∨ B = 35))) → ∀ a r, rvOk (nums s) a r false) ∧
      (Z ≠ 0 → ¬ (t = 0 ∧ Z = 1 ∧ (B = 32 ∨ B = 35)) → ∀ T : Nat, (t : Int) + Z = T → atL (nums s) T ((Z == 1) && decide ((nums s).getD (T - 1) 0 = 32)) (out ++ [B])) := by
  have hnl := nums_length s
  have hat : (nums s).getD t 0 = c := by rw [nums_at s t ht]; exact hc
  obtain ⟨z1, z2, z3⟩ := rd_size ((nums s).drop t) (by rw [List.length_drop]; omega)
  rw [List.length_drop, hnl] at z2
  rw [getD_drop, Nat.add_zero] at z3
  obtain ⟨b1, b2⟩ := rd_in ((nums s).drop t) (fun j => by rw [getD_drop]; exact getD_nums s _)
  refine ⟨(rdB ((nums s).drop t)).1, (rdB ((nums s).drop t)).2, rfl, b1, b2, by omega, by omega, by omega, fun h a r => rv_none (atL_none ha (by omega) (by rw [hat]; omega) h) a r, fun h2 h3 T hT => ?_⟩
  have := atL_step ha (by omega) (by rw [hat]; omega) h2 h3
  generalize (rdB ((nums s).drop t)).1 = B at *
  generalize (rdB ((nums s).drop t)).2 = Z at *
  have e0 : t + Z.toNat = T := by omega
  rw [e0] at this
  by_cases h1 : Z = 1
  · have e1 : T - 1 = t := by omega
    rw [e1, ← z3 h1, h1]
    rw [h1] at this
    simpa using this
  · rw [decide_eq_false (fun h => h1 h.1)] at this
    rw [beq_eq_false_iff_ne.2 h1]
    exact this
end Go.Proofs.YtefobkgifigclaaGreatDoor.S18
