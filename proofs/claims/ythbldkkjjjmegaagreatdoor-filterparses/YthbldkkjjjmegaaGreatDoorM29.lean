/- strconv.ParseUint of two bytes to the base 16. -/
import Derived.Test.YthbldkkjjjmegaaGreatDoorM11
import Derived.Test.YthbldkkjjjmegaaGreatDoorM16
namespace Go.Proofs.YthbldkkjjjmegaaGreatDoor
set_option maxRecDepth 100000
open Go.RowKit

/-- The number of digits to the base 16, behind x. -/
def hexG : List Int → Int → Option Int
  | [], x => some x
  | c :: t, x => if unh c < 16 then hexG t (16 * x + unh c) else none
/-- A byte, made small. -/
def lwr (c : Int) : Int := bits .or .u8 c 32
theorem lwr_in (c : Int) (h0 : 0 ≤ c) (h1 : c < 256) : 0 ≤ lwr c ∧ lwr c < 256 ∧ ((97 ≤ lwr c ∧ lwr c ≤ 122) → ¬ (48 ≤ c ∧ c ≤ 57) ∧ (unh c = if lwr c < 103 then lwr c - 87 else 16)) ∧ (¬ (97 ≤ lwr c ∧ lwr c ≤ 122) → ¬ (48 ≤ c ∧ c ≤ 57) → unh c = 16) := by
  have h : ∀ c : Fin 256, 0 ≤ lwr (c.val : Int) ∧ lwr (c.val : Int) < 256 ∧ ((97 ≤ lwr (c.val : Int) ∧ lwr (c.val : Int) ≤ 122) → ¬ (48 ≤ (c.val : Int) ∧ (c.val : Int) ≤ 57) ∧ (unh (c.val : Int) = if lwr (c.val : Int) < 103 then lwr (c.val : Int) - 87 else 16)) ∧ (¬ (97 ≤ lwr (c.val : Int) ∧ lwr (c.val : Int) ≤ 122) → ¬ (48 ≤ (c.val : Int) ∧ (c.val : Int) ≤ 57) → unh (c.val : Int) = 16) := by decide +kernel
  have := h ⟨c.toNat, by omega⟩
  simpa only [Int.toNat_of_nonneg h0] using this
set_option maxHeartbeats 800000 in
theorem lower_any (c : Int) (w : World) : Calls Tryz.prog 90 #[.int .u8 c] w fun e w' => e = .returned (.int .u8 (lwr c)) ∧ w = w' := by
  have HE : Hid (bits .or .u8 c 32 = lwr c) := rfl
  generalize lwr c = x at *
  go_enter Tryz.func90, Tryz.ntmps90
  go_wp2
  go_ret
  exact ⟨ret_int (unhide HE), rfl⟩
theorem u64w {x : Int} (h0 : 0 ≤ x) (h1 : x < 1000000) : IntKind.u64.wrap x = x := by
  simp [IntKind.wrap, IntKind.bits, IntKind.signed]; omega
theorem u8w {x : Int} (h0 : 0 ≤ x) (h1 : x < 256) : IntKind.u8.wrap x = x := by
  simp [IntKind.wrap, IntKind.bits, IntKind.signed]; omega
/-- What is answered: the number, or an error. -/
def puR (o : Option Int) : Value := match o with
  | some x => .tuple #[.int .u64 x, .nilIface]
  | none => .tuple #[.int .u64 0, .iface 107 (.int .i64 2)]
set_option maxHeartbeats 6400000 in
theorem ipu_any (s : ByteArray) (hs : s.size = 2) (w : World) : Calls Tryz.prog 85 #[.string s, .int .i64 16, .int .i64 8] w fun e w' => e = .returned (puR (hexG (nums s) 0)) ∧ Below w.heap.size w w' := by
  obtain ⟨w1, cap1, hcv, hcell, hbel⟩ := bytes_new s w
  rw [hs] at hcv hcell
  have e0 := toList_some (show 0 < s.size by omega)
  have HC := hide hcell
  have BE := hide hbel
  have HL := hide lower_any
  have HN := hide (nums_length s)
  have HB := hide (getD_nums s)
  clear hcell hbel
  generalize nums s = l at *
  go_enter Tryz.func85, Tryz.ntmps85
  go_wp2
  go_loopw [12, 13, 101] (fun vu vn vi wr => ∃ (k : Nat) (x : Int), k ≤ 2 ∧ vi = .int .i64 (k : Int) ∧ vu = .bool false ∧ vn = .int .u64 x ∧ 0 ≤ x ∧ (k = 0 → x = 0) ∧ x < 256 ∧ (k ≤ 1 → x < 16) ∧ Hid (hexG l 0 = hexG (l.drop k) x) ∧ wr = w1) (fun _ _ i _ => 2 - (intOf i).toNat)
  case atStart => exact ⟨0, 0, by omega, rfl, rfl, rfl, by omega, fun _ => rfl, by omega, fun _ => by omega, rfl, rfl⟩
  case round =>
    obtain ⟨k, x, hk, rfl, rfl, rfl, hx0, hxk, hx1, hx2, HG, rfl⟩ := hrel
    by_cases hlt : k < 2
    · have hzl : (k : Int) < 2 := by omega
      have hz0 : (0 : Int) ≤ (k : Int) := by omega
      have q1 := unhide HC k hlt
      obtain ⟨c0, c1⟩ := unhide HB k
      have hx16 : x < 16 := hx2 (by omega)
      have HK1 : Hid (k + 1 ≤ 1 → x = 0) := fun h => hxk (by omega)
      have HST : Hid (hexG l 0 = if unh (l.getD k 0) < 16 then hexG (l.drop (k + 1)) (16 * x + unh (l.getD k 0)) else none) := by
        show _ = _
        rw [unhide HG, drop_consI l k (by rw [unhide HN, hs]; exact hlt)]
        rfl
      clear HG hx2 hxk
      generalize l.getD k 0 = c at *
      obtain ⟨m0, m1, m2, m3⟩ := lwr_in c c0 c1
      have HM2 := hide m2
      have HM3 := hide m3
      clear m2 m3
      have CL := hide (unhide HL c wr)
      have cx1 : ¬ 1152921504606846976 ≤ x := by omega
      have cx2 : IntKind.u64.wrap (x * 16) = x * 16 := u64w (by omega) (by omega)
      by_cases h95 : c = 95
      · subst h95
        have HE : Hid (hexG l 0 = none) := by show _ = _; rw [unhide HST]; rfl
        have e127 : lwr 95 = 127 := by decide +kernel
        rw [e127] at CL
        clear HST HM2 HM3 m0 m1 e127
        go_wp2_with (go_at_call 90; refine (unhide CL).mono ?_; rintro e w3 ⟨rfl, rfl⟩)
        go_ret2
        exact ⟨by rw [unhide HE]; rfl, unhide BE⟩
      have e7 : (c == 95) = false := by rw [beq_eq_false_iff_ne]; exact h95
      by_cases d : 48 ≤ c ∧ c ≤ 57
      · obtain ⟨d1, d2⟩ := d
        have HU : Hid (unh c = c - 48) := by show _ = _; unfold unh; rw [if_pos ⟨d1, d2⟩]
        have e1 : IntKind.u8.wrap (c - 48) = c - 48 := u8w (by omega) (by omega)
        have e2 : ¬ 16 ≤ c - 48 := by omega
        have e3 : IntKind.u64.wrap (c - 48) = c - 48 := u64w (by omega) (by omega)
        have e4 : IntKind.u64.wrap (x * 16 + (c - 48)) = x * 16 + (c - 48) := u64w (by omega) (by omega)
        have e5 : ¬ x * 16 + (c - 48) < x * 16 := by omega
        have e6 : ¬ 255 < x * 16 + (c - 48) := by omega
        go_wp2
        go_roundw
        case rel =>
          refine ⟨k + 1, x * 16 + (c - 48), by omega, by go_num, rfl, rfl, by omega, fun h => by omega, by omega, fun h => by have := unhide HK1 h; omega, ?_, trivial⟩
          show _ = _
          rw [unhide HST, unhide HU, if_pos (by omega), show 16 * x + (c - 48) = x * 16 + (c - 48) by omega]
        case measure => simp [intOf]; omega
      · have hd : ¬ 48 ≤ c ∨ (48 ≤ c ∧ ¬ c ≤ 57) := by omega
        by_cases g1 : 97 ≤ lwr c
        · by_cases g2 : lwr c ≤ 122
          · have HU := hide (unhide HM2 ⟨g1, g2⟩).2
            clear HM2 HM3
            generalize lwr c = y at *
            have e1 : IntKind.u8.wrap (y - 97) = y - 97 := u8w (by omega) (by omega)
            have e1' : IntKind.u8.wrap (y - 97 + 10) = y - 97 + 10 := u8w (by omega) (by omega)
            have e1'' : y - 97 + 10 = y - 87 := by omega
            by_cases g3 : y < 103
            · rw [if_pos g3] at HU
              have e2 : ¬ 16 ≤ y - 87 := by omega
              have e3 : IntKind.u64.wrap (y - 87) = y - 87 := u64w (by omega) (by omega)
              have e4 : IntKind.u64.wrap (x * 16 + (y - 87)) = x * 16 + (y - 87) := u64w (by omega) (by omega)
              have e5 : ¬ x * 16 + (y - 87) < x * 16 := by omega
              have e6 : ¬ 255 < x * 16 + (y - 87) := by omega
              have fin : Hid (hexG l 0 = hexG (l.drop (k + 1)) (x * 16 + (y - 87))) := by
                show _ = _
                rw [unhide HST, unhide HU, if_pos (by omega), show 16 * x + (y - 87) = x * 16 + (y - 87) by omega]
              rcases hd with hd | ⟨hd, hd2⟩
              · go_wp2_with (go_at_call 90; refine (unhide CL).mono ?_; rintro e w3 ⟨rfl, rfl⟩)
                go_roundw
                case rel => exact ⟨k + 1, x * 16 + (y - 87), by omega, by go_num, rfl, rfl, by omega, fun h => by omega, by omega, fun h => by have := unhide HK1 h; omega, unhide fin, trivial⟩
                case measure => simp [intOf]; omega
              · go_wp2_with (go_at_call 90; refine (unhide CL).mono ?_; rintro e w3 ⟨rfl, rfl⟩)
                go_roundw
                case rel => exact ⟨k + 1, x * 16 + (y - 87), by omega, by go_num, rfl, rfl, by omega, fun h => by omega, by omega, fun h => by have := unhide HK1 h; omega, unhide fin, trivial⟩
                case measure => simp [intOf]; omega
            · rw [if_neg g3] at HU
              have e2 : 16 ≤ y - 87 := by omega
              have HE : Hid (hexG l 0 = none) := by show _ = _; rw [unhide HST, unhide HU, if_neg (by omega)]
              rcases hd with hd | ⟨hd, hd2⟩
              · go_wp2_with (go_at_call 90; refine (unhide CL).mono ?_; rintro e w3 ⟨rfl, rfl⟩)
                go_ret2
                exact ⟨by rw [unhide HE]; rfl, unhide BE⟩
              · go_wp2_with (go_at_call 90; refine (unhide CL).mono ?_; rintro e w3 ⟨rfl, rfl⟩)
                go_ret2
                exact ⟨by rw [unhide HE]; rfl, unhide BE⟩
          · have HU := hide (unhide HM3 (by omega) d)
            have HE : Hid (hexG l 0 = none) := by show _ = _; rw [unhide HST, unhide HU, if_neg (by omega)]
            clear HM2 HM3 HU
            generalize lwr c = y at *
            rcases hd with hd | ⟨hd, hd2⟩
            · go_wp2_with (go_at_call 90; refine (unhide CL).mono ?_; rintro e w3 ⟨rfl, rfl⟩)
              go_ret2
              exact ⟨by rw [unhide HE]; rfl, unhide BE⟩
            · go_wp2_with (go_at_call 90; refine (unhide CL).mono ?_; rintro e w3 ⟨rfl, rfl⟩)
              go_ret2
              exact ⟨by rw [unhide HE]; rfl, unhide BE⟩
        · have HU := hide (unhide HM3 (by omega) d)
          have HE : Hid (hexG l 0 = none) := by show _ = _; rw [unhide HST, unhide HU, if_neg (by omega)]
          clear HM2 HM3 HU
          generalize lwr c = y at *
          rcases hd with hd | ⟨hd, hd2⟩
          · go_wp2_with (go_at_call 90; refine (unhide CL).mono ?_; rintro e w3 ⟨rfl, rfl⟩)
            go_ret2
            exact ⟨by rw [unhide HE]; rfl, unhide BE⟩
          · go_wp2_with (go_at_call 90; refine (unhide CL).mono ?_; rintro e w3 ⟨rfl, rfl⟩)
            go_ret2
            exact ⟨by rw [unhide HE]; rfl, unhide BE⟩
    · have hzl : ¬ (k : Int) < 2 := by omega
      have HE : Hid (hexG l 0 = some x) := by
        show _ = _
        rw [unhide HG, List.drop_eq_nil_of_le (by rw [unhide HN, hs]; omega)]
        rfl
      go_wp2
      go_ret2
      exact ⟨by rw [unhide HE]; rfl, unhide BE⟩
set_option maxHeartbeats 1600000 in
theorem pu_yes (s : ByteArray) (hs : s.size = 2) (x : Int) (w : World) (h : hexG (nums s) 0 = some x) : Calls Tryz.prog 83 #[.string s, .int .i64 16, .int .i64 8] w fun e w' => e = .returned (.tuple #[.int .u64 x, .nilIface]) ∧ Below w.heap.size w w' := by
  have CI := hide (ipu_any s hs w)
  rw [h] at CI
  clear h
  go_enter Tryz.func83, Tryz.ntmps83
  go_wp2_with (go_at_call 85; refine (unhide CI).mono ?_; rintro e w3 ⟨rfl, b3⟩; unfold puR)
  go_ret2
  exact ⟨rfl, b3⟩
set_option maxHeartbeats 1600000 in
theorem pu_no (s : ByteArray) (hs : s.size = 2) (w : World) (hL : Ly w) (h : hexG (nums s) 0 = none) : Calls Tryz.prog 83 #[.string s, .int .i64 16, .int .i64 8] w fun e w' => ∃ t p, e = .returned (.tuple #[.int .u64 0, .iface t p]) ∧ Below w.heap.size w w' := by
  have CI := hide (ipu_any s hs w)
  rw [h] at CI
  have HL := hide hL
  have CT := hide (fun fn W hL => toerr_any fn s W hL (by omega))
  clear h hL
  go_enter Tryz.func83, Tryz.ntmps83
  go_wp2_with (first
    | (go_at_call 86; refine (unhide CT _ _ ((unhide HL).keep b3)).mono ?_; rintro e w4 ⟨t4, p4, rfl, b4⟩)
    | (go_at_call 85; refine (unhide CI).mono ?_; rintro e w3 ⟨rfl, b3⟩; unfold puR))
  go_ret2
  exact ⟨_, _, rfl, b3.trans (b4.mono b3.size)⟩
theorem unh_nn (c : Int) : 0 ≤ unh c := by
  unfold unh
  repeat' split
  all_goals omega
theorem hexG_in {d e x : Int} (h : hexG [d, e] 0 = some x) : 0 ≤ x ∧ x < 256 ∧ unh d < 16 ∧ unh e < 16 ∧ x = 16 * unh d + unh e := by
  unfold hexG hexG hexG at h
  have h1 := unh_nn d
  have h2 := unh_nn e
  split at h
  · split at h
    · have := Option.some.inj h
      omega
    · cases h
  · cases h
theorem two_of (l : List Int) (h : 2 < l.length) : ((l.drop 1).take 2) = [l.getD 1 0, l.getD 2 0] := by
  match l, h with
  | [_], h => simp at h
  | [_, _], h => simp at h
  | a :: b :: c :: t, _ => simp
end Go.Proofs.YthbldkkjjjmegaaGreatDoor
