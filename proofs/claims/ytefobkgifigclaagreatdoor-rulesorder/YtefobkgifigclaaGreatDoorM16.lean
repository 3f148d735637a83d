/- strings.IndexByte, internal/bytealg.Cutover, utf8.ValidRune; strings.IndexRune and ContainsRune of a letter of two bytes. -/
import Derived.Test.YtefobkgifigclaaGreatDoorProg
import Derived.Test.YtefobkgifigclaaGreatDoorM01
import Derived.Lib.Bytealg
import Derived.Lib.IndexBytes
import Derived.WalkMore
import Derived.ScopeJumps
import Derived.Laws.Strings3
namespace Go.Proofs.YtefobkgifigclaaGreatDoor
set_option maxRecDepth 100000
open Go.RowKit

set_option maxHeartbeats 1000000 in
set_option maxRecDepth 100000 in
theorem slib_any (s : ByteArray) (c : Int) (w : World) : Calls Tryz.prog 215 #[.string s, .int .u8 c] w fun e w' => e = .returned (.int .i64 (Lib.indexByte s.data.toList c.toNat.toUInt8)) ∧ w = w' := by
  go_enter Tryz.func215, Tryz.ntmps215
  go_wp2
  rw [run_callFunc_extern Tryz.func236 (by kernel_rfl) (by kernel_rfl) (by kernel_rfl) (e := Extern.BytealgIndexByte.indexByte) (by kernel_rfl), Lib.run_indexByteString]
  simp only [Result.andThen]
  rw [Oper.upon_value]
  go_wp2
  go_ret
  exact ⟨rfl, rfl⟩
set_option maxHeartbeats 1000000 in
theorem ixb_any (s : ByteArray) (c : Int) (w : World) : Calls Tryz.prog 185 #[.string s, .int .u8 c] w fun e w' => e = .returned (.int .i64 (Lib.indexByte s.data.toList c.toNat.toUInt8)) ∧ w = w' := by
  have H := hide (slib_any s c)
  go_enter Tryz.func185, Tryz.ntmps185
  go_wp2_with (go_at_call 215; refine (unhide H _).mono ?_; rintro e w' ⟨rfl, rfl⟩)
  go_ret
  exact ⟨rfl, rfl⟩
set_option maxHeartbeats 1000000 in
theorem cutover_any (n : Nat) (h1 : n ≤ 100000) (w : World) : Calls Tryz.prog 208 #[.int .i64 (n : Int)] w fun e w' => e = .returned (.int .i64 (((n : Int) + 16) / 8)) ∧ w = w' := by
  go_enter Tryz.func208, Tryz.ntmps208
  go_wp2
  go_ret
  exact ⟨rfl, rfl⟩
set_option maxHeartbeats 1000000 in
theorem valid_any (r : Int) (w : World) (h0 : 0 ≤ r) (h1 : r < 55296) : Calls Tryz.prog 207 #[.int .i32 r] w fun e w' => e = .returned (.bool true) ∧ w = w' := by
  go_enter Tryz.func207, Tryz.ntmps207
  go_wp2
  go_ret
  exact ⟨rfl, rfl⟩
/-- A scope whose label is jumped to once at most, and ahead: the way on from the label is walked from where the jump stands. -/
theorem scope_once {P : Program} {a : Act} {w : World} {Q : Exit → Act → World → Prop} {c rest : Code} (l : Nat) (hf : findLabel c l = some (Code.skip.seq rest))
    (first : c.wp P (Exit.jump l (fun a w => rest.wp P (Exit.noGoto Q) a w) Q) a w) : (Code.scope c).wp P Q a w := by
  refine wp_scope_jumps l (fun a w => rest.wp P (Exit.noGoto Q) a w) (fun _ _ => 0) hf first fun a w h => wp_seq (wp_skip (wp_mono h ?_))
  intro e a' w' h
  cases e with
  | goto l' => exact absurd h (by simp [Exit.noGoto])
  | normal => exact h
  | exit id => exact h
  | ret => exact h
  | panic ch => exact h
  | outgrown => exact h
/-- strings.IndexRune of two bytes, plainly: none where it would give up. -/
def ixF (l : List UInt8) (a b : UInt8) : Nat → Nat → Nat → Option Int
  | 0, _, _ => none
  | n + 1, i, f =>
    if i < l.length then
      if l.getD i 0 = b then
        if l.getD (i - 1) 0 = a then some ((i : Int) - 1)
        else if f + 1 > (i + 1 + 16) / 8 ∧ i + 1 < l.length then none else ixF l a b n (i + 1) (f + 1)
      else if Lib.indexByte (l.drop (i + 1)) b < 0 then some (-1)
      else
        if l.getD (i + 1 + (Lib.indexByte (l.drop (i + 1)) b).toNat - 1) 0 = a then some (((i + 1 + (Lib.indexByte (l.drop (i + 1)) b).toNat : Nat) : Int) - 1)
        else if f + 1 > (i + 1 + (Lib.indexByte (l.drop (i + 1)) b).toNat + 1 + 16) / 8 ∧ i + 1 + (Lib.indexByte (l.drop (i + 1)) b).toNat + 1 < l.length then none else ixF l a b n (i + 1 + (Lib.indexByte (l.drop (i + 1)) b).toNat + 1) (f + 1)
    else some (-1)
theorem Lib.indexByte_lt : ∀ (l : List UInt8) (c : UInt8), 0 ≤ Lib.indexByte l c → Lib.indexByte l c < l.length
  | [], c, h => by simp [Lib.indexByte] at h
  | b :: l, c, h => by
    have ih := Lib.indexByte_lt l c
    have h1 := Lib.indexByte_ge l c
    unfold Lib.indexByte at h ⊢
    split
    · simp
    · rename_i hb
      rw [if_neg hb] at h
      split
      · rename_i h2
        rw [if_pos h2] at h
        omega
      · rename_i h2
        have : ¬ Lib.indexByte l c = -1 := by simpa using h2
        simp
        have := ih (by omega)
        omega
theorem get_at (s : ByteArray) {k : Nat} (h : k < s.size) : s.data.toList.getD k 0 = s[k] := by
  rw [List.getD_eq_getElem?_getD, Lib.data_getElem? s k h]
  rfl
set_option maxHeartbeats 4000000 in
theorem ixr_any (s : ByteArray) (r : Int) (rs : ByteArray) (R : Int) (w : World) (h0 : 128 ≤ r) (h1 : r ≤ 2047) (hs : s.size ≤ 1000) (h2 : rs.size = 2)
    (hcv : (convert 21 9 (.int .i32 r)).run Tryz.prog w = .ok (.string rs) w) (hR : ixF s.data.toList rs[0] rs[1] 1000 1 0 = some R) :
    Calls Tryz.prog 175 #[.string s, .int .i32 r] w fun e w' => e = .returned (.int .i64 R) ∧ Gr w w' := by
  have HV := hide (valid_any r w (by omega) (by omega))
  have HR := hide hR
  clear hR
  go_enter Tryz.func175, Tryz.ntmps175
  go_wp2_with (go_at_call 207; refine (unhide HV).mono ?_; rintro e w' ⟨rfl, rfl⟩)
  go_step3
  go_wp2
  go_loopw [9, 10] (fun vi vf wr => (∃ (m f n : Nat), vi = .int .i64 ((m : Int) + 1) ∧ vf = .int .i64 (f : Int) ∧ m ≤ 1000 ∧ f ≤ m ∧ ixF s.data.toList rs[0] rs[1] n (m + 1) f = some R) ∧ Gr w wr) (fun vi _ _ => 2000 - (intOf vi).toNat)
  case atStart => exact ⟨⟨0, 0, 1000, rfl, rfl, by omega, by omega, unhide HR⟩, Gr.refl _⟩
  case round =>
    clear HR
    obtain ⟨⟨m, f, n, rfl, rfl, hm, hf, hx⟩, hg⟩ := hrel
    by_cases hlt : m + 1 < s.size
    · have hlti : (m : Int) + 1 < (s.size : Int) := by omega
      have hz : (0 : Int) ≤ (m : Int) + 1 := by omega
      have hmi : (m : Int) < (s.size : Int) := by omega
      have hm0 : (0 : Int) ≤ (m : Int) := by omega
      by_cases hb : s[m + 1] = rs[1]
      · have hbi : ((s[m + 1].toNat : Int) != (rs[1].toNat : Int)) = false := by rw [hb]; simp
        obtain ⟨n, rfl⟩ : ∃ k, n = k + 1 := by cases n with
          | zero => cases hx
          | succ n => exact ⟨n, rfl⟩
        have HX : Hid (s[m] = rs[0] → (m : Int) = R) := fun h => by
          rw [ixF, if_pos (by simpa using hlt), if_pos (by rw [← hb]; exact get_at s hlt), if_pos (by rw [← h]; exact get_at s (by omega))] at hx
          have := Option.some.inj hx
          omega
        have HY : Hid (¬ s[m] = rs[0] → ixF s.data.toList rs[0] rs[1] n (m + 1 + 1) (f + 1) = some R ∧ ¬ ((f : Int) + 1 > ((m : Int) + 1 + 1 + 16) / 8 ∧ (m : Int) + 1 + 1 < s.size)) := fun h => by
          rw [ixF, if_pos (by simpa using hlt), if_pos (by rw [← hb]; exact get_at s hlt), if_neg (by intro e; exact h ((get_at s (by omega)).symm.trans e))] at hx
          split at hx
          · cases hx
          · rename_i hno
            refine ⟨hx, fun ⟨h3, h4⟩ => hno ⟨by omega, by simp; omega⟩⟩
        clear hx hb
        have HCO := hide (fun w => cutover_any (m + 1 + 1) (by omega) w)
        rw [show (((m + 1 + 1 : Nat) : Int)) = (m : Int) + 1 + 1 by omega] at HCO
        go_wp2
        refine scope_once 0 rfl ?_
        go_wp2
        go_quiet (fail)
        go_wp2
        refine wp_loop_rounds 3 ?_
        rw [rounds_succ]
        go_wp2
        by_cases ha : s[m] = rs[0]
        · have hai : ((s[m].toNat : Int) != (rs[0].toNat : Int)) = false := by rw [ha]; simp
          have HA := hide ha
          clear ha
          go_quiet (fail)
          go_wp2
          rw [rounds_succ]
          go_wp2
          simp only [Exit.jump, Exit.inBlock]
          change Exit.noGoto (Exit.inBlock 0 _) Exit.ret _ _
          simp only [Exit.noGoto, Exit.inBlock, Exit.then]
          go_ret
          exact ⟨ret_int (unhide HX (unhide HA)), (hg.drewN _)⟩
        · have hai : ((s[m].toNat : Int) != (rs[0].toNat : Int)) = true := by simp; intro h; exact ha (UInt8.toNat_inj.1 (by omega))
          have HA := hide ha
          clear ha
          go_quiet (fail)
          go_wp2
          go_step3
          refine And.intro rfl ?_
          change Code.wp _ _ _ _ _
          obtain ⟨HN, hno⟩ := unhide HY (unhide HA)
          have HNX := hide HN
          clear HN
          by_cases hc : (f : Int) + 1 > ((m : Int) + 1 + 1 + 16) / 8
          · have hc2 : ¬ (m : Int) + 1 + 1 < (s.size : Int) := by omega
            go_wp2_with (go_at_call 208; refine (unhide HCO _).mono ?_; rintro e w' ⟨rfl, rfl⟩)
            rw [Exit.noGoto_normal]
            go_wp2
            exact ⟨⟨⟨m + 1, f + 1, _, by go_num, by go_num, by omega, by omega, unhide HNX⟩, hg.drewN _⟩, by simp [intOf]; omega⟩
          · go_wp2_with (go_at_call 208; refine (unhide HCO _).mono ?_; rintro e w' ⟨rfl, rfl⟩)
            exact ⟨⟨⟨m + 1, f + 1, _, by go_num, by go_num, by omega, by omega, unhide HNX⟩, hg.drewN _⟩, by simp [intOf]; omega⟩
      · have hbi : ((s[m + 1].toNat : Int) != (rs[1].toNat : Int)) = true := by simp; intro h; exact hb (UInt8.toNat_inj.1 (by omega))
        have h3 : (m : Int) + 1 + 1 ≤ (s.size : Int) := by omega
        have h4 : IntKind.i64.wrap ((m : Int) + 1 + 1) = (m : Int) + 1 + 1 := by rw [IntKind.wrap_i64]; omega
        obtain ⟨n, rfl⟩ : ∃ k, n = k + 1 := by cases n with
          | zero => cases hx
          | succ n => exact ⟨n, rfl⟩
        obtain ⟨O, hO⟩ : ∃ O, O = Lib.indexByte (s.data.toList.drop (m + 1 + 1)) rs[1] := ⟨_, rfl⟩
        have HI : Hid (∀ W, Calls Tryz.prog 185 #[.string (s.extract (m + 1 + 1) s.size), .int .u8 (rs[1].toNat : Int)] W fun e w' => e = .returned (.int .i64 O) ∧ W = w') := fun W => by
          have h := ixb_any (s.extract (m + 1 + 1) s.size) (rs[1].toNat : Int) W
          rw [Lib.extract_to_end, Lib.byte_back, ← hO] at h
          exact h
        rw [ixF, if_pos (by simpa using hlt), if_neg (by intro e; exact hb ((get_at s hlt).symm.trans e)), ← hO] at hx
        clear hb
        by_cases hneg : O < 0
        · have HX : Hid (-1 = R) := by
            rw [if_pos hneg] at hx
            exact Option.some.inj hx
          clear hx hO
          go_wp2
          refine scope_once 0 rfl ?_
          go_wp2
          go_quiet (fail)
          have hg1 := hg.drewN nq
          generalize wr.drewN nq = wq at *
          go_wp2
          go_quiet ((go_at_call 185; exact Calls.quiet_of_same ((unhide HI _).mono fun _ _ h => ⟨h.1, h.2.symm⟩)))
          go_wp2
          simp only [Exit.jump, Exit.inBlock]
          change Exit.noGoto (Exit.inBlock 0 _) Exit.ret _ _
          simp only [Exit.noGoto, Exit.inBlock, Exit.then]
          go_ret
          exact ⟨ret_int (unhide HX), (hg1.drewN _)⟩
        obtain ⟨o, rfl⟩ : ∃ o : Nat, O = (o : Int) := ⟨O.toNat, by omega⟩
        rw [if_neg hneg, Int.toNat_natCast] at hx
        have hol : m + 1 + 1 + o < s.size := by
          have := Lib.indexByte_lt (s.data.toList.drop (m + 1 + 1)) rs[1] (by rw [← hO]; omega)
          rw [← hO, List.length_drop] at this
          have e : s.data.toList.length = s.size := by simp
          omega
        obtain ⟨k, hk⟩ : ∃ k, k = m + 1 + o := ⟨_, rfl⟩
        rw [show m + 1 + 1 + o = k + 1 by omega] at hx hol
        have hki : (m : Int) + 1 + ((o : Int) + 1) = (k : Int) + 1 := by omega
        clear hO hneg
        have HX : Hid (s[k] = rs[0] → (k : Int) = R) := fun h => by
          rw [if_pos (by rw [← h]; exact get_at s (by omega))] at hx
          have := Option.some.inj hx
          omega
        have HY : Hid (¬ s[k] = rs[0] → ixF s.data.toList rs[0] rs[1] n (k + 1 + 1) (f + 1) = some R ∧ ¬ ((f : Int) + 1 > ((k : Int) + 1 + 1 + 16) / 8 ∧ (k : Int) + 1 + 1 < s.size)) := fun h => by
          rw [if_neg (by intro e; exact h ((get_at s (by omega)).symm.trans e))] at hx
          split at hx
          · cases hx
          · rename_i hno
            refine ⟨hx, fun ⟨h3, h4⟩ => hno ⟨by omega, by simp; omega⟩⟩
        have hkl : (k : Int) < (s.size : Int) := by omega
        have hk0 : (0 : Int) ≤ (k : Int) := by omega
        have hfk : f ≤ k := by omega
        have HM : Hid (2000 - ((k : Int) + 1 + 1).toNat < 1999 - m) := by show _ < _; omega
        clear hx hk
        have HCO := hide (fun w => cutover_any (k + 1 + 1) (by omega) w)
        rw [show (((k + 1 + 1 : Nat) : Int)) = (k : Int) + 1 + 1 by omega] at HCO
        go_wp2
        refine scope_once 0 rfl ?_
        go_wp2
        go_quiet (fail)
        have hg1 := hg.drewN nq
        generalize wr.drewN nq = wq at *
        go_wp2
        go_quiet ((go_at_call 185; exact Calls.quiet_of_same ((unhide HI _).mono fun _ _ h => ⟨h.1, h.2.symm⟩)))
        have hg2 := hg1.drewN nq
        generalize wq.drewN nq = wp at *
        go_wp2
        refine wp_loop_rounds 3 ?_
        rw [rounds_succ]
        go_wp2
        by_cases ha : s[k] = rs[0]
        · have hai : ((s[k].toNat : Int) != (rs[0].toNat : Int)) = false := by rw [ha]; simp
          have HA := hide ha
          clear ha
          go_quiet (fail)
          go_wp2
          rw [rounds_succ]
          go_wp2
          simp only [Exit.jump, Exit.inBlock]
          change Exit.noGoto (Exit.inBlock 0 _) Exit.ret _ _
          simp only [Exit.noGoto, Exit.inBlock, Exit.then]
          go_ret
          exact ⟨ret_int (unhide HX (unhide HA)), (hg2.drewN _)⟩
        · have hai : ((s[k].toNat : Int) != (rs[0].toNat : Int)) = true := by simp; intro h; exact ha (UInt8.toNat_inj.1 (by omega))
          have HA := hide ha
          clear ha
          go_quiet (fail)
          go_wp2
          go_step3
          refine And.intro rfl ?_
          change Code.wp _ _ _ _ _
          obtain ⟨HN, hno⟩ := unhide HY (unhide HA)
          have HNX := hide HN
          clear HN
          by_cases hc : (f : Int) + 1 > ((k : Int) + 1 + 1 + 16) / 8
          · have hc2 : ¬ (k : Int) + 1 + 1 < (s.size : Int) := by omega
            go_wp2_with (go_at_call 208; refine (unhide HCO _).mono ?_; rintro e w' ⟨rfl, rfl⟩)
            rw [Exit.noGoto_normal]
            go_wp2
            exact ⟨⟨⟨k + 1, f + 1, _, by go_num, by go_num, by omega, by omega, unhide HNX⟩, hg2.drewN _⟩, by simp [intOf]; exact unhide HM⟩
          · go_wp2_with (go_at_call 208; refine (unhide HCO _).mono ?_; rintro e w' ⟨rfl, rfl⟩)
            exact ⟨⟨⟨k + 1, f + 1, _, by go_num, by go_num, by omega, by omega, unhide HNX⟩, hg2.drewN _⟩, by simp [intOf]; exact unhide HM⟩
    · have hlti : ¬ (m : Int) + 1 < (s.size : Int) := by omega
      obtain ⟨n, rfl⟩ : ∃ k, n = k + 1 := by cases n with
        | zero => cases hx
        | succ n => exact ⟨n, rfl⟩
      have HX : Hid (-1 = R) := by
        rw [ixF, if_neg (by simpa using hlt)] at hx
        exact Option.some.inj hx
      go_wp2
      go_ret
      exact ⟨ret_int (unhide HX), hg⟩
/-- The two bytes of a letter. -/
def two1 (r : Int) : UInt8 := UInt8.ofNat (192 + r.toNat / 64)
def two2 (r : Int) : UInt8 := UInt8.ofNat (128 + r.toNat % 64)
theorem two_of (r : Int) (h0 : 128 ≤ r) (h1 : r ≤ 2047) : Utf8.encode r = ⟨#[two1 r, two2 r]⟩ := by
  have hv : Utf8.valid r = true := by unfold Utf8.valid; simp; omega
  unfold Utf8.encode
  simp only [hv, if_true]
  rw [if_neg (by omega), if_pos (by omega)]
  rfl
set_option maxHeartbeats 1000000 in
theorem ctr_any (s : ByteArray) (r : Int) (R : Int) (w : World) (h0 : 128 ≤ r) (h1 : r ≤ 2047) (hs : s.size ≤ 1000) (hR : ixF s.data.toList (two1 r) (two2 r) 1000 1 0 = some R) :
    Calls Tryz.prog 246 #[.string s, .int .i32 r] w fun e w' => e = .returned (.bool (decide (R ≥ 0))) ∧ Gr w w' := by
  obtain ⟨rs, h2, ha, hb, hcv⟩ : ∃ rs : ByteArray, ∃ h2 : rs.size = 2, rs[0] = two1 r ∧ rs[1] = two2 r ∧ (convert 21 9 (.int .i32 r)).run Tryz.prog w = .ok (.string rs) w :=
    ⟨⟨#[two1 r, two2 r]⟩, rfl, rfl, rfl, by rw [← two_of r h0 h1]; exact run_convert_int_string w _ _ _ _ (by kernel_rfl) Tryz.underlying9⟩
  rw [← ha, ← hb] at hR
  have H := hide (ixr_any s r rs R w h0 h1 hs h2 hcv hR)
  clear hR hcv ha hb h2
  go_enter Tryz.func246, Tryz.ntmps246
  go_wp2_with (go_at_call 175; refine (unhide H).mono ?_; rintro e w' ⟨rfl, hg⟩)
  go_ret
  exact ⟨rfl, hg⟩
end Go.Proofs.YtefobkgifigclaaGreatDoor
