/- The landed needsSlash and appendByte of layer 18. -/
import Derived.Test.YtnhojjheoafhaaaDoorOb18
import Derived.Test.YtnhojjheoafhaaaDoorShelf18
namespace Go.Proofs.YtnhojjheoafhaaaDoor
set_option maxRecDepth 100000
open Go.RowKit

/-- Has a byte that is shown as it is a slash ahead? -/
def nsB (f la : Bool) (c : Int) : Bool := if c = 32 then f || la else if c = 35 then f else sgn c
theorem nsB_eq (f la : Bool) (c : Int) : (sgn c || (decide (c = 32) && (f || la) || (decide (c = 35) && f))) = nsB f la c := by
  unfold nsB
  by_cases h : c = 32
  · subst h; simp [sgn]
  · by_cases h2 : c = 35
    · subst h2; simp [sgn]
    · simp [h, h2]
theorem esc_ns (f la : Bool) (c : Int) (h : ¬ (c < 32 ∨ c = 127)) : escB f la c = if nsB f la c = true then [92, c] else [c] := by
  unfold escB
  rw [if_neg h, nsB_eq]
set_option maxHeartbeats 3200000 in
theorem needs_any (s : ByteArray) (k : Nat) (hk : k < s.size) (c : Int) (hc : (s[k].toNat : Int) = c) (hs : s.size ≤ 9223372036854775807) (w : World) :
    Calls Tryd.prog 38 #[.string s, .int .i64 k] w fun e w' => e = .returned (.bool (nsB (decide (k = 0)) (decide (k + 1 = s.size)) c)) ∧ w = w' := by
  have hb0 := (s[k]).toNat_lt
  have c0 : 0 ≤ c := by omega
  have c1 : c < 256 := by omega
  have HX := hide (ix_sgn c c0 c1)
  have HI := hide (ixb_any ⟨#[44, 43, 34, 92, 60, 62, 59, 61]⟩ c)
  have hz0 : (0 : Int) ≤ (k : Int) := by omega
  have hzl : (k : Int) < (s.size : Int) := by omega
  clear hb0 c0 c1
  obtain ⟨m, hm⟩ : ∃ m : Int, IntKind.i64.wrap ((s.size : Int) - 1) = m := ⟨_, rfl⟩
  have HM : Hid (m = (s.size : Int) - 1) := by show _ = _; rw [← hm]; exact wrap_in (by omega) (by omega)
  have HA : Hid (((k : Int) == m) = decide (k + 1 = s.size)) := by
    show _ = _
    rw [unhide HM, Bool.eq_iff_iff]
    simp
    omega
  have HZ : Hid (((k : Int) == 0) = decide (k = 0)) := by
    show _ = _
    rw [Bool.eq_iff_iff]
    simp
  rw [← unhide HA]
  clear HM HA
  have e32 : (c == 32) = decide (c = 32) := rfl
  have e35 : (c == 35) = decide (c = 35) := rfl
  rcases Nat.eq_zero_or_pos k with rfl | hp
  · rw [decide_eq_true rfl]
    clear HZ
    by_cases a1 : c = 32
    · clear e32 e35
      subst a1
      go_enter Tryd.func38, Tryd.ntmps38
      go_wp2
      go_ret
      exact ⟨ret_bool rfl, rfl⟩
    · by_cases a2 : c = 35
      · clear e32 e35 a1
        subst a2
        go_enter Tryd.func38, Tryd.ntmps38
        go_wp2
        go_ret
        exact ⟨ret_bool rfl, rfl⟩
      · have HE : Hid (∀ f la, nsB f la c = decide (0 ≤ Lib.indexByte [44, 43, 34, 92, 60, 62, 59, 61] c.toNat.toUInt8)) := fun f la => by unfold nsB; rw [if_neg a1, if_neg a2, unhide HX]
        clear HX
        go_enter Tryd.func38, Tryd.ntmps38
        go_wp2_with (go_at_call 37; refine (unhide HI _).mono ?_; rintro e w3 ⟨rfl, rfl⟩)
        go_ret
        exact ⟨ret_bool (unhide HE _ _).symm, rfl⟩
  · have hk0 : ¬ (k : Int) = 0 := by omega
    have hk0' : ((k : Int) == 0) = false := by rw [beq_eq_false_iff_ne]; exact hk0
    rw [decide_eq_false (p := k = 0) (by omega)]
    clear HZ
    by_cases a1 : c = 32
    · clear e32 e35
      subst a1
      go_enter Tryd.func38, Tryd.ntmps38
      go_wp2
      go_ret
      exact ⟨ret_bool rfl, rfl⟩
    · by_cases a2 : c = 35
      · clear e32 e35 a1
        subst a2
        go_enter Tryd.func38, Tryd.ntmps38
        go_wp2
        go_ret
        exact ⟨ret_bool rfl, rfl⟩
      · have HE : Hid (∀ f la, nsB f la c = decide (0 ≤ Lib.indexByte [44, 43, 34, 92, 60, 62, 59, 61] c.toNat.toUInt8)) := fun f la => by unfold nsB; rw [if_neg a1, if_neg a2, unhide HX]
        clear HX
        go_enter Tryd.func38, Tryd.ntmps38
        go_wp2_with (go_at_call 37; refine (unhide HI _).mono ?_; rintro e w3 ⟨rfl, rfl⟩)
        go_ret
        exact ⟨ret_bool (unhide HE _ _).symm, rfl⟩
end Go.Proofs.YtnhojjheoafhaaaDoor
