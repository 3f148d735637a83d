/- strings.Cut at a =, the landed small of layer 18. -/
import Derived.Test.YtnhojjheoafhaaaDoorDi18
namespace Go.Proofs.YtnhojjheoafhaaaDoor
set_option maxRecDepth 100000
open Go.RowKit

def i8 (b : UInt8) : Int := (b.toNat : Int)
theorem nums_map (s : ByteArray) : nums s = s.data.toList.map i8 := rfl
theorem i8_eq (b : UInt8) : (i8 b = 61) ↔ b = 61 := by
  unfold i8
  constructor
  · intro h
    have : b.toNat = (61 : UInt8).toNat := by simpa using Int.ofNat.inj h
    exact UInt8.toNat_inj.1 this
  · intro h; rw [h]; rfl
/-- Where the first = stands. -/
theorem ixE (u : List UInt8) : (Lib.indexByte u 61 = -1 ∧ cutE (u.map i8) = (u.map i8, [])) ∨ ∃ k : Nat, Lib.indexByte u 61 = (k : Int) ∧ k < u.length ∧ cutE (u.map i8) = ((u.map i8).take k, (u.map i8).drop (k + 1)) := by
  induction u with
  | nil => exact .inl ⟨rfl, rfl⟩
  | cons b l ih =>
    by_cases hb : b = 61
    · subst hb
      exact .inr ⟨0, rfl, by simp, by rfl⟩
    · have h1 : (b == 61) = false := by rw [beq_eq_false_iff_ne]; exact hb
      have h2 : ¬ i8 b = 61 := fun h => hb ((i8_eq b).1 h)
      rcases ih with ⟨h3, h4⟩ | ⟨k, h3, h4, h5⟩
      · refine .inl ⟨?_, ?_⟩
        · simp [Lib.indexByte, h1, h3]
        · simp [cutE, h2, h4]
      · refine .inr ⟨k + 1, ?_, by simp; omega, ?_⟩
        · simp [Lib.indexByte, h1, h3]
        · simp [cutE, h2, h5]
theorem cut_ix (s : ByteArray) : (Lib.indexByte s.data.toList 61 = -1 ∧ cutE (nums s) = (nums s, [])) ∨ ∃ k : Nat, Lib.indexByte s.data.toList 61 = (k : Int) ∧ k < s.size ∧ cutE (nums s) = (nums (s.extract 0 k), nums (s.extract (k + 1) s.size)) := by
  rcases ixE s.data.toList with h | ⟨k, h1, h2, h3⟩
  · exact .inl h
  · refine .inr ⟨k, h1, by simpa using h2, ?_⟩
    rw [nums_drop, nums_sub, List.drop_zero, Nat.sub_zero]
    exact h3
set_option maxHeartbeats 1600000 in
theorem scut_any (s : ByteArray) (w : World) (hs : s.size ≤ 100000) : Calls Tryd.prog 35 #[.string s, .string ⟨#[61]⟩] w fun e w' => ∃ a b f, e = .returned (.tuple #[.string a, .string b, .bool f]) ∧ cutE (nums s) = (nums a, nums b) ∧ a.size ≤ s.size ∧ b.size ≤ s.size ∧ Gr w w' := by
  have HI := hide (ixe_any s w)
  rcases cut_ix s with ⟨h1, h2⟩ | ⟨k, h1, h2, h3⟩
  · rw [h1] at HI
    have HE := hide h2
    clear h1 h2
    go_enter Tryd.func35, Tryd.ntmps35
    go_wp2_with (go_at_call 39; refine (unhide HI).mono ?_; rintro e w3 ⟨rfl, rfl⟩)
    go_ret3
    exact ⟨_, _, _, rfl, unhide HE, Nat.le_refl _, Nat.zero_le _, Gr.refl _⟩
  · rw [h1] at HI
    have HE := hide h3
    have z0 : (0 : Int) ≤ (k : Int) := by omega
    have z1 : (k : Int) ≤ (s.size : Int) := by omega
    have z2 : (0 : Int) ≤ (k : Int) + 1 := by omega
    have z3 : (k : Int) + 1 ≤ (s.size : Int) := by omega
    have wk : IntKind.i64.wrap ((k : Int) + 1) = (k : Int) + 1 := wrap_in (by omega) (by omega)
    have s1 : (s.extract 0 k).size ≤ s.size := by rw [ByteArray.size_extract]; omega
    have s2 : (s.extract (k + 1) s.size).size ≤ s.size := by rw [ByteArray.size_extract]; omega
    clear h1 h3
    go_enter Tryd.func35, Tryd.ntmps35
    go_wp2_with (go_at_call 39; refine (unhide HI).mono ?_; rintro e w3 ⟨rfl, rfl⟩)
    go_quiet (fail)
    go_wp2
    go_ret3
    exact ⟨_, _, _, rfl, unhide HE, s1, s2, (Gr.refl _).drewN _⟩
set_option maxHeartbeats 1600000 in
theorem cut_any (s : ByteArray) (w : World) (hs : s.size ≤ 100000) : Calls Tryd.prog 27 #[.string s, .string ⟨#[61]⟩] w fun e w' => ∃ a b f, e = .returned (.tuple #[.string a, .string b, .bool f]) ∧ cutE (nums s) = (nums a, nums b) ∧ a.size ≤ s.size ∧ b.size ≤ s.size ∧ Gr w w' := by
  have HI := hide (scut_any s w hs)
  clear hs
  go_enter Tryd.func27, Tryd.ntmps27
  go_wp2_with (go_at_call 35; refine (unhide HI).mono ?_; rintro e w3 ⟨a, b, f, rfl, h1, h2, h3, g3⟩; have H1 := hide h1; have H2 := hide h2; have H3 := hide h3; clear h1 h2 h3)
  go_ret3
  exact ⟨_, _, _, rfl, unhide H1, unhide H2, unhide H3, g3⟩
end Go.Proofs.YtnhojjheoafhaaaDoor
