/- Rows of bytes of the call's own; the program's layLength of layer 15. -/
import Derived.Test.YtcboggoindhmkaaDg15
import Derived.Test.YtcboggoindhmkaaOb16
import Derived.Maps.AppendAt
import Derived.Lib.AppendStr
import Derived.OwnWalk
namespace Go.Proofs.Ytcboggoindhmkaa
open Go.RowKit

/-- The bytes of a length. -/
def lenL (n : Nat) : List Int := if n < 128 then [(n : Int)] else if n < 256 then [129, (n : Int)] else [130, ((n / 256 : Nat) : Int), ((n % 256 : Nat) : Int)]
theorem hd_lenL (t : Int) (n : Nat) : hd t n = t :: lenL n := by
  unfold hd lenL
  split
  · rfl
  · split <;> rfl
theorem lenL_len (n : Nat) : (lenL n).length ≤ 3 := by
  unfold lenL
  repeat' split
  all_goals simp
set_option maxHeartbeats 1600000 in
theorem layLength_any (B : Nat) (X : List Int) (N : Nat) (hN : N = X.length) (v : Value) (n : Nat) (w : World) (hO : Ob B v X w) (hB : B ≤ w.heap.size) (hl : N ≤ 20000) (hn : n ≤ 4000) :
    Calls Try.prog 46 #[v, .int .i64 n] w fun r w' => ∃ g cap m, r = .returned (.slice (some ⟨g, 0, none⟩) (N + m) cap) ∧ m = (lenL n).length ∧ Ob B (.slice (some ⟨g, 0, none⟩) (N + m) cap) (X ++ lenL n) w' ∧ w.grownBy w' v.ownBlock ∧ (v.ownBlock = some g ∨ w.heap.size ≤ g) := by
  obtain ⟨i0, hi, hz0, hz1, hz2⟩ := info_parts u8_info
  have hown := hO.own hN
  have HO := hide hown
  have HN := hide hN
  clear hO hown hN
  have CW := hide (width_any (n : Int))
  by_cases n1 : n < 128
  · have e : wid (n : Int) = 1 := by unfold wid; rw [if_pos (by omega)]
    have e2 : lenL n = [(n : Int)] := by unfold lenL; rw [if_pos n1]
    rw [e] at CW
    rw [e2]
    clear e e2
    have c1 : IntKind.u8.wrap (n : Int) = (n : Int) := by simp [IntKind.wrap, IntKind.bits, IntKind.signed] <;> omega
    have hm1 : N + 1 ≤ maxLen := by unfold maxLen; omega
    have hm2 : (N + 1) * 1 ≤ 140737488355328 := by omega
    go_enter Try.func46, Try.ntmps46
    go_wp2_with (first
      | (at_builtin; refine wpList_append_lies _ rfl _ _ 71 rfl B 5 i0 _ 1 1 Try.underlying71 hi hz0 hz1 hz2 rfl (by omega) _ N _ rfl (World.ownsRow.alloc (unhide HO) _) ⟨w.heap.size, 0, none⟩ 1 1 [.int .u8 (n : Int)] rfl rfl (World.news_of_block (cs := #[.int .u8 (n : Int)]) (t := 5) (fr := (0, 0)) (heap_new w _)) (by simp [Value.oneCell']) (by omega) hm1 hm2 (by simp; omega) (w.heap.size + 1) (by simp) ?_; intro g9 cap9 w9 hown9 hgrow9 hat9 hlt9)
      | (go_at_call 45; refine (unhide CW _).mono ?_; rintro e w3 ⟨rfl, rfl⟩))
    go_ret
    refine ⟨g9, cap9, 1, rfl, rfl, Ob.push (unhide HN) rfl hown9, grown_new hgrow9, ?_⟩
    rcases hat9 with h | h
    · exact .inl h
    · exact .inr (by omega)
  · by_cases n2 : n < 256
    · have e : wid (n : Int) = 2 := by unfold wid; rw [if_neg (by omega), if_pos (by omega)]
      have e2 : lenL n = [129, (n : Int)] := by unfold lenL; rw [if_neg n1, if_pos n2]
      rw [e] at CW
      rw [e2]
      clear e e2
      have c1 : IntKind.u8.wrap (n : Int) = (n : Int) := by simp [IntKind.wrap, IntKind.bits, IntKind.signed] <;> omega
      have hm1 : N + 2 ≤ maxLen := by unfold maxLen; omega
      have hm2 : (N + 2) * 1 ≤ 140737488355328 := by omega
      go_enter Try.func46, Try.ntmps46
      go_wp2_with (first
        | (at_builtin; refine wpList_append_lies _ rfl _ _ 71 rfl B 5 i0 _ 1 1 Try.underlying71 hi hz0 hz1 hz2 rfl (by omega) _ N _ rfl (World.ownsRow.alloc (unhide HO) _) ⟨w.heap.size, 0, none⟩ 2 2 [.int .u8 129, .int .u8 (n : Int)] rfl rfl (World.news_of_block (cs := #[.int .u8 129, .int .u8 (n : Int)]) (t := 5) (fr := (0, 0)) (heap_new w _)) (by simp [Value.oneCell']) (by omega) hm1 hm2 (by simp; omega) (w.heap.size + 1) (by simp) ?_; intro g9 cap9 w9 hown9 hgrow9 hat9 hlt9)
        | (go_at_call 45; refine (unhide CW _).mono ?_; rintro e w3 ⟨rfl, rfl⟩))
      go_ret
      refine ⟨g9, cap9, 2, rfl, rfl, Ob.push (unhide HN) rfl hown9, grown_new hgrow9, ?_⟩
      rcases hat9 with h | h
      · exact .inl h
      · exact .inr (by omega)
    · have e : wid (n : Int) = 3 := by unfold wid; rw [if_neg (by omega), if_neg (by omega)]
      have e2 : lenL n = [130, ((n / 256 : Nat) : Int), ((n % 256 : Nat) : Int)] := by unfold lenL; rw [if_neg n1, if_neg n2]
      rw [e] at CW
      rw [e2]
      clear e e2
      have c1 : IntKind.u8.wrap (n : Int) = ((n % 256 : Nat) : Int) := by simp [IntKind.wrap, IntKind.bits, IntKind.signed] <;> omega
      have c2 : IntKind.u8.wrap ((n : Int) / 256) = ((n / 256 : Nat) : Int) := by simp [IntKind.wrap, IntKind.bits, IntKind.signed] <;> omega
      have hm1 : N + 3 ≤ maxLen := by unfold maxLen; omega
      have hm2 : (N + 3) * 1 ≤ 140737488355328 := by omega
      generalize ((n % 256 : Nat) : Int) = lo at *
      generalize ((n / 256 : Nat) : Int) = hh at *
      go_enter Try.func46, Try.ntmps46
      go_wp2_with (first
        | (at_builtin; refine wpList_append_lies _ rfl _ _ 71 rfl B 5 i0 _ 1 1 Try.underlying71 hi hz0 hz1 hz2 rfl (by omega) _ N _ rfl (World.ownsRow.alloc (unhide HO) _) ⟨w.heap.size, 0, none⟩ 3 3 [.int .u8 130, .int .u8 hh, .int .u8 lo] rfl rfl (World.news_of_block (cs := #[.int .u8 130, .int .u8 hh, .int .u8 lo]) (t := 5) (fr := (0, 0)) (heap_new w _)) (by simp [Value.oneCell']) (by omega) hm1 hm2 (by simp; omega) (w.heap.size + 1) (by simp) ?_; intro g9 cap9 w9 hown9 hgrow9 hat9 hlt9)
        | (go_at_call 45; refine (unhide CW _).mono ?_; rintro e w3 ⟨rfl, rfl⟩))
      go_ret
      refine ⟨g9, cap9, 3, rfl, rfl, Ob.push (unhide HN) rfl hown9, grown_new hgrow9, ?_⟩
      rcases hat9 with h | h
      · exact .inl h
      · exact .inr (by omega)
end Go.Proofs.Ytcboggoindhmkaa
