/- The law PiecesEnds (P13.6). (By gen_ends.py.) -/
import Derived.Test.YtddliikhjilngaaGreatDoorM30
namespace Go.Proofs.YtddliikhjilngaaGreatDoor
set_option maxRecDepth 100000
open Go.RowKit

theorem bts_append (a b : ByteArray) : bts (a ++ b) = bts a ++ bts b := by simp [bts]
set_option maxHeartbeats 1000000 in
theorem ends_out (V a b : ByteArray) (w : World) (hL : L13 w) (h : 5000 < V.size ∨ a.toList = [] ∨ b.toList = []) :
    Calls Tryz.prog 4 #[.string V, .string a, .string b] w fun e w' => e = .returned (.bool true) ∧ Below w.heap.size w w' := by
  have HAW := hide (awake13 w hL)
  clear hL
  by_cases h1 : 5000 < V.size
  · have z1 : (5000 : Int) < (V.size : Int) := by omega
    go_enter Tryz.func4, Tryz.ntmps4
    go_wp2_with (go_at_call 6; refine (unhide HAW).mono ?_; rintro e w1 ⟨rfl, b1⟩)
    go_ret
    exact ⟨rfl, b1⟩
  · have z1 : ¬ (5000 : Int) < (V.size : Int) := by omega
    rcases emp_cases a with ⟨ha, ha'⟩ | ⟨ha, ha'⟩
    · go_enter Tryz.func4, Tryz.ntmps4
      go_wp2_with (go_at_call 6; refine (unhide HAW).mono ?_; rintro e w1 ⟨rfl, b1⟩)
      go_ret
      exact ⟨rfl, b1⟩
    · rcases emp_cases b with ⟨hb, hb'⟩ | ⟨hb, hb'⟩
      · go_enter Tryz.func4, Tryz.ntmps4
        go_wp2_with (go_at_call 6; refine (unhide HAW).mono ?_; rintro e w1 ⟨rfl, b1⟩)
        go_ret
        exact ⟨rfl, b1⟩
      · exfalso
        rcases h with h | h | h
        · exact h1 h
        · exact ha h
        · exact hb h
theorem ends_plain (V a b : ByteArray) : mat (bts V) (bts a) (bts b) ([] : List (List UInt8)) true true = (decide (a.size ≤ V.size) && (decide (b.size ≤ V.size - a.size) && (((V.extract 0 a.size).toList == a.toList) && ((V.extract (V.size - b.size) V.size).toList == b.toList)))) := by
  rw [mat_ends, endsB, bts_len, bts_len, bts_len, Lib.extract_toList, Lib.extract_toList, bts_toList, bts_toList]
  show _ = (_ && (_ && (((bts V).drop 0).take (a.size - 0) == bts a && ((bts V).drop (V.size - b.size)).take (V.size - (V.size - b.size)) == bts b)))
  rw [List.drop_zero, Nat.sub_zero, List.take_of_length_le (l := (bts V).drop (V.size - b.size)) (by rw [List.length_drop, bts_len]; exact Nat.le_refl _)]
/-- What the walks share. -/
structure En (V a b : ByteArray) (w : World) (r : Bool) : Prop where
  m : ∀ W, Calls Tryz.prog 9 #[.string V, .agg #[.string a, .slice none 0 0, .string b, .bool true, .bool true]] W fun e w' => e = .returned (.bool r) ∧ Below W.heap.size W w'
  n : ∀ W, Calls Tryz.prog 9 #[.string (a ++ b), .agg #[.string a, .slice none 0 0, .string b, .bool true, .bool true]] W fun e w' => e = .returned (.bool true) ∧ Below W.heap.size W w'
  aw : ∀ W, Below w.heap.size w W → Calls Tryz.prog 6 #[] W fun e w' => e = .returned (.bool true) ∧ Below W.heap.size W w'
theorem en_of (V a b : ByteArray) (w : World) (hL : L13 w) (hV : V.size ≤ 5000) (ha : a.size ≤ 140737488355328) (hb : b.size ≤ 140737488355328) :
    En V a b w (decide (a.size ≤ V.size) && (decide (b.size ≤ V.size - a.size) && (((V.extract 0 a.size).toList == a.toList) && ((V.extract (V.size - b.size) V.size).toList == b.toList)))) := by
  refine ⟨fun W => ?_, fun W => ?_, fun W hW => awake13 W (hL.keep hW)⟩
  · have h := match_any V a b (.slice none 0 0) [] true true W (by omega) (fun h => absurd h (by simp)) (Txs.nil W none 0)
    rwa [List.map_nil, ends_plain] at h
  · have h := match_any (a ++ b) a b (.slice none 0 0) [] true true W (by rw [ByteArray.size_append]; omega) (fun h => absurd h (by simp)) (Txs.nil W none 0)
    rwa [List.map_nil, bts_append, mat_both] at h
set_option maxHeartbeats 4000000 in
theorem ends_in (V a b : ByteArray) (w : World) (hL : L13 w) (hV : V.size ≤ 5000) (ha : a.size ≤ 140737488355328) (hb : b.size ≤ 140737488355328) (na : ¬ a.toList = []) (nb : ¬ b.toList = []) :
    Calls Tryz.prog 4 #[.string V, .string a, .string b] w fun e w' => e = .returned (.bool true) ∧ Below w.heap.size w w' := by
  have z1 : ¬ (5000 : Int) < (V.size : Int) := by omega
  have na' : a.toList.isEmpty = false := by cases h : a.toList <;> simp_all
  have nb' : b.toList.isEmpty = false := by cases h : b.toList <;> simp_all
  have hE := en_of V a b w hL hV ha hb
  obtain ⟨c0, c1, c2, c3, c4⟩ := box13 w (.string a) (.slice none 0 0) (.string b) (.bool true) (.bool true) 29
  clear hL
  by_cases h1 : a.size ≤ V.size
  · have y1 : (a.size : Int) ≤ (V.size : Int) := by omega
    have hsub : wrap64 ((V.size : Int) - (a.size : Int)) = ((V.size - a.size : Nat) : Int) := by unfold wrap64; omega
    have hsub2 : (V.size : Int) - (a.size : Int) = ((V.size - a.size : Nat) : Int) := by omega
    rw [decide_eq_true h1] at hE
    by_cases h2 : b.size ≤ V.size - a.size
    · have y2 : (b.size : Int) ≤ (V.size : Int) - (a.size : Int) := by omega
      have y3 : (b.size : Int) ≤ (V.size : Int) := by omega
      have hlo : wrap64 ((V.size : Int) - (b.size : Int)) = ((V.size - b.size : Nat) : Int) := by unfold wrap64; omega
      have hlo2 : (V.size : Int) - (b.size : Int) = ((V.size - b.size : Nat) : Int) := by omega
      rw [decide_eq_true h2] at hE
      cases e3 : ((V.extract 0 a.size).toList == a.toList) <;> cases e4 : ((V.extract (V.size - b.size) V.size).toList == b.toList) <;> rw [e3, e4] at hE
      all_goals
        have HE := hide hE
        clear hE
        go_enter Tryz.func4, Tryz.ntmps4
        go_wp2_with (first
          | (go_at_call 6; refine ((unhide HE).aw _ t2).mono ?_; rintro e w3 ⟨rfl, b3⟩; have t3 := below_next13 t2 b3)
          | (go_at_call_of 9 (a ++ b); refine ((unhide HE).n _).mono ?_; rintro e w2 ⟨rfl, b2⟩; have t2 := below_next13 t1 b2)
          | (go_at_call 9; refine ((unhide HE).m _).mono ?_; rintro e w1 ⟨rfl, b1⟩; have t1 := below_new b1; obtain ⟨d0, d1, d2, d3, d4⟩ := kept13 b1 c0 c1 c2 c3 c4))
        go_ret
        exact ⟨rfl, t3⟩
    · have y2 : ¬ (b.size : Int) ≤ (V.size : Int) - (a.size : Int) := by omega
      rw [decide_eq_false h2] at hE
      have HE := hide hE
      clear hE
      go_enter Tryz.func4, Tryz.ntmps4
      go_wp2_with (first
        | (go_at_call 6; refine ((unhide HE).aw _ t2).mono ?_; rintro e w3 ⟨rfl, b3⟩; have t3 := below_next13 t2 b3)
        | (go_at_call_of 9 (a ++ b); refine ((unhide HE).n _).mono ?_; rintro e w2 ⟨rfl, b2⟩; have t2 := below_next13 t1 b2)
        | (go_at_call 9; refine ((unhide HE).m _).mono ?_; rintro e w1 ⟨rfl, b1⟩; have t1 := below_new b1; obtain ⟨d0, d1, d2, d3, d4⟩ := kept13 b1 c0 c1 c2 c3 c4))
      go_ret
      exact ⟨rfl, t3⟩
  · have y1 : ¬ (a.size : Int) ≤ (V.size : Int) := by omega
    rw [decide_eq_false h1] at hE
    have HE := hide hE
    clear hE
    go_enter Tryz.func4, Tryz.ntmps4
    go_wp2_with (first
      | (go_at_call 6; refine ((unhide HE).aw _ t2).mono ?_; rintro e w3 ⟨rfl, b3⟩; have t3 := below_next13 t2 b3)
      | (go_at_call_of 9 (a ++ b); refine ((unhide HE).n _).mono ?_; rintro e w2 ⟨rfl, b2⟩; have t2 := below_next13 t1 b2)
      | (go_at_call 9; refine ((unhide HE).m _).mono ?_; rintro e w1 ⟨rfl, b1⟩; have t1 := below_new b1; obtain ⟨d0, d1, d2, d3, d4⟩ := kept13 b1 c0 c1 c2 c3 c4))
    go_ret
    exact ⟨rfl, t3⟩
theorem ends13_law (V a b : ByteArray) (w : World) (hL : L13 w) (ha : a.size ≤ 140737488355328) (hb : b.size ≤ 140737488355328) :
    Calls Tryz.prog 4 #[.string V, .string a, .string b] w fun e w' => e = .returned (.bool true) ∧ Below w.heap.size w w' := by
  by_cases h : 5000 < V.size ∨ a.toList = [] ∨ b.toList = []
  · exact ends_out V a b w hL h
  · exact ends_in V a b w hL (by omega) ha hb (fun e => h (.inr (.inl e))) (fun e => h (.inr (.inr e)))
end Go.Proofs.YtddliikhjilngaaGreatDoor
