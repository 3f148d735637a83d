/- The law's long and Few. -/
import Derived.Test.YtddliikhjilngaaGreatDoorM30
namespace Go.Proofs.YtddliikhjilngaaGreatDoor
set_option maxRecDepth 100000
open Go.RowKit

def long13 (s : ByteArray) : Bool := (decide (150 < s.size) && decide (s.size ≤ 1202)) || decide (5000 < s.size)
def few13 (a b : ByteArray) (ss : List ByteArray) : Bool := decide (ss.length ≤ 9) && (!long13 a && (!long13 b && ss.all fun s => !long13 s))
set_option maxHeartbeats 1000000 in
theorem long_any13 (s : ByteArray) (w : World) : Calls Tryz.prog 18 #[.string s] w fun e w' => e = .returned (.bool (long13 s)) ∧ w = w' := by
  unfold long13
  by_cases h1 : 150 < s.size
  · have z1 : (150 : Int) < (s.size : Int) := by omega
    by_cases h2 : s.size ≤ 1202
    · have z2 : (s.size : Int) ≤ 1202 := by omega
      rw [decide_eq_true h1, decide_eq_true h2]
      go_enter Tryz.func18, Tryz.ntmps18
      go_wp2
      go_ret
      exact ⟨rfl, rfl⟩
    · have z2 : ¬ (s.size : Int) ≤ 1202 := by omega
      by_cases h3 : 5000 < s.size
      · have z3 : (5000 : Int) < (s.size : Int) := by omega
        rw [decide_eq_true h1, decide_eq_false h2, decide_eq_true h3]
        go_enter Tryz.func18, Tryz.ntmps18
        go_wp2
        go_ret
        exact ⟨rfl, rfl⟩
      · have z3 : ¬ (5000 : Int) < (s.size : Int) := by omega
        rw [decide_eq_true h1, decide_eq_false h2, decide_eq_false h3]
        go_enter Tryz.func18, Tryz.ntmps18
        go_wp2
        go_ret
        exact ⟨rfl, rfl⟩
  · have z1 : ¬ (150 : Int) < (s.size : Int) := by omega
    have h3 : ¬ 5000 < s.size := by omega
    have z3 : ¬ (5000 : Int) < (s.size : Int) := by omega
    rw [decide_eq_false h1, decide_eq_false h3]
    go_enter Tryz.func18, Tryz.ntmps18
    go_wp2
    go_ret
    exact ⟨rfl, rfl⟩
theorem all_drop (ss : List ByteArray) (k : Nat) (h : k < ss.length) : ((ss.drop k).all fun s => !long13 s) = (!long13 (ss.getD k ByteArray.empty) && (ss.drop (k + 1)).all fun s => !long13 s) := by
  rw [List.drop_eq_getElem_cons h, List.all_cons]
  simp [List.getD, h]
set_option maxHeartbeats 2000000 in
theorem few_any13 (a b : ByteArray) (v : Value) (ss : List ByteArray) (hi hf : Bool) (w : World) (hv : Txs w v ss) :
    Calls Tryz.prog 10 #[.agg #[.string a, v, .string b, .bool hi, .bool hf]] w fun e w' => e = .returned (.bool (few13 a b ss)) ∧ Below w.heap.size w w' := by
  obtain ⟨ad, cap, rfl, hn, hc⟩ := hv
  have HA := hide (fun W => long_any13 a W)
  have HB := hide (fun W => long_any13 b W)
  unfold few13
  have hb0 := Below.one w (.cells #[.string a, .slice ad ss.length cap, .string b, .bool hi, .bool hf] 29)
  by_cases h9 : ss.length ≤ 9
  · have z9 : ¬ (9 : Int) < (ss.length : Int) := by omega
    rw [decide_eq_true h9]
    generalize long13 a = la at *
    generalize long13 b = lb at *
    cases la
    · cases lb
      · have HC := hide hc
        clear hc
        go_enter Tryz.func10, Tryz.ntmps10
        go_wp2_with (first
          | (go_at_call_of 18 (b); refine (unhide HB _).mono ?_; rintro e w2 ⟨rfl, rfl⟩)
          | (go_at_call_of 18 (a); refine (unhide HA _).mono ?_; rintro e w1 ⟨rfl, rfl⟩))
        go_loop [3] (fun i => ∃ k : Nat, k ≤ ss.length ∧ i = .int .i64 (k : Int) ∧ Hid ((ss.all fun s => !long13 s) = (ss.drop k).all fun s => !long13 s)) (fun i => ss.length - (intOf i).toNat)
        case atStart => exact ⟨0, Nat.zero_le _, rfl, rfl⟩
        case round =>
          obtain ⟨k, hk, rfl, HE⟩ := hrel
          by_cases hlt : k < ss.length
          · have hzl : (k : Int) < (ss.length : Int) := by omega
            have hz0 : (0 : Int) ≤ (k : Int) := by omega
            obtain ⟨g, off, rfl, hcc⟩ := unhide HC (by omega)
            have k1 : (w.alloc (.cells #[.string a, .slice (some ⟨g, off, none⟩) ss.length cap, .string b, .bool hi, .bool hf] 29)).cell? ⟨g, off + k, none⟩ = some (.string (ss.getD k ByteArray.empty)) := (hb0.cell (p := ⟨g, off + k, none⟩) (cell_lt (hcc k hlt))).trans (hcc k hlt)
            have HD := hide (all_drop ss k hlt)
            have HX := hide (fun W => long_any13 (ss.getD k ByteArray.empty) W)
            have l1 : g < w.heap.size := cell_lt (hcc k hlt)
            have k2 := hcc k hlt
            clear hcc HA HB
            generalize ss.getD k ByteArray.empty = s at *
            generalize long13 s = q at *
            cases q
            · have HR : Hid ((ss.all fun s => !long13 s) = (ss.drop (k + 1)).all fun s => !long13 s) := by show _ = _; rw [unhide HE, unhide HD]; rfl
              go_wp2_with (go_at_call 18; refine (unhide HX _).mono ?_; rintro e w3 ⟨rfl, rfl⟩)
              go_round
              case rel => exact ⟨k + 1, by omega, by go_num, HR⟩
              case measure => simp [intOf]; omega
            · have HR : Hid ((ss.all fun s => !long13 s) = false) := by show _ = _; rw [unhide HE, unhide HD]; rfl
              go_wp2_with (go_at_call 18; refine (unhide HX _).mono ?_; rintro e w3 ⟨rfl, rfl⟩)
              go_ret
              exact ⟨ret_bool (by rw [unhide HR]; rfl), hb0⟩
          · have hzl : ¬ (k : Int) < (ss.length : Int) := by omega
            have HR : Hid ((ss.all fun s => !long13 s) = true) := by show _ = _; rw [unhide HE, List.drop_eq_nil_of_le (by omega)]; rfl
            go_wp2
            go_ret
            exact ⟨ret_bool (by rw [unhide HR]), hb0⟩
      · clear hc
        go_enter Tryz.func10, Tryz.ntmps10
        go_wp2_with (first
          | (go_at_call_of 18 (b); refine (unhide HB _).mono ?_; rintro e w2 ⟨rfl, rfl⟩)
          | (go_at_call_of 18 (a); refine (unhide HA _).mono ?_; rintro e w1 ⟨rfl, rfl⟩))
        go_ret
        exact ⟨rfl, hb0⟩
    · clear hc HB
      go_enter Tryz.func10, Tryz.ntmps10
      go_wp2_with (go_at_call 18; refine (unhide HA _).mono ?_; rintro e w1 ⟨rfl, rfl⟩)
      go_ret
      exact ⟨rfl, hb0⟩
  · have z9 : (9 : Int) < (ss.length : Int) := by omega
    rw [decide_eq_false h9]
    clear hc HA HB
    go_enter Tryz.func10, Tryz.ntmps10
    go_wp2
    go_ret
    exact ⟨rfl, hb0⟩
end Go.Proofs.YtddliikhjilngaaGreatDoor
