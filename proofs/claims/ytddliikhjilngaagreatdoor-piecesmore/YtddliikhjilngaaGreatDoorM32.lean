/- The law PiecesMore (P13.5): where it asks its probe alone. -/
import Derived.Test.YtddliikhjilngaaGreatDoorM31
namespace Go.Proofs.YtddliikhjilngaaGreatDoor
set_option maxRecDepth 100000
open Go.RowKit

set_option maxHeartbeats 2000000 in
theorem more_out (V a b : ByteArray) (v : Value) (ss : List ByteArray) (hi hf : Bool) (i : Int) (w : World) (hL : L13 w) (hv : Txs w v ss)
    (h : 5000 < V.size ∨ few13 a b ss = false ∨ i < 0 ∨ (ss.length : Int) ≤ i ∨ mat (bts V) (bts a) (bts b) (ss.map bts) hi hf = false) :
    Calls Tryz.prog 5 #[.string V, .agg #[.string a, v, .string b, .bool hi, .bool hf], .int .i64 i] w fun e w' => e = .returned (.bool true) ∧ Below w.heap.size w w' := by
  have b0 := Below.one w (.cells #[.string a, v, .string b, .bool hi, .bool hf] 29)
  obtain ⟨c0, c1, c2, c3, c4⟩ := box13 w (.string a) v (.string b) (.bool hi) (.bool hf) 29
  have HAW : Hid (∀ W, Below w.heap.size w W → Calls Tryz.prog 6 #[] W fun e w' => e = .returned (.bool true) ∧ Below W.heap.size W w') := fun W hW => awake13 W (hL.keep hW)
  have HF : Hid (∀ W, Below w.heap.size w W → Calls Tryz.prog 10 #[.agg #[.string a, v, .string b, .bool hi, .bool hf]] W fun e w' => e = .returned (.bool (few13 a b ss)) ∧ Below W.heap.size W w') := fun W hW => few_any13 a b v ss hi hf W (hv.below hW)
  have HT := hide hv
  have HL := hide hL
  obtain ⟨ad, cap, rfl, -, -⟩ := hv
  by_cases h1 : 5000 < V.size
  · have z1 : (5000 : Int) < (V.size : Int) := by omega
    clear HF hL h
    go_enter Tryz.func5, Tryz.ntmps5
    go_wp2_with (go_at_call 6; refine (unhide HAW _ b0).mono ?_; rintro e w1 ⟨rfl, b1⟩)
    go_ret
    exact ⟨rfl, below_new b1⟩
  · have z1 : ¬ (5000 : Int) < (V.size : Int) := by omega
    cases h2 : few13 a b ss
    · rw [h2] at HF
      clear hL h
      go_enter Tryz.func5, Tryz.ntmps5
      go_wp2_with (first
        | (go_at_call 6; refine (unhide HAW _ t1).mono ?_; rintro e w2 ⟨rfl, b2⟩; have t2 := below_next13 t1 b2)
        | (go_at_call 10; refine (unhide HF _ b0).mono ?_; rintro e w1 ⟨rfl, b1⟩; have t1 := below_new b1))
      go_ret
      exact ⟨rfl, t2⟩
    · rw [h2] at HF
      by_cases h3 : i < 0
      · clear hL h
        go_enter Tryz.func5, Tryz.ntmps5
        go_wp2_with (first
          | (go_at_call 6; refine (unhide HAW _ t1).mono ?_; rintro e w2 ⟨rfl, b2⟩; have t2 := below_next13 t1 b2)
          | (go_at_call 10; refine (unhide HF _ b0).mono ?_; rintro e w1 ⟨rfl, b1⟩; have t1 := below_new b1))
        go_ret
        exact ⟨rfl, t2⟩
      · by_cases h4 : (ss.length : Int) ≤ i
        · have z4 : i ≥ (ss.length : Int) := h4
          clear hL h
          go_enter Tryz.func5, Tryz.ntmps5
          go_wp2_with (first
            | (go_at_call 6; refine (unhide HAW _ t1).mono ?_; rintro e w2 ⟨rfl, b2⟩; have t2 := below_next13 t1 b2)
            | (go_at_call 10; refine (unhide HF _ b0).mono ?_; rintro e w1 ⟨rfl, b1⟩; have t1 := below_new b1; obtain ⟨d0, d1, d2, d3, d4⟩ := kept13 b1 c0 c1 c2 c3 c4))
          go_ret
          exact ⟨rfl, t2⟩
        · have z4 : ¬ i ≥ (ss.length : Int) := h4
          have h5 : mat (bts V) (bts a) (bts b) (ss.map bts) hi hf = false := by
            rcases h with h | h | h | h | h
            · exact absurd h h1
            · rw [h2] at h; cases h
            · exact absurd h h3
            · exact absurd h h4
            · exact h
          have HM : Hid (∀ W, Below w.heap.size w W → Calls Tryz.prog 9 #[.string V, .agg #[.string a, .slice ad ss.length cap, .string b, .bool hi, .bool hf]] W fun e w' => e = .returned (.bool false) ∧ Below W.heap.size W w') := fun W hW => by
            have := match_any V a b (.slice ad ss.length cap) ss hi hf W (by omega) (fun _ => ⟨by omega, (hL.keep hW).m⟩) ((unhide HT).below hW)
            rwa [h5] at this
          clear hL h h5 h2
          go_enter Tryz.func5, Tryz.ntmps5
          go_wp2_with (first
            | (go_at_call 6; refine (unhide HAW _ t2).mono ?_; rintro e w3 ⟨rfl, b3⟩; have t3 := below_next13 t2 b3)
            | (go_at_call 9; refine (unhide HM _ t1).mono ?_; rintro e w2 ⟨rfl, b2⟩; have t2 := below_next13 t1 b2)
            | (go_at_call 10; refine (unhide HF _ b0).mono ?_; rintro e w1 ⟨rfl, b1⟩; have t1 := below_new b1; obtain ⟨d0, d1, d2, d3, d4⟩ := kept13 b1 c0 c1 c2 c3 c4))
          go_ret
          exact ⟨rfl, t3⟩
end Go.Proofs.YtddliikhjilngaaGreatDoor
