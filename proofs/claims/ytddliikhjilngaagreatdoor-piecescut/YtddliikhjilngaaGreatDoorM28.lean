/- pieces.Match. -/
import Derived.Test.YtddliikhjilngaaGreatDoorM25
namespace Go.Proofs.YtddliikhjilngaaGreatDoor
set_option maxRecDepth 100000
open Go.RowKit

/-- The library's bound holds some number. -/
def Mx (w : World) : Prop := ∃ m, w.cell? ⟨0, 0, none⟩ = some (.int .i64 m)
theorem Mx.keep {w w2 : World} (h : Mx w) (hb : Below w.heap.size w w2) : Mx w2 := by
  obtain ⟨m, hm⟩ := h
  exact ⟨m, (hb.cell (cell_lt hm)).trans hm⟩
theorem bts_mk (l : List UInt8) : bts ⟨l.toArray⟩ = l := by simp [bts]
theorem bts_extract (s : ByteArray) (i : Nat) : bts (s.extract i s.size) = (bts s).drop i := by
  rw [← bts_toList, Lib.extract_toList]
  show ((bts s).drop i).take (s.size - i) = _
  rw [List.take_of_length_le (by rw [List.length_drop, bts_len]; exact Nat.le_refl _)]
theorem getD_map (ss : List ByteArray) (k : Nat) (h : k < ss.length) : (ss.map bts).drop k = bts (ss.getD k ByteArray.empty) :: (ss.map bts).drop (k + 1) := by
  have h2 : k < (ss.map bts).length := by rw [List.length_map]; exact h
  rw [List.drop_eq_getElem_cons h2]
  simp [List.getD, h]

set_option maxHeartbeats 1000000 in
theorem match_unformed (V a b : ByteArray) (v : Value) (ss : List ByteArray) (hi hf : Bool) (w : World) (hv : Txs w v ss) (hF : fmd (bts a) (bts b) ss.length hi hf = false) :
    Calls Tryz.prog 9 #[.string V, .agg #[.string a, v, .string b, .bool hi, .bool hf]] w fun e w' => e = .returned (.bool false) ∧ Below w.heap.size w w' := by
  obtain ⟨ad, cap, rfl, hn, hc⟩ := hv
  have HF := hide (fun W => formed_any a b ad ss.length cap hi hf W hn)
  rw [hF] at HF
  clear hF hc
  go_enter Tryz.func9, Tryz.ntmps9
  go_wp2_with (go_at_call 13; refine (unhide HF _).mono ?_; rintro e w2 ⟨rfl, b1⟩)
  go_ret
  exact ⟨rfl, below_new b1⟩
set_option maxHeartbeats 1000000 in
theorem match_nopre (V a b : ByteArray) (v : Value) (ss : List ByteArray) (hi hf : Bool) (w : World) (hv : Txs w v ss) (hF : fmd (bts a) (bts b) ss.length hi hf = true) (hP : Lib.hasPrefix (bts V) (bts a) = false) :
    Calls Tryz.prog 9 #[.string V, .agg #[.string a, v, .string b, .bool hi, .bool hf]] w fun e w' => e = .returned (.bool false) ∧ Below w.heap.size w w' := by
  obtain ⟨ad, cap, rfl, hn, hc⟩ := hv
  have HF := hide (fun W => formed_any a b ad ss.length cap hi hf W hn)
  rw [hF] at HF
  have HP : Hid (∀ W, Calls Tryz.prog 15 #[.string V, .string a] W fun e w' => ∃ R, e = .returned (.tuple #[.string R, .bool false]) ∧ W = w') :=
    fun W => by
      have hP' : Lib.hasPrefix V.data.toList a.data.toList = false := hP
      have H := cutpre13 V a W
      rw [hP'] at H
      exact H.mono fun e w' h => ⟨_, h.1, h.2.symm⟩
  obtain ⟨c0, c1, c2, c3, c4⟩ := box13 w (.string a) (.slice ad ss.length cap) (.string b) (.bool hi) (.bool hf) 29
  clear hF hc hP
  go_enter Tryz.func9, Tryz.ntmps9
  go_wp2_with (first
    | (go_at_call 15; refine (unhide HP _).mono ?_; rintro e w3 ⟨R, rfl, rfl⟩)
    | (go_at_call 13; refine (unhide HF _).mono ?_; rintro e w2 ⟨rfl, b1⟩; obtain ⟨d0, d1, d2, d3, d4⟩ := kept13 b1 c0 c1 c2 c3 c4))
  go_ret
  exact ⟨rfl, below_new b1⟩
set_option maxHeartbeats 1000000 in
theorem match_nosuf (V a b : ByteArray) (v : Value) (ss : List ByteArray) (hi hf : Bool) (w : World) (hV : V.size ≤ 9223372036854775807) (hv : Txs w v ss) (hF : fmd (bts a) (bts b) ss.length hi hf = true) (hP : Lib.hasPrefix (bts V) (bts a) = true)
    (hS : Lib.hasSuffix ((bts V).drop (bts a).length) (bts b) = false) :
    Calls Tryz.prog 9 #[.string V, .agg #[.string a, v, .string b, .bool hi, .bool hf]] w fun e w' => e = .returned (.bool false) ∧ Below w.heap.size w w' := by
  obtain ⟨ad, cap, rfl, hn, hc⟩ := hv
  have HF := hide (fun W => formed_any a b ad ss.length cap hi hf W hn)
  rw [hF] at HF
  obtain ⟨R, hR⟩ : ∃ R : ByteArray, R = ⟨((bts V).drop (bts a).length).toArray⟩ := ⟨_, rfl⟩
  have hRb : bts R = (bts V).drop (bts a).length := by rw [hR, bts_mk]
  have hRs : R.size ≤ 9223372036854775807 := by rw [← bts_len, hRb, List.length_drop, bts_len]; omega
  have HP : Hid (∀ W, Calls Tryz.prog 15 #[.string V, .string a] W fun e w' => e = .returned (.tuple #[.string R, .bool true]) ∧ W = w') :=
    fun W => by
      have hP' : Lib.hasPrefix V.data.toList a.data.toList = true := hP
      have H := cutpre13 V a W
      have hR' : (⟨(Lib.trimPrefix V.data.toList a.data.toList).toArray⟩ : ByteArray) = R := by
        rw [hR, Lib.trimPrefix, hP', if_pos rfl]
        rfl
      rw [hP', hR'] at H
      exact H.mono fun e w' h => ⟨h.1, h.2.symm⟩
  have HS : Hid (∀ W, Calls Tryz.prog 16 #[.string R, .string b] W fun e w' => ∃ R', e = .returned (.tuple #[.string R', .bool false]) ∧ W = w') :=
    fun W => by
      have hS' : Lib.hasSuffix R.data.toList b.data.toList = false := by rw [← hRb] at hS; exact hS
      have H := cutsuf13 R b W hRs
      rw [hS'] at H
      exact H.mono fun e w' h => ⟨_, h.1, h.2.symm⟩
  obtain ⟨c0, c1, c2, c3, c4⟩ := box13 w (.string a) (.slice ad ss.length cap) (.string b) (.bool hi) (.bool hf) 29
  clear hF hc hP hS hR hRb hRs
  go_enter Tryz.func9, Tryz.ntmps9
  go_wp2_with (first
    | (go_at_call 16; refine (unhide HS _).mono ?_; rintro e w4 ⟨R', rfl, rfl⟩)
    | (go_at_call 15; refine (unhide HP _).mono ?_; rintro e w3 ⟨rfl, rfl⟩)
    | (go_at_call 13; refine (unhide HF _).mono ?_; rintro e w2 ⟨rfl, b1⟩; obtain ⟨d0, d1, d2, d3, d4⟩ := kept13 b1 c0 c1 c2 c3 c4))
  go_ret
  exact ⟨rfl, below_new b1⟩
set_option maxHeartbeats 2000000 in
theorem match_loop (V a b : ByteArray) (v : Value) (ss : List ByteArray) (hi hf : Bool) (w : World) (hV : V.size ≤ 9223372036854775807) (hx : 0 < ss.length → V.size < 4294967281 ∧ Mx w) (hv : Txs w v ss) (hF : fmd (bts a) (bts b) ss.length hi hf = true) (hP : Lib.hasPrefix (bts V) (bts a) = true)
    (hS : Lib.hasSuffix ((bts V).drop (bts a).length) (bts b) = true) :
    Calls Tryz.prog 9 #[.string V, .agg #[.string a, v, .string b, .bool hi, .bool hf]] w fun e w' => e = .returned (.bool (btw (mid (bts V) (bts a) (bts b)) (ss.map bts))) ∧ Below w.heap.size w w' := by
  obtain ⟨ad, cap, rfl, hn, hc⟩ := hv
  have HF := hide (fun W => formed_any a b ad ss.length cap hi hf W hn)
  rw [hF] at HF
  obtain ⟨R, hR⟩ : ∃ R : ByteArray, R = ⟨((bts V).drop (bts a).length).toArray⟩ := ⟨_, rfl⟩
  have hRb : bts R = (bts V).drop (bts a).length := by rw [hR, bts_mk]
  have hRs : R.size ≤ 9223372036854775807 := by rw [← bts_len, hRb, List.length_drop, bts_len]; omega
  obtain ⟨M, hM⟩ : ∃ M : ByteArray, M = ⟨(mid (bts V) (bts a) (bts b)).toArray⟩ := ⟨_, rfl⟩
  have hMb : bts M = mid (bts V) (bts a) (bts b) := by rw [hM, bts_mk]
  have hMs : M.size ≤ V.size := by
    rw [← bts_len, hMb, ← bts_len V]; unfold mid; rw [List.length_take, List.length_drop]; omega
  have HP : Hid (∀ W, Calls Tryz.prog 15 #[.string V, .string a] W fun e w' => e = .returned (.tuple #[.string R, .bool true]) ∧ W = w') :=
    fun W => by
      have hP' : Lib.hasPrefix V.data.toList a.data.toList = true := hP
      have H := cutpre13 V a W
      have hR' : (⟨(Lib.trimPrefix V.data.toList a.data.toList).toArray⟩ : ByteArray) = R := by
        rw [hR, Lib.trimPrefix, hP', if_pos rfl]
        rfl
      rw [hP', hR'] at H
      exact H.mono fun e w' h => ⟨h.1, h.2.symm⟩
  have HS : Hid (∀ W, Calls Tryz.prog 16 #[.string R, .string b] W fun e w' => e = .returned (.tuple #[.string M, .bool true]) ∧ W = w') :=
    fun W => by
      have hS' : Lib.hasSuffix R.data.toList b.data.toList = true := by rw [← hRb] at hS; exact hS
      have H := cutsuf13 R b W hRs
      have hM' : (⟨(Lib.trimSuffix R.data.toList b.data.toList).toArray⟩ : ByteArray) = M := by
        rw [hM, Lib.trimSuffix, hS', if_pos rfl]
        unfold mid
        rw [← hRb]
        rfl
      rw [hS', hM'] at H
      exact H.mono fun e w' h => ⟨h.1, h.2.symm⟩
  have HI : Hid (∀ (T s : ByteArray) W, 0 < ss.length → T.size ≤ M.size → Below w.heap.size w W → Calls Tryz.prog 17 #[.string T, .string s] W fun e w' => e = .returned (.int .i64 (Lib.index (bts T) (bts s))) ∧ W = w') :=
    fun T s W h0 hT hW => (index13 T s W (by have := (hx h0).1; omega) ((hx h0).2.keep hW)).mono fun e w' ⟨h1, h2⟩ => ⟨h1, h2.symm⟩
  obtain ⟨c0, c1, c2, c3, c4⟩ := box13 w (.string a) (.slice ad ss.length cap) (.string b) (.bool hi) (.bool hf) 29
  rw [← hMb]
  have HC := hide hc
  clear hF hc hP hS hR hRb hRs hM hMb hx
  generalize hMz : M.size = Z at HI
  go_enter Tryz.func9, Tryz.ntmps9
  go_wp2_with (first
    | (go_at_call 16; refine (unhide HS _).mono ?_; rintro e w4 ⟨rfl, rfl⟩)
    | (go_at_call 15; refine (unhide HP _).mono ?_; rintro e w3 ⟨rfl, rfl⟩)
    | (go_at_call 13; refine (unhide HF _).mono ?_; rintro e w2 ⟨rfl, b1⟩; obtain ⟨d0, d1, d2, d3, d4⟩ := kept13 b1 c0 c1 c2 c3 c4))
  have hb := below_new b1
  have HB := hide hb
  clear hb
  go_loop [5, 35] (fun r i => ∃ (k : Nat) (T : ByteArray), k ≤ ss.length ∧ i = .int .i64 (k : Int) ∧ r = .string T ∧ T.size ≤ Z ∧ Hid (btw (bts M) (ss.map bts) = btw (bts T) ((ss.map bts).drop k))) (fun _ i => ss.length - (intOf i).toNat)
  case atStart => exact ⟨0, M, Nat.zero_le _, rfl, rfl, by omega, by show _ = _; rw [List.drop_zero]⟩
  case round =>
    obtain ⟨k, T, hk, rfl, rfl, hT, HE⟩ := hrel
    by_cases hlt : k < ss.length
    · have hzl : (k : Int) < (ss.length : Int) := by omega
      have hz0 : (0 : Int) ≤ (k : Int) := by omega
      obtain ⟨g, off, rfl, hcc⟩ := unhide HC (by omega)
      have k1 : w2.cell? ⟨g, off + k, none⟩ = some (.string (ss.getD k ByteArray.empty)) := ((unhide HB).cell (p := ⟨g, off + k, none⟩) (cell_lt (hcc k hlt))).trans (hcc k hlt)
      have HX := unhide HI T (ss.getD k ByteArray.empty) w2 (by omega) hT (unhide HB)
      have HD := hide (getD_map ss k hlt)
      clear hcc
      generalize ss.getD k ByteArray.empty = s at *
      rcases index_spec (bts s) (bts T) with ⟨h1, _⟩ | ⟨q, h1, _, h3, _⟩
      · rw [h1] at HX
        have HR : Hid (btw (bts M) (ss.map bts) = false) := by
          show _ = _
          rw [unhide HE, unhide HD, btw, h1, if_pos (by decide)]
        clear h1
        go_wp2_with (go_at_call 17; refine HX.mono ?_; rintro e w5 ⟨rfl, rfl⟩)
        go_ret
        exact ⟨ret_bool (unhide HR).symm, unhide HB⟩
      · rw [h1] at HX
        rw [bts_len, bts_len] at h3
        have HR : Hid (btw (bts M) (ss.map bts) = btw (bts (T.extract (q + s.size) T.size)) ((ss.map bts).drop (k + 1))) := by
          show _ = _
          rw [unhide HE, unhide HD, btw, h1, if_neg (by omega), Int.toNat_natCast, bts_extract, bts_len]
        have q0 : ¬ (q : Int) < 0 := by omega
        have q1 : (0 : Int) ≤ (q : Int) + (s.size : Int) := by omega
        have q2 : (q : Int) + (s.size : Int) ≤ (T.size : Int) := by omega
        have q3 : (T.extract (q + s.size) T.size).size ≤ Z := by rw [ByteArray.size_extract]; omega
        clear h1
        go_wp2_with (go_at_call 17; refine HX.mono ?_; rintro e w5 ⟨rfl, rfl⟩)
        go_round
        case rel => exact ⟨k + 1, _, by omega, by go_num, rfl, q3, HR⟩
        case measure => simp [intOf]; omega
    · have hzl : ¬ (k : Int) < (ss.length : Int) := by omega
      have HR : Hid (btw (bts M) (ss.map bts) = true) := by
        show _ = _
        rw [unhide HE, List.drop_eq_nil_of_le (by rw [List.length_map]; omega), btw]
      go_wp2
      go_ret
      exact ⟨ret_bool (unhide HR).symm, unhide HB⟩
/-- Match, of any pieces. -/
theorem match_any (V a b : ByteArray) (v : Value) (ss : List ByteArray) (hi hf : Bool) (w : World) (hV : V.size ≤ 9223372036854775807) (hx : 0 < ss.length → V.size < 4294967281 ∧ Mx w) (hv : Txs w v ss) :
    Calls Tryz.prog 9 #[.string V, .agg #[.string a, v, .string b, .bool hi, .bool hf]] w fun e w' => e = .returned (.bool (mat (bts V) (bts a) (bts b) (ss.map bts) hi hf)) ∧ Below w.heap.size w w' := by
  unfold mat
  rw [List.length_map]
  cases hF : fmd (bts a) (bts b) ss.length hi hf
  · exact match_unformed V a b v ss hi hf w hv hF
  · cases hP : Lib.hasPrefix (bts V) (bts a)
    · exact match_nopre V a b v ss hi hf w hv hF hP
    · cases hS : Lib.hasSuffix ((bts V).drop (bts a).length) (bts b)
      · exact match_nosuf V a b v ss hi hf w hV hv hF hP hS
      · exact match_loop V a b v ss hi hf w hV hx hv hF hP hS
end Go.Proofs.YtddliikhjilngaaGreatDoor
