/- The landed gauss: part, signed, Parse. -/
import Derived.Test.YtpkofpgdnbkknaaDoorDc14
import Derived.Test.YtpkofpgdnbkknaaDoorMathp14
namespace Go.Proofs.YtpkofpgdnbkknaaDoor
open Go.RowKit

theorem nums_nil : nums ⟨#[]⟩ = [] := rfl
/-- Does a text begin with a byte? -/
theorem pre_one (s : ByteArray) (c : UInt8) (hc : c ≠ 0) : Lib.hasPrefix s.data.toList [c] = decide ((nums s).getD 0 0 = (c.toNat : Int)) := by
  unfold Lib.hasPrefix nums
  cases s.data.toList with
  | nil =>
    have : c.toNat ≠ 0 := fun h => hc (UInt8.toNat_inj.1 (by rw [h]; rfl))
    simp
    omega
  | cons d t =>
    rw [Bool.eq_iff_iff]
    simp
    constructor
    · rintro rfl; rfl
    · intro h
      exact UInt8.toNat_inj.1 (by omega)
theorem trim_yes (s : ByteArray) (c : UInt8) (h : Lib.hasPrefix s.data.toList [c] = true) : (⟨(Lib.trimPrefix s.data.toList [c]).toArray⟩ : ByteArray) = strOfNums ((nums s).drop 1) := by
  rw [str_mk]
  congr 1
  unfold Lib.trimPrefix nums
  rw [if_pos h, List.map_drop]
  rfl
theorem trim_no (s : ByteArray) (c : UInt8) (h : Lib.hasPrefix s.data.toList [c] = false) : (⟨(Lib.trimPrefix s.data.toList [c]).toArray⟩ : ByteArray) = s := by
  unfold Lib.trimPrefix
  rw [if_neg (by rw [h]; simp)]
theorem cut_min (s : ByteArray) (w : World) : Calls Tryd.prog 40 #[.string s, .string ⟨#[45]⟩] w fun e w' => e = .returned (.tuple #[.string (if (nums s).getD 0 0 = 45 then strOfNums ((nums s).drop 1) else s), .bool (decide ((nums s).getD 0 0 = 45))]) ∧ w' = w := by
  have H := cutpre14 s ⟨#[45]⟩ w
  have e1 : (ByteArray.mk #[45]).data.toList = [45] := rfl
  have e2 := pre_one s 45 (by decide)
  have e3 : (((45 : UInt8).toNat : Nat) : Int) = 45 := rfl
  rw [e3] at e2
  rw [e1] at H
  by_cases h : (nums s).getD 0 0 = 45
  · rw [decide_eq_true h] at e2
    rw [trim_yes s 45 e2, e2] at H
    rw [if_pos h, decide_eq_true h]
    exact H
  · rw [decide_eq_false h] at e2
    rw [trim_no s 45 e2, e2] at H
    rw [if_neg h, decide_eq_false h]
    exact H
theorem cut_plus (s : ByteArray) (w : World) : Calls Tryd.prog 40 #[.string s, .string ⟨#[43]⟩] w fun e w' => e = .returned (.tuple #[.string (if (nums s).getD 0 0 = 43 then strOfNums ((nums s).drop 1) else s), .bool (decide ((nums s).getD 0 0 = 43))]) ∧ w' = w := by
  have H := cutpre14 s ⟨#[43]⟩ w
  have e1 : (ByteArray.mk #[43]).data.toList = [43] := rfl
  have e2 := pre_one s 43 (by decide)
  have e3 : (((43 : UInt8).toNat : Nat) : Int) = 43 := rfl
  rw [e3] at e2
  rw [e1] at H
  by_cases h : (nums s).getD 0 0 = 43
  · rw [decide_eq_true h] at e2
    rw [trim_yes s 43 e2, e2] at H
    rw [if_pos h, decide_eq_true h]
    exact H
  · rw [decide_eq_false h] at e2
    rw [trim_no s 43 e2, e2] at H
    rw [if_neg h, decide_eq_false h]
    exact H
theorem has_min (s : ByteArray) (w : World) : Calls Tryd.prog 41 #[.string s, .string ⟨#[45]⟩] w fun e w' => e = .returned (.bool (decide ((nums s).getD 0 0 = 45))) ∧ w' = w := by
  have H := haspre14 s ⟨#[45]⟩ w
  have e1 : (ByteArray.mk #[45]).data.toList = [45] := rfl
  rw [e1, pre_one s 45 (by decide)] at H
  exact H
theorem ext_drop (t : ByteArray) (k : Nat) : t.extract k t.size = strOfNums ((nums t).drop k) := by
  apply ByteArray.ext
  apply Array.toList_inj.1
  rw [strOfNums_data, ByteArray.data_extract, Array.toList_extract]
  unfold nums
  rw [← List.map_drop, List.map_map]
  have e : ((fun b => UInt8.ofNat b.toNat) ∘ fun (b : UInt8) => (b.toNat : Int)) = id := by
    funext x
    simp
  first | rw [e, List.map_id] | skip
  rw [List.extract_eq_take_drop, List.take_of_length_le (by simp)]
theorem goP_step (s : List Int) (x : Int) (k j : Nat) (h : k < s.length) : goP (s.drop k) (j + 1) x = if 48 ≤ s.getD k 0 ∧ s.getD k 0 ≤ 57 ∧ (0 < x ∨ s.getD k 0 ≠ 48) then goP (s.drop (k + 1)) j (x * 10 + (s.getD k 0 - 48)) else (x, s.drop k) := by
  rw [List.drop_eq_getElem_cons h]
  simp [goP, List.getD, h]
theorem goP_end (s : List Int) (x : Int) (k j : Nat) (h : ¬ k < s.length) : goP (s.drop k) j x = (x, s.drop k) := by
  rw [List.drop_eq_nil_of_le (by omega)]
  cases j <;> rfl
theorem goP_full (s : List Int) (x : Int) : goP s 0 x = (x, s) := by cases s <;> rfl
theorem ret_is {a b : Int} {c d : ByteArray} (h : a = b) (h' : c = d) : Ending.returned (.tuple #[.int .i64 a, .string c]) = .returned (.tuple #[.int .i64 b, .string d]) := by rw [h, h']
def sgn (bl : Bool) (x : Int) : Int := if bl then -x else x
set_option maxHeartbeats 6400000 in
theorem part_walk (s t : ByteArray) (bl : Bool) (w : World) (hs : t.size ≤ 9223372036854775806)
    (HC : Hid (∀ W, Calls Tryd.prog 40 #[.string s, .string ⟨#[45]⟩] W fun e w' => e = .returned (.tuple #[.string t, .bool bl]) ∧ w' = W)) :
    Calls Tryd.prog 33 #[.string s] w fun e w' => e = .returned (.tuple #[.int .i64 (sgn bl (goP (nums t) 6 0).1), .string (strOfNums (goP (nums t) 6 0).2)]) ∧ Gr w w' := by
  have hlen := nums_length t
  cases bl
  all_goals
    go_enter Tryd.func33, Tryd.ntmps33
    go_wp2_with (go_at_call 40; refine (unhide HC _).mono ?_; rintro e w1 ⟨rfl, rfl⟩)
    go_loopw [6, 7] (fun vn va wr => ∃ (k : Nat) (x : Int), k ≤ t.size ∧ k ≤ 6 ∧ vn = .int .i64 x ∧ va = .int .i64 (k : Int) ∧ 0 ≤ x ∧ Hid (x < 10 ^ k) ∧ Hid (goP (nums t) 6 0 = goP ((nums t).drop k) (6 - k) x) ∧ wr = w1) (fun _ a _ => t.size - (intOf a).toNat)
    case atStart => exact ⟨0, 0, by omega, by omega, rfl, rfl, Int.le_refl _, (by show (0 : Int) < 10 ^ 0; decide), rfl, rfl⟩
    case round =>
      obtain ⟨k, x, hk, hk6, rfl, rfl, x0, HX, HG, rfl⟩ := hrel
      have hx6 : x ≤ 999999 := by
        have h1 := unhide HX
        have h2 : (10 : Int) ^ k ≤ 10 ^ 6 := by exact_mod_cast Nat.pow_le_pow_right (n := 10) (by omega) hk6
        omega
      have y1 : IntKind.i64.wrap (-x) = -x := wrap_in (by omega) (by omega)
      have q0 : (0 : Int) ≤ (k : Int) := by omega
      have q1 : (k : Int) ≤ (t.size : Int) := by omega
      by_cases hlt : k < t.size
      · have hzl : (k : Int) < (t.size : Int) := by omega
        by_cases h6 : k < 6
        · have hz6 : (k : Int) < 6 := by omega
          have hst := goP_step (nums t) x k (5 - k) (by rw [hlen]; exact hlt)
          rw [nums_at t k hlt, show 5 - k + 1 = 6 - k by omega] at hst
          have hb0 := (t[k]).toNat_lt
          obtain ⟨c, hc⟩ : ∃ c : Int, (t[k].toNat : Int) = c := ⟨_, rfl⟩
          rw [hc] at hst
          have hc0 : 0 ≤ c := by omega
          have hc1 : c < 256 := by omega
          have HS := hide hst
          clear hst hb0
          by_cases d1 : 48 ≤ c
          · by_cases d2 : c ≤ 57
            · by_cases d3 : 0 < x ∨ c ≠ 48
              · have w1 : IntKind.i64.wrap (x * 10) = x * 10 := wrap_in (by omega) (by omega)
                have w2 : IntKind.u8.wrap (c - 48) = c - 48 := by simp [IntKind.wrap, IntKind.bits, IntKind.signed]; omega
                have w3 : IntKind.i64.wrap (c - 48) = c - 48 := wrap_in (by omega) (by omega)
                have w4 : IntKind.i64.wrap (x * 10 + (c - 48)) = x * 10 + (c - 48) := wrap_in (by omega) (by omega)
                have w5 : IntKind.i64.wrap ((k : Int) + 1) = (k : Int) + 1 := wrap_in (by omega) (by omega)
                by_cases d4 : 0 < x
                · go_wp2
                  go_roundw
                  case rel =>
                    refine ⟨k + 1, x * 10 + (c - 48), by omega, by omega, rfl, by go_num, by omega, ?_, ?_, trivial⟩
                    · show _ < _
                      have := unhide HX
                      rw [Int.pow_succ]
                      omega
                    · show _ = _
                      rw [unhide HG, unhide HS, if_pos ⟨d1, d2, d3⟩, show 6 - (k + 1) = 5 - k by omega]
                  case measure => simp [intOf]; omega
                · have d5 : ¬ c = 48 := by omega
                  go_wp2
                  go_roundw
                  case rel =>
                    refine ⟨k + 1, x * 10 + (c - 48), by omega, by omega, rfl, by go_num, by omega, ?_, ?_, trivial⟩
                    · show _ < _
                      have := unhide HX
                      rw [Int.pow_succ]
                      omega
                    · show _ = _
                      rw [unhide HG, unhide HS, if_pos ⟨d1, d2, d3⟩, show 6 - (k + 1) = 5 - k by omega]
                  case measure => simp [intOf]; omega
              · have d4 : ¬ 0 < x := fun h => d3 (.inl h)
                have d5 : c = 48 := Classical.byContradiction fun h => d3 (.inr h)
                have e : goP (nums t) 6 0 = (x, (nums t).drop k) := by rw [unhide HG, unhide HS, if_neg (by omega)]
                have HE := hide e
                subst d5
                clear e
                go_wp2
                go_region
                all_goals
                  go_wp2
                  go_ret2
                  exact ⟨by rw [unhide HE, ← ext_drop]; exact ret_is rfl rfl, (Gr.refl _).drew⟩
            · have HE : Hid (goP (nums t) 6 0 = (x, (nums t).drop k)) := by show _ = _; rw [unhide HG, unhide HS, if_neg (by omega)]
              go_wp2
              go_region
              all_goals
                go_wp2
                go_ret2
                exact ⟨by rw [unhide HE, ← ext_drop]; exact ret_is rfl rfl, (Gr.refl _).drew⟩
          · have HE : Hid (goP (nums t) 6 0 = (x, (nums t).drop k)) := by show _ = _; rw [unhide HG, unhide HS, if_neg (by omega)]
            go_wp2
            go_region
            all_goals
              go_wp2
              go_ret2
              exact ⟨by rw [unhide HE, ← ext_drop]; exact ret_is rfl rfl, (Gr.refl _).drew⟩
        · have hz6 : ¬ (k : Int) < 6 := by omega
          have HE : Hid (goP (nums t) 6 0 = (x, (nums t).drop k)) := by show _ = _; rw [unhide HG, show 6 - k = 0 by omega, goP_full]
          go_wp2
          go_region
          all_goals
            go_wp2
            go_ret2
            exact ⟨by rw [unhide HE, ← ext_drop]; exact ret_is rfl rfl, (Gr.refl _).drew⟩
      · have hzl : ¬ (k : Int) < (t.size : Int) := by omega
        have HE : Hid (goP (nums t) 6 0 = (x, (nums t).drop k)) := by show _ = _; rw [unhide HG, goP_end _ _ _ _ (by rw [hlen]; exact hlt)]
        go_wp2
        go_region
        all_goals
          go_wp2
          go_ret2
          exact ⟨by rw [unhide HE, ← ext_drop]; exact ret_is rfl rfl, (Gr.refl _).drew⟩
theorem nums_drop (s : ByteArray) (k : Nat) : nums (strOfNums ((nums s).drop k)) = (nums s).drop k := nums_strOfNums _ fun x hx => nums_bound s x (List.mem_of_mem_drop hx)
theorem size_drop (s : ByteArray) (k : Nat) : (strOfNums ((nums s).drop k)).size ≤ s.size := by rw [strOfNums_size, List.length_drop, nums_length]; omega
theorem part_any (s : ByteArray) (w : World) (hs : s.size ≤ 9223372036854775806) :
    Calls Tryd.prog 33 #[.string s] w fun e w' => e = .returned (.tuple #[.int .i64 (partL (nums s)).1, .string (strOfNums (partL (nums s)).2)]) ∧ Gr w w' := by
  by_cases h : (nums s).getD 0 0 = 45
  · have HC : Hid (∀ W, Calls Tryd.prog 40 #[.string s, .string ⟨#[45]⟩] W fun e w' => e = .returned (.tuple #[.string (strOfNums ((nums s).drop 1)), .bool true]) ∧ w' = W) := fun W => by
      have := cut_min s W
      rw [if_pos h, decide_eq_true h] at this
      exact this
    have H := part_walk s _ true w (Nat.le_trans (size_drop s 1) hs) HC
    rw [nums_drop] at H
    have e : partL (nums s) = (-(goP ((nums s).drop 1) 6 0).1, (goP ((nums s).drop 1) 6 0).2) := by unfold partL; rw [if_pos h]
    rw [e]
    exact H
  · have HC : Hid (∀ W, Calls Tryd.prog 40 #[.string s, .string ⟨#[45]⟩] W fun e w' => e = .returned (.tuple #[.string s, .bool false]) ∧ w' = W) := fun W => by
      have := cut_min s W
      rw [if_neg h, decide_eq_false h] at this
      exact this
    have H := part_walk s _ false w hs HC
    have e : partL (nums s) = goP (nums s) 6 0 := by unfold partL; rw [if_neg h]
    rw [e]
    exact H
set_option maxHeartbeats 800000 in
theorem sgn_any (s : ByteArray) (w : World) : Calls Tryd.prog 34 #[.string s] w fun e w' => e = .returned (.string (strOfNums (sgnL (nums s)))) ∧ w' = w := by
  have H1 := hide (fun W => has_min s W)
  have H2 := hide (fun W => cut_plus s W)
  by_cases h45 : (nums s).getD 0 0 = 45
  · have e : strOfNums (sgnL (nums s)) = s := by unfold sgnL; rw [if_pos h45, strOfNums_nums]
    rw [e]
    rw [decide_eq_true h45] at H1
    clear e h45 H2
    go_enter Tryd.func34, Tryd.ntmps34
    go_wp2_with (go_at_call 41; refine (unhide H1 _).mono ?_; rintro e w1 ⟨rfl, rfl⟩)
    go_ret
    exact ⟨rfl, rfl⟩
  · rw [decide_eq_false h45] at H1
    by_cases h43 : (nums s).getD 0 0 = 43
    · rw [if_pos h43, decide_eq_true h43] at H2
      have H3 := hide (fun W => has_min (strOfNums ((nums s).drop 1)) W)
      rw [nums_drop] at H3
      by_cases h2 : ((nums s).drop 1).getD 0 0 = 45
      · rw [decide_eq_true h2] at H3
        have e : strOfNums (sgnL (nums s)) = ⟨#[]⟩ := by unfold sgnL; rw [if_neg h45, if_neg (fun h => h.2 h2)]; rfl
        rw [e]
        clear e h45 h43 h2
        generalize strOfNums ((nums s).drop 1) = t at *
        go_enter Tryd.func34, Tryd.ntmps34
        go_wp2_with (first | (go_at_call 41; have m1 := k1; refine (unhide H3 _).mono ?_; rintro e w1 ⟨rfl, rfl⟩) | (go_at_call 40; refine (unhide H2 _).mono ?_; rintro e w1 ⟨rfl, rfl⟩; have k1 : True := trivial) | (go_at_call 41; refine (unhide H1 _).mono ?_; rintro e w1 ⟨rfl, rfl⟩))
        go_ret
        exact ⟨rfl, rfl⟩
      · rw [decide_eq_false h2] at H3
        have e : strOfNums (sgnL (nums s)) = strOfNums ((nums s).drop 1) := by unfold sgnL; rw [if_neg h45, if_pos ⟨h43, h2⟩]
        rw [e]
        clear e h45 h43 h2
        generalize strOfNums ((nums s).drop 1) = t at *
        go_enter Tryd.func34, Tryd.ntmps34
        go_wp2_with (first | (go_at_call 41; have m1 := k1; refine (unhide H3 _).mono ?_; rintro e w1 ⟨rfl, rfl⟩) | (go_at_call 40; refine (unhide H2 _).mono ?_; rintro e w1 ⟨rfl, rfl⟩; have k1 : True := trivial) | (go_at_call 41; refine (unhide H1 _).mono ?_; rintro e w1 ⟨rfl, rfl⟩))
        go_ret
        exact ⟨rfl, rfl⟩
    · rw [if_neg h43, decide_eq_false h43] at H2
      have e : strOfNums (sgnL (nums s)) = ⟨#[]⟩ := by unfold sgnL; rw [if_neg h45, if_neg (fun h => h43 h.1)]; rfl
      rw [e]
      clear e h45 h43
      go_enter Tryd.func34, Tryd.ntmps34
      go_wp2_with (first | (go_at_call 40; refine (unhide H2 _).mono ?_; rintro e w1 ⟨rfl, rfl⟩) | (go_at_call 41; refine (unhide H1 _).mono ?_; rintro e w1 ⟨rfl, rfl⟩))
      go_ret
      exact ⟨rfl, rfl⟩
theorem str_is (xs : List Int) (h : ∀ x ∈ xs, 0 ≤ x ∧ x < 256) (t : Array UInt8) (ys : List Int) (ht : nums ⟨t⟩ = ys) : ((strOfNums xs).toList == t.toList) = decide (xs = ys) := by
  have e := str_same xs h ⟨t⟩
  rw [ht, ByteArray.toList_eq ⟨t⟩] at e
  exact e
theorem str_emp (xs : List Int) : (strOfNums xs).toList.isEmpty = decide (xs = []) := by
  by_cases h : xs = []
  · rw [decide_eq_true h, h, ByteArray.toList_eq]; rfl
  · rw [decide_eq_false h]; exact str_some h
theorem goP_mem : ∀ (s : List Int) (k : Nat) (n : Int), ∀ x ∈ (goP s k n).2, x ∈ s
  | [], _, _, x, hx => hx
  | _ :: _, 0, _, x, hx => hx
  | c :: s, k + 1, n, x, hx => by
    simp only [goP] at hx
    split at hx
    · exact List.mem_cons_of_mem _ (goP_mem s k _ x hx)
    · exact hx
theorem partL_mem (s : List Int) : ∀ x ∈ (partL s).2, x ∈ s := by
  intro x hx
  unfold partL at hx
  split at hx
  · exact List.mem_of_mem_drop (goP_mem _ _ _ x hx)
  · exact goP_mem _ _ _ x hx
theorem sgnL_mem (s : List Int) : ∀ x ∈ sgnL s, x ∈ s := by
  intro x hx
  unfold sgnL at hx
  split at hx
  · exact hx
  · split at hx
    · exact List.mem_of_mem_drop hx
    · cases hx
theorem goP_lenle : ∀ (s : List Int) (k : Nat) (n : Int), (goP s k n).2.length ≤ s.length
  | [], _, _ => Nat.le_refl _
  | _ :: _, 0, _ => Nat.le_refl _
  | c :: s, k + 1, n => by
    simp only [goP]
    split
    · have := goP_lenle s k (n * 10 + (c - 48))
      simp; omega
    · exact Nat.le_refl _
theorem partL_lenle (s : List Int) : (partL s).2.length ≤ s.length := by
  unfold partL
  split
  · have := goP_lenle (s.drop 1) 6 0
    rw [List.length_drop] at this
    simp only
    omega
  · exact goP_lenle s 6 0
theorem sgnL_lenle (s : List Int) : (sgnL s).length ≤ s.length := by
  unfold sgnL
  split
  · exact Nat.le_refl _
  · split
    · rw [List.length_drop]; omega
    · simp
theorem ret_z {x y x' y' : Nat} {c d : Int} (h1 : x = x') (h2 : y = y') (h3 : c = d) : Ending.returned (.tuple #[cc x y, .int .i64 c]) = .returned (.tuple #[cc x' y', .int .i64 d]) := by rw [h1, h2, h3]
theorem flt_zero : floatOfInt .f64 0 = 0 := by kernel_rfl
set_option maxHeartbeats 3200000 in
theorem gparse_w (s : ByteArray) (w : World) (hs : s.size ≤ 9223372036854775806) : Calls Tryd.prog 21 #[.string s] w fun e w' => e = .returned (.tuple #[cc (floatOfInt .f64 (parG (nums s)).1) (floatOfInt .f64 (parG (nums s)).2), .int .i64 (parF (nums s))]) ∧ Gr w w' := by
  have hz : (s.toList == ([48] : List UInt8)) = decide (nums s = [48]) := by
    have := str_is (nums s) (nums_bound s) #[48] [48] rfl
    rw [strOfNums_nums] at this
    exact this
  have H1 := hide (fun W => part_any s W hs)
  have hb1 : ∀ x ∈ (partL (nums s)).2, 0 ≤ x ∧ x < 256 := fun x hx => nums_bound s x (partL_mem _ x hx)
  have hl1 : (partL (nums s)).2.length ≤ s.size := by have := partL_lenle (nums s); rwa [nums_length] at this
  by_cases c0 : nums s = [48]
  · have hp : pars (nums s) = some (0, 0) := by unfold pars; rw [if_pos c0]
    rw [(pars_some hp).1, (pars_some hp).2]
    show Calls _ _ _ _ fun e w' => e = .returned (.tuple #[cc (floatOfInt .f64 0) (floatOfInt .f64 0), .int .i64 0]) ∧ Gr w w'
    rw [flt_zero]
    rw [decide_eq_true c0] at hz
    clear H1 hp c0 hb1 hl1 hs
    go_enter Tryd.func21, Tryd.ntmps21
    go_wp2
    go_ret2
    exact ⟨rfl, Gr.refl _⟩
  · rw [decide_eq_false c0] at hz
    have HP : Hid (pars (nums s) = if (partL (nums s)).1 = 0 then none else if (partL (nums s)).2 = [] then some ((partL (nums s)).1, 0) else if (partL (nums s)).2 = [105] then some (0, (partL (nums s)).1) else if (partL (sgnL (partL (nums s)).2)).1 = 0 ∨ (partL (sgnL (partL (nums s)).2)).2 ≠ [105] then none else some ((partL (nums s)).1, (partL (sgnL (partL (nums s)).2)).1)) := by
      show _ = _
      unfold pars
      rw [if_neg c0]
    have he := str_emp (partL (nums s)).2
    have hi : ((strOfNums (partL (nums s)).2).toList == ([105] : List UInt8)) = decide ((partL (nums s)).2 = [105]) := str_is (partL (nums s)).2 hb1 #[105] [105] rfl
    have H2 := hide (fun W => sgn_any (strOfNums (partL (nums s)).2) W)
    rw [nums_strOfNums _ hb1] at H2
    have hb2 : ∀ x ∈ sgnL (partL (nums s)).2, 0 ≤ x ∧ x < 256 := fun x hx => hb1 x (sgnL_mem _ x hx)
    have hl2 := sgnL_lenle (partL (nums s)).2
    have H3 := hide (fun W => part_any (strOfNums (sgnL (partL (nums s)).2)) W (by rw [strOfNums_size]; omega))
    rw [nums_strOfNums _ hb2] at H3
    have hb3 : ∀ x ∈ (partL (sgnL (partL (nums s)).2)).2, 0 ≤ x ∧ x < 256 := fun x hx => hb2 x (partL_mem _ x hx)
    have hj : ((strOfNums (partL (sgnL (partL (nums s)).2)).2).toList == ([105] : List UInt8)) = decide ((partL (sgnL (partL (nums s)).2)).2 = [105]) := str_is (partL (sgnL (partL (nums s)).2)).2 hb3 #[105] [105] rfl
    have pn := fun h => pars_none (s := nums s) h
    have ps := fun p h => pars_some (s := nums s) (p := p) h
    clear hs c0 hb1 hl1 hb2 hl2 hb3
    generalize pars (nums s) = P at *
    generalize (partL (sgnL (partL (nums s)).2)).1 = g at *
    generalize (partL (sgnL (partL (nums s)).2)).2 = r2 at *
    generalize strOfNums (sgnL (partL (nums s)).2) = t at *
    generalize (partL (nums s)).1 = f at *
    generalize (partL (nums s)).2 = r at *
    generalize parG (nums s) = G at *
    generalize parF (nums s) = E at *
    by_cases c1 : f = 0
    · have hq := unhide HP
      rw [if_pos c1] at hq
      obtain ⟨g1, g2⟩ := pn hq
      rw [g1, g2]
      show Calls _ _ _ _ fun e w' => e = .returned (.tuple #[cc (floatOfInt .f64 0) (floatOfInt .f64 0), .int .i64 140]) ∧ Gr w w'
      rw [flt_zero]
      clear HP pn ps hq g1 g2 hi he hj H2 H3
      subst c1
      go_enter Tryd.func21, Tryd.ntmps21
      go_wp2_with (go_at_call 33; refine (unhide H1 _).mono ?_; rintro e w1 ⟨rfl, q1⟩)
      go_ret2
      exact ⟨rfl, q1⟩
    · by_cases c2 : r = []
      · have hq := unhide HP
        rw [if_neg c1, if_pos c2] at hq
        obtain ⟨g1, g2⟩ := ps _ hq
        rw [g1, g2]
        show Calls _ _ _ _ fun e w' => e = .returned (.tuple #[cc (floatOfInt .f64 f) (floatOfInt .f64 0), .int .i64 0]) ∧ Gr w w'
        rw [flt_zero]
        rw [decide_eq_true c2] at he
        clear HP pn ps hq g1 g2 hi hj H2 H3 c2
        go_enter Tryd.func21, Tryd.ntmps21
        go_wp2_with (go_at_call 33; refine (unhide H1 _).mono ?_; rintro e w1 ⟨rfl, q1⟩)
        go_ret2
        exact ⟨rfl, q1⟩
      · rw [decide_eq_false c2] at he
        by_cases c3 : r = [105]
        · have hq := unhide HP
          rw [if_neg c1, if_neg c2, if_pos c3] at hq
          obtain ⟨g1, g2⟩ := ps _ hq
          rw [g1, g2]
          show Calls _ _ _ _ fun e w' => e = .returned (.tuple #[cc (floatOfInt .f64 0) (floatOfInt .f64 f), .int .i64 0]) ∧ Gr w w'
          rw [flt_zero]
          rw [decide_eq_true c3] at hi
          clear HP pn ps hq g1 g2 hj H2 H3 c2 c3
          go_enter Tryd.func21, Tryd.ntmps21
          go_wp2_with (go_at_call 33; refine (unhide H1 _).mono ?_; rintro e w1 ⟨rfl, q1⟩)
          go_ret2
          exact ⟨rfl, q1⟩
        · rw [decide_eq_false c3] at hi
          by_cases c4 : g = 0
          · have hq := unhide HP
            rw [if_neg c1, if_neg c2, if_neg c3, if_pos (.inl c4)] at hq
            obtain ⟨g1, g2⟩ := pn hq
            rw [g1, g2]
            show Calls _ _ _ _ fun e w' => e = .returned (.tuple #[cc (floatOfInt .f64 0) (floatOfInt .f64 0), .int .i64 140]) ∧ Gr w w'
            rw [flt_zero]
            clear HP pn ps hq g1 g2 hj c2 c3
            subst c4
            go_enter Tryd.func21, Tryd.ntmps21
            go_wp2_with (first | (go_at_call 33; have m1 := k1; refine (unhide H3 _).mono ?_; rintro e w3 ⟨rfl, q3⟩) | (go_at_call 34; refine (unhide H2 _).mono ?_; rintro e w2 ⟨rfl, rfl⟩; have k1 : True := trivial) | (go_at_call 33; refine (unhide H1 _).mono ?_; rintro e w1 ⟨rfl, q1⟩))
            go_ret2
            exact ⟨rfl, q1.trans q3⟩
          · by_cases c5 : r2 = [105]
            · have hq := unhide HP
              rw [if_neg c1, if_neg c2, if_neg c3, if_neg (by simp [c4, c5])] at hq
              obtain ⟨g1, g2⟩ := ps _ hq
              rw [g1, g2]
              show Calls _ _ _ _ fun e w' => e = .returned (.tuple #[cc (floatOfInt .f64 f) (floatOfInt .f64 g), .int .i64 0]) ∧ Gr w w'
              rw [decide_eq_true c5] at hj
              clear HP pn ps hq g1 g2 c2 c3 c5
              go_enter Tryd.func21, Tryd.ntmps21
              go_wp2_with (first | (go_at_call 33; have m1 := k1; refine (unhide H3 _).mono ?_; rintro e w3 ⟨rfl, q3⟩) | (go_at_call 34; refine (unhide H2 _).mono ?_; rintro e w2 ⟨rfl, rfl⟩; have k1 : True := trivial) | (go_at_call 33; refine (unhide H1 _).mono ?_; rintro e w1 ⟨rfl, q1⟩))
              go_ret2
              exact ⟨rfl, q1.trans q3⟩
            · have hq := unhide HP
              rw [if_neg c1, if_neg c2, if_neg c3, if_pos (.inr c5)] at hq
              obtain ⟨g1, g2⟩ := pn hq
              rw [g1, g2]
              show Calls _ _ _ _ fun e w' => e = .returned (.tuple #[cc (floatOfInt .f64 0) (floatOfInt .f64 0), .int .i64 140]) ∧ Gr w w'
              rw [flt_zero]
              rw [decide_eq_false c5] at hj
              clear HP pn ps hq g1 g2 c2 c3 c5
              go_enter Tryd.func21, Tryd.ntmps21
              go_wp2_with (first | (go_at_call 33; have m1 := k1; refine (unhide H3 _).mono ?_; rintro e w3 ⟨rfl, q3⟩) | (go_at_call 34; refine (unhide H2 _).mono ?_; rintro e w2 ⟨rfl, rfl⟩; have k1 : True := trivial) | (go_at_call 33; refine (unhide H1 _).mono ?_; rintro e w1 ⟨rfl, q1⟩))
              go_ret2
              exact ⟨rfl, q1.trans q3⟩
end Go.Proofs.YtpkofpgdnbkknaaDoor
