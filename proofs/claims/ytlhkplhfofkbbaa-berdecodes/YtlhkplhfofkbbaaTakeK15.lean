/- The document's take of layer 15, whole: by the levels that are left. -/
import Derived.Test.YtlhkplhfofkbbaaRTkM15
namespace Go.Proofs.Ytlhkplhfofkbbaa
open Go.RowKit

set_option maxHeartbeats 1600000 in
theorem rall_empty (s : ByteArray) (lv : Int) (w : World) (hs : s.size = 0) : Calls Try.prog 35 #[.string s, .int .i64 lv] w fun r w' => ∃ v, r = .returned (.tuple #[v, .int .i64 0]) ∧ EsP (In w.heap.size w') w' v [] ∧ Below w.heap.size w w' := by
  have hz : (s.size : Int) = 0 := by omega
  go_enter Try.func35, Try.ntmps35
  go_wp2
  go_loopw [6, 7] (fun vo va wr => vo = .slice none 0 0 ∧ va = .int .i64 0 ∧ w = wr) (fun _ _ _ => 0)
  case atStart => exact ⟨rfl, rfl, rfl⟩
  case round =>
    obtain ⟨rfl, rfl, rfl⟩ := hrel
    go_wp2
    go_ret2
    exact ⟨_, rfl, EsP.nil _ _, Below.refl _ _⟩
/-- take at a level, over what it asks of all. -/
theorem take_ok_of (k : Nat) (hk : k ≤ 11) (hin : ∀ (b : ByteArray) (W : World), b.size ≤ 10000 → (¬ k = 0 ∨ b.size = 0) → Calls Try.prog 35 #[.string b, .int .i64 (((12 - k : Nat) : Int) + 1)] W fun r w' => ∃ v, r = .returned (.tuple #[v, .int .i64 (inn k (nums b)).2]) ∧ EsP (In W.heap.size w') w' v (inn k (nums b)).1 ∧ Below W.heap.size W w') : TakeOk k := by
  intro s i w hi hs
  obtain ⟨d, hd⟩ : ∃ d, (nums s).drop i = d := ⟨_, rfl⟩
  have hb : Byt d := hd ▸ (byt_nums s).drop i
  have hlen : d.length = s.size - i := by rw [← hd, List.length_drop, nums_length]
  obtain ⟨b1, b2, b3, b4⟩ := head_le d hb
  rw [hd]
  by_cases hx : (headB d).2.2 = 0
  · by_cases h2 : (s.size : Int) - i - (headB d).1 < (headB d).2.1
    · have e : takeB k d = (el0, 0, 150) := by
        rw [takeB_of]; unfold takeH
        rw [if_neg (by simp [hx]), if_pos (by rw [hlen]; omega)]
      have := rtake_short s i ((12 - k : Nat) : Int) w hi hs (by rw [hd]; exact hx) (by rw [hd]; omega) (by rw [hd]; omega) (by rw [hd]; omega) (by rw [hd]; omega) (by rw [hd]; exact h2)
      rw [e]
      exact this
    · by_cases h3 : 4000 < (headB d).1 + (headB d).2.1
      · have e : takeB k d = (el0, 0, 3) := by
          rw [takeB_of]; unfold takeH
          rw [if_neg (by simp [hx]), if_neg (by rw [hlen]; omega), if_pos h3]
        have := rtake_big s i ((12 - k : Nat) : Int) w hi hs (by rw [hd]; exact hx) (by rw [hd]; omega) (by rw [hd]; omega) (by rw [hd]; omega) (by rw [hd]; omega) (by rw [hd]; exact h2) (by rw [hd]; exact h3)
        rw [e]
        exact this
      · obtain ⟨g1, _, _, g4, g5, _⟩ := head_back d hb hx
        have g6 : 1 ≤ (headB d).1 := by
          have := List.length_pos_iff.2 (hd_ne (d.getD 0 0) (headB d).2.1.toNat)
          omega
        obtain ⟨h, n, hH⟩ : ∃ h n : Nat, headB d = ((h : Int), (n : Int), 0) := ⟨(headB d).1.toNat, (headB d).2.1.toNat, Prod.ext (by simp; omega) (Prod.ext (by simp; omega) hx)⟩
        rw [hH] at g6 h2 h3 g5
        simp only at g6 h2 h3 g5
        have q1 : 1 ≤ h := by omega
        have q2 : i + h + n ≤ s.size := by omega
        have q3 : h + n ≤ 4000 := by omega
        obtain ⟨t, ht⟩ : ∃ t, (nums s).getD i 0 = t := ⟨_, rfl⟩
        have ht2 : d.getD 0 0 = t := by rw [← hd, getD_drop, Nat.add_zero]; exact ht
        have hbody : (d.drop h).take n = nums (s.extract (i + h) (i + h + n)) := by rw [nums_extract, ← hd, List.drop_drop]
        have hbs : (s.extract (i + h) (i + h + n)).size = n := by rw [ByteArray.size_extract]; omega
        by_cases h4 : t / 32 % 2 = 1
        · have e : takeB k d = if (inn k (nums (s.extract (i + h) (i + h + n)))).2 ≠ 0 then (el0, 0, (inn k (nums (s.extract (i + h) (i + h + n)))).2) else (.mk (t / 64) true (t % 32) ⟨#[]⟩ (inn k (nums (s.extract (i + h) (i + h + n)))).1, h + n, 0) := by
            rw [takeB_of]; unfold takeH
            rw [hH]
            simp only [ht2]
            rw [if_neg (by simp), if_neg (by rw [hlen]; omega), if_neg h3, if_pos h4, show ((h : Int)).toNat = h from rfl, show ((n : Int)).toNat = n from rfl, hbody, show ((h : Int) + (n : Int)).toNat = h + n by omega]
          by_cases hz : k = 0 ∧ 0 < n
          · have e2 : inn k (nums (s.extract (i + h) (i + h + n))) = ([], 153) := by
              rw [hz.1]
              show (if nums (s.extract (i + h) (i + h + n)) = [] then ([], 0) else ([], 153)) = (([], 153) : List El × Int)
              rw [if_neg (fun h0 => by have := congrArg List.length h0; rw [nums_length, hbs] at this; simp at this; omega)]
            have e3 : takeB k d = (el0, 0, 153) := by rw [e, e2]; rfl
            rw [e3]
            exact rtake_made s i h n ((12 - k : Nat) : Int) w hs (by rw [hd]; exact hH) q1 q2 q3 t ht h4 (by omega) (by omega) 0 [] 0 153 el0 (.inl ⟨by rw [hz.1]; rfl, hz.2, rfl, rfl, rfl⟩)
          · have HC := fun W => hin (s.extract (i + h) (i + h + n)) W (by rw [hbs]; omega) (by rw [hbs]; omega)
            generalize inn k (nums (s.extract (i + h) (i + h + n))) = R at *
            obtain ⟨l, y⟩ := R
            simp only at HC e
            by_cases hy : y = 0
            · subst hy
              have e3 : takeB k d = (.mk (t / 64) true (t % 32) ⟨#[]⟩ l, h + n, 0) := by rw [e]; rfl
              rw [e3]
              simp only [if_true]
              exact rtake_made s i h n ((12 - k : Nat) : Int) w hs (by rw [hd]; exact hH) q1 q2 q3 t ht h4 (by omega) (by omega) 0 l ((i : Int) + ((h + n : Nat) : Int)) 0 _ (.inr ⟨by omega, HC, .inr ⟨rfl, by omega, rfl, rfl⟩⟩)
            · have e3 : takeB k d = (el0, 0, y) := by rw [e]; exact if_pos hy
              rw [e3]
              simp only [if_neg hy]
              exact rtake_made s i h n ((12 - k : Nat) : Int) w hs (by rw [hd]; exact hH) q1 q2 q3 t ht h4 (by omega) (by omega) y l 0 y el0 (.inr ⟨by omega, HC, .inl ⟨hy, rfl, rfl, rfl⟩⟩)
        · have e : takeB k d = (.mk (t / 64) false (t % 32) (s.extract (i + h) (i + h + n)) [], h + n, 0) := by
            rw [takeB_of]; unfold takeH
            rw [hH]
            simp only [ht2]
            rw [if_neg (by simp), if_neg (by rw [hlen]; omega), if_neg h3, if_neg h4, show ((h : Int)).toNat = h from rfl, show ((n : Int)).toNat = n from rfl, hbody, strOfNums_nums, show ((h : Int) + (n : Int)).toNat = h + n by omega]
          rw [e]
          simp only [if_true]
          have := rtake_plain s i h n ((12 - k : Nat) : Int) w hs (by rw [hd]; exact hH) q1 q2 q3 t ht h4
          rw [show ((i + h + n : Nat) : Int) = (i : Int) + ((h + n : Nat) : Int) by omega] at this
          exact this
  · have e : takeB k d = (el0, 0, (headB d).2.2) := by
      rw [takeB_of]; unfold takeH
      rw [if_pos hx]
    have := rtake_err s i ((12 - k : Nat) : Int) w hi hs (by rw [hd]; exact hx)
    rw [e]
    simp only [if_neg hx]
    rw [hd] at this
    exact this
theorem take_ok : ∀ k, k ≤ 11 → TakeOk k
  | 0, hk => take_ok_of 0 hk fun b W _ h0 => by
    have hz : b.size = 0 := h0.resolve_left (fun h => h rfl)
    have hn : nums b = [] := List.eq_nil_of_length_eq_zero (by rw [nums_length, hz])
    have e : inn 0 (nums b) = ([], 0) := by rw [hn]; rfl
    rw [e]
    exact rall_empty b _ W hz
  | k + 1, hk => take_ok_of (k + 1) hk fun b W hb _ => by
    have h := rall_of k (take_ok k (by omega)) b W hb
    have e : inn (k + 1) (nums b) = allB k (nums b) := rfl
    rw [e, show (((12 - (k + 1) : Nat) : Int) + 1) = ((12 - k : Nat) : Int) by omega]
    exact h
/-- The document's All, Decode. -/
theorem rAll_any (s : ByteArray) (w : World) (hs : s.size ≤ 10000) : Calls Try.prog 21 #[.string s] w fun r w' => ∃ v, r = .returned (.tuple #[v, .int .i64 (allT (nums s)).2]) ∧ EsP (In w.heap.size w') w' v (allT (nums s)).1 ∧ Below w.heap.size w w' := rAll_of (take_ok 11 (Nat.le_refl _)) s w hs
theorem rdecode_any (s : ByteArray) (at_ : Int) (w : World) (hs : s.size ≤ 10000) (a0 : -9223372036854775808 ≤ at_) (a1 : at_ ≤ 9223372036854775807) : Calls Try.prog 18 #[.string s, .int .i64 at_] w fun r w' => ∃ v, r = .returned (.tuple #[v, .int .i64 (decB (nums s) at_).2.1, .int .i64 (decB (nums s) at_).2.2]) ∧ ElP (In w.heap.size w') w' (decB (nums s) at_).1 v ∧ Below w.heap.size w w' := rdecode_of (take_ok 11 (Nat.le_refl _)) s at_ w hs a0 a1
end Go.Proofs.Ytlhkplhfofkbbaa
