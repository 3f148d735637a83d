/- Contract of the document's Decode. -/
import Derived.Test.YtegpdppfdgcljaaUDecPlain
import Derived.Test.YtegpdppfdgcljaaUOne
import Derived.Deep.RegionHeld3
import Derived.Deep.QuietTactic
import Derived.BigQuiet
namespace Go.Proofs.Ytegpdppfdgcljaa
open Go.RowKit

theorem ret_rte {a b c a' b' c' : Int} {k : IntKind} (h : a = a') (h' : b = b') (h'' : c = c') : Ending.returned (.tuple #[.int .i32 a, .int .i64 b, .int k c]) = .returned (.tuple #[.int .i32 a', .int .i64 b', .int k c']) := by rw [h, h', h'']

set_option maxHeartbeats 400000 in
theorem rdecode_out (s : ByteArray) (at_ : Int) (w : World) (h : within s at_ = false) :
    Calls Try.prog 22 #[.string s, .int .i64 at_] w fun e w' => e = .returned (.tuple #[.int .i32 0, .int .i64 0, .int .i64 2]) ∧ w' = w := by
  have h' : at_ < 0 ∨ (0 ≤ at_ ∧ (s.size : Int) ≤ at_) := by unfold within at h; rw [decide_eq_false_iff_not] at h; omega
  clear h
  rcases h' with h1 | ⟨h1, h2⟩
  · go_enter Try.func22, Try.ntmps22
    go_wp2
    go_ret3
    exact ⟨rfl, rfl⟩
  · go_enter Try.func22, Try.ntmps22
    go_wp2
    go_ret3
    exact ⟨rfl, rfl⟩

theorem guess_bound (L : List Int) (hb : ∀ x ∈ L, 0 ≤ x ∧ x < 256) (n : Nat) (h4 : n ≤ 4) : 0 ≤ guessOf (L.take n) ∧ guessOf (L.take n) < 67108864 := by
  have hb' : ∀ x ∈ L.take n, 0 ≤ x ∧ x < 256 := fun x hx => hb x (List.mem_of_mem_take hx)
  have h0 := getD_bound (L.take n) hb' 0
  have hq := gBase_bound (L.take n).length _ h0.1 h0.2
  unfold guessOf
  exact gF_bound (L.take n) _ hq.1 hq.2 hb' _ (by simp; omega)

set_option maxHeartbeats 800000 in
theorem rdecode_in (s : ByteArray) (k : Nat) (w : World) (R T E : Int) (hs : s.size ≤ 140737488351232) (hk : k < s.size) (hR : R = decR (from_ s k)) (hT : T = if decN (from_ s k) = 0 then 0 else k + decN (from_ s k)) (hE : E = if decN (from_ s k) = 0 then 10 else 0) :
    Calls Try.prog 22 #[.string s, .int .i64 (k : Int)] w fun e w' => e = .returned (.tuple #[.int .i32 R, .int .i64 T, .int .i64 E]) ∧ Below w.heap.size w w' := by
  have HR := hide hR
  have HT := hide hT
  have HE := hide hE
  clear hR hT hE
  have HB := hide (from_bound s k)
  have HL := hide (from_length s k)
  have hki : (k : Int) < (s.size : Int) := by omega
  have hk0 : ¬ (k : Int) < 0 := by omega
  go_enter Try.func22, Try.ntmps22
  go_wp2
  go_loopw [7] (fun v wr => ∃ n : Nat, 1 ≤ n ∧ n ≤ 5 ∧ v = .int .i64 n ∧ (∀ m, 1 ≤ m → m < n → tryN (from_ s k) m = false) ∧ Below w.heap.size w wr) (fun v _ => 5 - (intOf v).toNat)
  case atStart => exact ⟨1, by omega, by omega, rfl, fun m h1 h2 => by omega, Below.refl _ _⟩
  case round =>
    obtain ⟨n, hn1, hn5, rfl, hno, hnx⟩ := hrel
    have HNO := hide hno
    have hsz := hnx.size
    clear hno
    by_cases hgo : n ≤ 4 ∧ k + n ≤ s.size
    · obtain ⟨hn4, hkn⟩ := hgo
      have g1 : (n : Int) ≤ 4 := by omega
      have g2 : (k : Int) + (n : Int) ≤ (s.size : Int) := by omega
      have g3 : (k : Int) ≤ (k : Int) + (n : Int) := by omega
      have g4 : (0 : Int) ≤ (k : Int) := by omega
      have g5 : (0 : Int) ≤ (k : Int) + (n : Int) := by omega
      have g6 : IntKind.i64.wrap ((k : Int) + (n : Int)) = (k : Int) + (n : Int) := by simp [IntKind.wrap, IntKind.bits, IntKind.signed]; omega
      have ht : nums (s.extract k (k + n)) = (from_ s k).take n := by
        rw [nums_extract, show k + n - k = n by omega]; unfold from_; simp
      have hts : (s.extract k (k + n)).size = n := by rw [← nums_length, ht]; simp; rw [unhide HL]; omega
      have HG : Hid (∀ w, Calls Try.prog 31 #[.string (s.extract k (k + n))] w fun e w' => e = .returned (.int .i32 (guessOf ((from_ s k).take n))) ∧ w = w') := fun w => by
        have := guess_any (s.extract k (k + n)) w (by omega) (by omega)
        rw [ht] at this
        exact this.mono fun e w' ⟨h1, h2⟩ => ⟨h1, h2.symm⟩
      have hgb := guess_bound (from_ s k) (unhide HB) n hn4
      have htry : tryN (from_ s k) n = (isPt (guessOf ((from_ s k).take n)) && decide (enc1 (guessOf ((from_ s k).take n)) = (from_ s k).take n)) := by
        unfold tryN; rw [unhide HL, decide_eq_true (by omega)]; simp
      have HD : Hid (tryN (from_ s k) n = true → decN (from_ s k) = n ∧ decR (from_ s k) = guessOf ((from_ s k).take n)) := fun h => decN_n (from_ s k) (unhide HB) n hn1 hn4 (unhide HNO) h
      have HS : Hid (isPt (guessOf ((from_ s k).take n)) = true → ((strOfNums (enc1 (guessOf ((from_ s k).take n)))).toList == (s.extract k (k + n)).toList) = decide (enc1 (guessOf ((from_ s k).take n)) = (from_ s k).take n)) := fun h => by rw [str_eq _ h, ht]
      generalize guessOf ((from_ s k).take n) = x at *
      have HTR := hide htry
      clear ht hts htry
      obtain ⟨x0, x1⟩ := hgb
      have b1 : -2147483648 ≤ x := by omega
      have b2 : x ≤ 2147483647 := by omega
      cases hx : isPt x
      · have hf : tryN (from_ s k) n = false := by rw [unhide HTR, hx]; rfl
        have HF := hide hf
        have HX := hide hx
        clear hf hx
        go_wp2_with (go_at_call 31; refine (unhide HG _).mono ?_; rintro e w' ⟨rfl, rfl⟩)
        go_quiet ((go_at_call 32; exact Calls.quiet_of_same (rpoint_no _ _ b1 b2 (unhide HX))))
        go_wp2
        go_roundw
        case rel =>
          refine ⟨n + 1, by omega, by omega, by go_num, ?_, ?_⟩
          · intro m h1 h2
            by_cases hm : m < n
            · exact unhide HNO m h1 hm
            · rw [show m = n by omega]; exact unhide HF
          · exact below_drewN hnx _
        case measure => simp [intOf]; omega
      · have HX := hide hx
        have hcmp := unhide HS hx
        have htry := unhide HTR
        rw [hx, Bool.true_and, ← hcmp] at htry
        clear hx HTR HS
        cases hc : ((strOfNums (enc1 x)).toList == (s.extract k (k + n)).toList)
        · have HF : Hid (tryN (from_ s k) n = false) := by rw [htry, hc]; exact rfl
          have hc2 : ((strOfNums (enc1 x)).toList == (s.extract k ((k : Int) + (n : Int)).toNat).toList) = false := by
            rw [show ((k : Int) + (n : Int)).toNat = k + n by omega]; exact hc
          clear htry hcmp
          go_wp2_with (go_at_call 31; refine (unhide HG _).mono ?_; rintro e w' ⟨rfl, rfl⟩)
          go_region_held3 (fun _ => True) (trivial)
            (first
              | (go_at_call 32; refine (rpoint_yes x _ (unhide HX)).mono ?_; rintro e w' ⟨rfl, rfl⟩)
              | (go_at_call 33; refine (one_any x _ (unhide HX)).mono ?_; rintro e w' ⟨rfl, C, rfl⟩))
          go_wp2
          go_roundw
          case rel =>
            refine ⟨n + 1, by omega, by omega, by go_num, ?_, ?_⟩
            · intro m h1 h2
              by_cases hm : m < n
              · exact unhide HNO m h1 hm
              · rw [show m = n by omega]; exact unhide HF
            · exact (hnx.alloc hsz _).drew
          case measure => simp [intOf]; omega
        · have HF : Hid (tryN (from_ s k) n = true) := by rw [htry, hc]; exact rfl
          have hc2 : ((strOfNums (enc1 x)).toList == (s.extract k ((k : Int) + (n : Int)).toNat).toList) = true := by
            rw [show ((k : Int) + (n : Int)).toNat = k + n by omega]; exact hc
          clear htry hcmp
          go_wp2_with (go_at_call 31; refine (unhide HG _).mono ?_; rintro e w' ⟨rfl, rfl⟩)
          go_region_held3 (fun _ => True) (trivial)
            (first
              | (go_at_call 32; refine (rpoint_yes x _ (unhide HX)).mono ?_; rintro e w' ⟨rfl, rfl⟩)
              | (go_at_call 33; refine (one_any x _ (unhide HX)).mono ?_; rintro e w' ⟨rfl, C, rfl⟩))
          go_wp2
          go_ret3
          obtain ⟨d1, d2⟩ := unhide HD (unhide HF)
          refine ⟨ret_rte ?_ ?_ ?_, (hnx.alloc hsz _).drew⟩
          · rw [unhide HR, d2]
          · rw [unhide HT, d1, if_neg (by omega)]
          · rw [unhide HE, d1, if_neg (by omega)]
    · have hno : decN (from_ s k) = 0 ∧ decR (from_ s k) = 0 := decN_0 (from_ s k) (unhide HB) fun m h1 h4 => by
        by_cases hm : m < n
        · exact unhide HNO m h1 hm
        · unfold tryN
          rw [unhide HL, decide_eq_false (by omega)]
          rfl
      have HD := hide hno
      clear hno
      by_cases hn4 : n ≤ 4
      · have g1 : (n : Int) ≤ 4 := by omega
        have g2 : ¬ (k : Int) + (n : Int) ≤ (s.size : Int) := by omega
        go_wp2
        go_ret3
        obtain ⟨d1, d2⟩ := unhide HD
        exact ⟨ret_rte (by rw [unhide HR, d2]) (by rw [unhide HT, d1]; rfl) (by rw [unhide HE, d1]; rfl), hnx⟩
      · have g1 : ¬ (n : Int) ≤ 4 := by omega
        go_wp2
        go_ret3
        obtain ⟨d1, d2⟩ := unhide HD
        exact ⟨ret_rte (by rw [unhide HR, d2]) (by rw [unhide HT, d1]; rfl) (by rw [unhide HE, d1]; rfl), hnx⟩
end Go.Proofs.Ytegpdppfdgcljaa
