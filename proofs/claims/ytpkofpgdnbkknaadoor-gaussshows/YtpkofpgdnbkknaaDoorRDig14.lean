/- The document's digits and Text of layer 14. -/
import Derived.Test.YtpkofpgdnbkknaaDoorMath14
import Derived.Test.YtpkofpgdnbkknaaDoorStr
import Derived.Deep.RegionWith
namespace Go.Proofs.YtpkofpgdnbkknaaDoor
open Go.RowKit

theorem conv_gr {w w2 : World} {z : Int} (hg : Gr ((w.alloc (.cells #[.int .u8 z] 5)).drew) w2) : (convert 79 9 (.slice (some ⟨w.heap.size, 0, none⟩) 1 1)).run Tryd.prog w2 = .ok (.string (strOfNums [z])) w2 := conv_one (hg.cell (box1 w _ _))
set_option maxRecDepth 100000 in
set_option maxHeartbeats 1600000 in
theorem rdigN_any (n : Nat) (w : World) (hn : n ≤ 9223372036854775807) : Calls Tryd.prog 39 #[.int .i64 n] w fun e w' => e = .returned (.string (strOfNums (digN n))) ∧ Gr w w' := by
  induction n using Nat.strongRecOn generalizing w with
  | _ n ih =>
    have z9 : ¬ (n : Int) < 0 := by omega
    by_cases h : n < 10
    · have z1 : (n : Int) < 10 := by omega
      have z2 : IntKind.i64.wrap (48 + (n : Int)) = 48 + n := wrap_in (by omega) (by omega)
      have z3 : IntKind.u8.wrap (48 + (n : Int)) = 48 + n := by simp [IntKind.wrap, IntKind.bits, IntKind.signed]; omega
      have hc := conv_new1 w (48 + n)
      rw [digN_small h]
      clear ih
      go_enter Tryd.func39, Tryd.ntmps39
      go_wp2
      go_ret
      exact ⟨rfl, (Gr.refl _).alloc _⟩
    · have z1 : ¬ (n : Int) < 10 := by omega
      have IH := ih (n / 10) (by omega)
      clear ih
      have z0 : IntKind.i64.wrap ((n : Int) / 10) = (n : Int) / 10 := wrap_in (by omega) (by omega)
      have z5 : IntKind.i64.wrap ((n : Int) % 10) = (n : Int) % 10 := wrap_in (by omega) (by omega)
      have z2 : IntKind.i64.wrap (48 + (n : Int) % 10) = 48 + (n : Int) % 10 := wrap_in (by omega) (by omega)
      have z3 : IntKind.u8.wrap (48 + (n : Int) % 10) = 48 + (n : Int) % 10 := by simp [IntKind.wrap, IntKind.bits, IntKind.signed]; omega
      have hs1 := digN_len 18 (n / 10) (by omega)
      have hs2 : (strOfNums (digN (n / 10))).size + (strOfNums [48 + (n : Int) % 10]).size ≤ 9223372036854775807 := by rw [strOfNums_size, strOfNums_size]; simp; omega
      have e1 : 48 + ((n % 10 : Nat) : Int) = 48 + (n : Int) % 10 := by omega
      rw [digN_big h, ← strOfNums_app, e1]
      have HI : ∀ w, Calls Tryd.prog 39 #[.int .i64 ((n : Int) / 10)] w fun e w' => e = .returned (.string (strOfNums (digN (n / 10)))) ∧ Gr w w' := fun w => by
        have := IH w (by omega)
        rwa [show (((n / 10 : Nat) : Int)) = (n : Int) / 10 by omega] at this
      clear IH e1 hs1
      have q2 : ((n : Int)).tmod 10 = (n : Int) % 10 := Int.tmod_eq_emod_of_nonneg (by omega)
      have hc : ∀ W : World, (convert 79 9 (.slice (some ⟨W.heap.size, 0, none⟩) 1 1)).run Tryd.prog (W.alloc (.cells #[.int .u8 (48 + (n : Int) % 10)] 5)) = .ok (.string (strOfNums [48 + (n : Int) % 10])) (W.alloc (.cells #[.int .u8 (48 + (n : Int) % 10)] 5)) := fun W => conv_new1 W _
      have hc2 : ∀ W : World, (convert 79 9 (.slice (some ⟨W.heap.size, 0, none⟩) 1 1)).run Tryd.prog (W.alloc (.cells #[.int .u8 (48 + (n : Int) % 10)] 5)).drew = .ok (.string (strOfNums [48 + (n : Int) % 10])) (W.alloc (.cells #[.int .u8 (48 + (n : Int) % 10)] 5)).drew := fun W => conv_one (box1 W _ _)
      go_enter Tryd.func39, Tryd.ntmps39
      go_wp2
      go_region_with
        (first
          | (go_at_call 39; refine (HI _).mono ?_; rintro e w2 ⟨rfl, hg⟩; (try have hk := conv_gr hg)))
      all_goals (go_wp2; go_ret; refine ⟨rfl, ?_⟩; first | exact (((Gr.refl w).drew.trans hg).alloc _) | exact ((((Gr.refl w).alloc _).drew).trans hg))
set_option maxHeartbeats 800000 in
theorem rdig_any (n : Int) (w : World) (h1 : -999999 ≤ n) (h2 : n ≤ 999999) : Calls Tryd.prog 39 #[.int .i64 n] w fun e w' => e = .returned (.string (strOfNums (digZ n))) ∧ Gr w w' := by
  by_cases hn : n < 0
  · have H := rdigN_any (-n).toNat w (by omega)
    rw [show (((-n).toNat : Nat) : Int) = -n by omega] at H
    have hE : strOfNums [45] ++ strOfNums (digN (-n).toNat) = strOfNums (digZ n) := by rw [digZ_neg hn, strOfNums_app]; rfl
    have HE := hide hE
    have z1 : IntKind.i64.wrap (-n) = -n := wrap_in (by omega) (by omega)
    have hl := digN_len 5 (-n).toNat (by omega)
    have e45 : (ByteArray.mk #[45]).size = 1 := rfl
    have hz : (ByteArray.mk #[45]).size + (strOfNums (digN (-n).toNat)).size ≤ 9223372036854775807 := by rw [strOfNums_size, e45]; omega
    clear hE hl e45
    generalize digN (-n).toNat = D at *
    go_enter Tryd.func39, Tryd.ntmps39
    go_wp2_with (go_at_call 39; refine H.mono ?_; rintro e w1 ⟨rfl, hg⟩)
    go_ret
    exact ⟨ret_str (by rw [← unhide HE]; rfl), hg⟩
  · have H := rdigN_any n.toNat w (by omega)
    rw [show ((n.toNat : Nat) : Int) = n by omega] at H
    rw [digZ_pos hn]
    exact H
theorem str_lit (a : ByteArray) (l : List Int) (h : a = strOfNums l) (t : List Int) : strOfNums t ++ a = strOfNums (t ++ l) := by rw [h, strOfNums_app]
set_option maxHeartbeats 1600000 in
theorem rtext_any (a b : Int) (w : World) (h1 : -999999 ≤ a) (h2 : a ≤ 999999) (h3 : -999999 ≤ b) (h4 : b ≤ 999999) : Calls Tryd.prog 29 #[.int .i64 a, .int .i64 b] w fun e w' => e = .returned (.string (strOfNums (txt a b))) ∧ Gr w w' := by
  have HA := hide (fun W => rdig_any a W h1 h2)
  have HB := hide (fun W => rdig_any b W h3 h4)
  have la := digZ_len a h1 h2
  have lb := digZ_len b h3 h4
  have e105 : (ByteArray.mk #[105]).size = 1 := rfl
  have e43 : (ByteArray.mk #[43]).size = 1 := rfl
  by_cases hb : b = 0
  · have HE : Hid (txt a b = digZ a) := by show _ = _; unfold txt; rw [if_pos hb]
    have zb : (b == 0) = true := by simpa using hb
    clear hb
    go_enter Tryd.func29, Tryd.ntmps29
    go_wp2_with (go_at_call 39; refine (unhide HA _).mono ?_; rintro e w1 ⟨rfl, hg⟩)
    go_ret
    exact ⟨ret_str (by rw [unhide HE]), hg⟩
  · have zb : (b == 0) = false := by simpa using hb
    by_cases ha : a = 0
    · have HE : Hid (txt a b = digZ b ++ [105]) := by show _ = _; unfold txt; rw [if_neg hb, if_pos ha]
      have za : (a == 0) = true := by simpa using ha
      have hz : (strOfNums (digZ b)).size + (ByteArray.mk #[105]).size ≤ 9223372036854775807 := by rw [strOfNums_size, e105]; omega
      clear hb ha
      go_enter Tryd.func29, Tryd.ntmps29
      go_wp2_with (go_at_call 39; refine (unhide HB _).mono ?_; rintro e w1 ⟨rfl, hg⟩)
      go_ret
      exact ⟨ret_str (by rw [unhide HE]; exact str_lit _ [105] rfl _), hg⟩
    · have za : (a == 0) = false := by simpa using ha
      by_cases hp : 0 < b
      · have HE : Hid (txt a b = digZ a ++ 43 :: (digZ b ++ [105])) := by show _ = _; unfold txt; rw [if_neg hb, if_neg ha, if_pos hp]
        have hz1 : (strOfNums (digZ a)).size + (ByteArray.mk #[43]).size ≤ 9223372036854775807 := by rw [strOfNums_size, e43]; omega
        have hz2 : (strOfNums (digZ a) ++ ByteArray.mk #[43]).size + (strOfNums (digZ b)).size ≤ 9223372036854775807 := by rw [ByteArray.size_append, strOfNums_size, strOfNums_size, e43]; omega
        have hz3 : (strOfNums (digZ a) ++ ByteArray.mk #[43] ++ strOfNums (digZ b)).size + (ByteArray.mk #[105]).size ≤ 9223372036854775807 := by rw [ByteArray.size_append, ByteArray.size_append, strOfNums_size, strOfNums_size, e43, e105]; omega
        clear hb ha
        go_enter Tryd.func29, Tryd.ntmps29
        go_wp2_with (first | (go_at_call 39; refine (unhide HB w1).mono ?_; rintro e w2 ⟨rfl, hg2⟩) | (go_at_call 39; refine (unhide HA _).mono ?_; rintro e w1 ⟨rfl, hg⟩))
        go_ret
        refine ⟨ret_str ?_, hg.trans hg2⟩
        rw [unhide HE, str_lit (ByteArray.mk #[43]) [43] rfl, strOfNums_app, str_lit (ByteArray.mk #[105]) [105] rfl]
        simp
      · have HE : Hid (txt a b = digZ a ++ (digZ b ++ [105])) := by show _ = _; unfold txt; rw [if_neg hb, if_neg ha, if_neg hp]
        have hz2 : (strOfNums (digZ a)).size + (strOfNums (digZ b)).size ≤ 9223372036854775807 := by rw [strOfNums_size, strOfNums_size]; omega
        have hz3 : (strOfNums (digZ a) ++ strOfNums (digZ b)).size + (ByteArray.mk #[105]).size ≤ 9223372036854775807 := by rw [ByteArray.size_append, strOfNums_size, strOfNums_size, e105]; omega
        clear hb ha
        go_enter Tryd.func29, Tryd.ntmps29
        go_wp2_with (first | (go_at_call 39; refine (unhide HB w1).mono ?_; rintro e w2 ⟨rfl, hg2⟩) | (go_at_call 39; refine (unhide HA _).mono ?_; rintro e w1 ⟨rfl, hg⟩))
        go_ret
        refine ⟨ret_str ?_, hg.trans hg2⟩
        rw [unhide HE, strOfNums_app, str_lit (ByteArray.mk #[105]) [105] rfl]
        simp
end Go.Proofs.YtpkofpgdnbkknaaDoor
