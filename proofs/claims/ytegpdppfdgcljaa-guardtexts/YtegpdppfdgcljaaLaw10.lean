/- The fixed answers, and the laws GuardChecks and GuardTexts. -/
import Derived.Test.YtegpdppfdgcljaaD10
import Derived.KernelRfl
import Derived.Test.YtegpdppfdgcljaaQuietB
namespace Go.Proofs.Ytegpdppfdgcljaa
open Go.RowKit

theorem intn (W : World) (zs : List Int) (cs : Array Value) (T : TypeId) (hcs : cs.toList = zs.map (Value.int .i64)) : Ints (W.alloc (.cells cs T)) (.slice (some ⟨W.heap.size, 0, none⟩) zs.length zs.length) zs := by
  refine ⟨_, _, rfl, fun _ => ⟨W.heap.size, 0, rfl, fun j hj => ?_⟩⟩
  rw [World.cell?_alloc_mark, Nat.zero_add]
  have : cs.toList[j]? = some (.int .i64 (zs.getD j 0)) := by rw [hcs]; simp [List.getD, hj]
  simpa using this
theorem at1 : txA { data := #[97, 194, 173, 196, 128] } = 5 ∧ txE { data := #[97, 194, 173, 196, 128] } = 0 := ⟨by kernel_rfl, by kernel_rfl⟩
theorem at2 : txA { data := #[97, 238, 128, 128] } = 1 ∧ txE { data := #[97, 238, 128, 128] } = 30 := ⟨by kernel_rfl, by kernel_rfl⟩
theorem at3 : (chkN [97, 880] : Int) = 1 ∧ chkE [97, 880] = 30 := ⟨by kernel_rfl, by kernel_rfl⟩
theorem at4 : onlyB { data := #[97, 49] } [1, 2] = true := by kernel_rfl
theorem at5 : onlyB { data := #[97] } [2] = false := by kernel_rfl
theorem ag1 (W : World) : Calls Try.prog 12 #[.string { data := #[97, 194, 173, 196, 128] }] W fun e w' => e = .returned (.tuple #[.int .i64 5, .int .i64 0]) ∧ Below W.heap.size W w' :=
  (gtext_any _ W (by decide)).mono fun _ _ ⟨he, hb⟩ => ⟨he.trans (ret_pair at1.1 at1.2), hb⟩
theorem ag2 (W : World) : Calls Try.prog 12 #[.string { data := #[97, 238, 128, 128] }] W fun e w' => e = .returned (.tuple #[.int .i64 1, .int .i64 30]) ∧ Below W.heap.size W w' :=
  (gtext_any _ W (by decide)).mono fun _ _ ⟨he, hb⟩ => ⟨he.trans (ret_pair at2.1 at2.2), hb⟩
theorem ag3 (W : World) : Calls Try.prog 8 #[.slice (some ⟨W.heap.size, 0, none⟩) 2 2] (W.alloc (.cells #[.int .i32 97, .int .i32 880] 21)) fun e w' => e = .returned (.tuple #[.int .i64 1, .int .i64 30]) ∧ Below W.heap.size W w' :=
  (gcheck_any _ [97, 880] _ (by decide) (row_new W [97, 880] _ _ rfl)).mono fun _ _ ⟨he, hb⟩ => ⟨he.trans (ret_pair at3.1 at3.2), below_new hb⟩
theorem ag4 (W : World) : Calls Try.prog 14 #[.string { data := #[97, 49] }, .slice (some ⟨W.heap.size, 0, none⟩) 2 2] (W.alloc (.cells #[.int .i64 1, .int .i64 2] 3)) fun e w' => e = .returned (.bool true) ∧ Below W.heap.size W w' :=
  (gonly_any _ _ [1, 2] _ (by decide) (by decide) (intn W [1, 2] _ _ rfl)).mono fun _ _ ⟨he, hb⟩ => ⟨he.trans (ret_bool at4), below_new hb⟩
theorem ag5 (W : World) : Calls Try.prog 14 #[.string { data := #[97] }, .slice (some ⟨W.heap.size, 0, none⟩) 1 1] (W.alloc (.cells #[.int .i64 2] 3)) fun e w' => e = .returned (.bool false) ∧ Below W.heap.size W w' :=
  (gonly_any _ _ [2] _ (by decide) (by decide) (intn W [2] _ _ rfl)).mono fun _ _ ⟨he, hb⟩ => ⟨he.trans (ret_bool at5), below_new hb⟩
set_option maxHeartbeats 3200000 in
theorem awake10 (w : World) : Calls Try.prog 7 #[] w fun e w' => e = .returned (.bool true) ∧ Below w.heap.size w w' := by
  have H1 := hide ag1
  have H2 := hide ag2
  have H3 := hide ag3
  have H4 := hide ag4
  have H5 := hide ag5
  go_enter Try.func7, Try.ntmps7
  go_wp2_with (first
    | (go_at_call 14; refine (unhide H5 w4).mono ?_; rintro e w5 ⟨rfl, b5⟩; have c5 := c4.trans (b5.mono c4.size))
    | (go_at_call 14; refine (unhide H4 w3).mono ?_; rintro e w4 ⟨rfl, b4⟩; have c4 := c3.trans (b4.mono c3.size))
    | (go_at_call 8; refine (unhide H3 w2).mono ?_; rintro e w3 ⟨rfl, b3⟩; have c3 := c2.trans (b3.mono c2.size))
    | (go_at_call 12; refine (unhide H2 w1).mono ?_; rintro e w2 ⟨rfl, b2⟩; have c2 := b1.trans (b2.mono b1.size))
    | (go_at_call 12; refine (unhide H1 w).mono ?_; rintro e w1 ⟨rfl, b1⟩))
  go_ret
  exact ⟨rfl, c5⟩

set_option maxHeartbeats 3200000 in
theorem texts10_law (s : ByteArray) (v : Value) (ks : List Int) (w : World) (hI : Ints w v ks) : Calls Try.prog 4 #[.string s, v] w fun e w' => e = .returned (.bool true) ∧ Below w.heap.size w w' := by
  have HA := hide awake10
  have hI' := hI
  obtain ⟨a, cap, rfl, _⟩ := hI
  by_cases hs : 5000 < s.size
  · have hz : (5000 : Int) < (s.size : Int) := by omega
    go_enter Try.func4, Try.ntmps4
    go_wp2_with (go_at_call 7; refine (unhide HA _).mono ?_; rintro e w5 ⟨rfl, b5⟩)
    go_ret
    exact ⟨rfl, b5⟩
  · have hz : ¬ (5000 : Int) < (s.size : Int) := by omega
    by_cases hk : 100 < ks.length
    · have hz2 : (100 : Int) < (ks.length : Int) := by omega
      go_enter Try.func4, Try.ntmps4
      go_wp2_with (go_at_call 7; refine (unhide HA _).mono ?_; rintro e w5 ⟨rfl, b5⟩)
      go_ret
      exact ⟨rfl, b5⟩
    · have hz2 : ¬ (100 : Int) < (ks.length : Int) := by omega
      have H1 := hide (fun W => gtext_any s W (by omega))
      have H2 := hide (fun W => rtext_any s W (by omega))
      have H3 := hide (fun W (h : Below w.heap.size w W) => gonly_any s (.slice a ks.length cap) ks W (by omega) (by omega) (ints_below hI' h))
      have H4 := hide (fun W (h : Below w.heap.size w W) => ronly_any s (.slice a ks.length cap) ks W (by omega) (by omega) (ints_below hI' h))
      generalize txA s = A at *
      generalize txE s = E at *
      generalize onlyB s ks = z at *
      have e1 : (A == A) = true := by simp
      have e2 : (E == E) = true := by simp
      have e3 : (z == z) = true := by simp
      go_enter Try.func4, Try.ntmps4
      go_wp2_with (first
        | (go_at_call 7; refine (unhide HA _).mono ?_; rintro e w5 ⟨rfl, b5⟩; have c5 := c4.trans (b5.mono c4.size))
        | (go_at_call 15; refine (unhide H4 _ c3).mono ?_; rintro e w4 ⟨rfl, b4⟩; have c4 := c3.trans (b4.mono c3.size))
        | (go_at_call 14; refine (unhide H3 _ c2).mono ?_; rintro e w3 ⟨rfl, b3⟩; have c3 := c2.trans (b3.mono c2.size))
        | (go_at_call 13; refine (unhide H2 _).mono ?_; rintro e w2 ⟨rfl, b2⟩; have c2 := b1.trans (b2.mono b1.size))
        | (go_at_call 12; refine (unhide H1 _).mono ?_; rintro e w1 ⟨rfl, b1⟩))
      go_ret
      exact ⟨rfl, c5⟩

set_option maxHeartbeats 6400000 in
theorem checks10_law (a : Option Addr) (cap : Nat) (l : List Int) (w : World) (hr : Row w (.slice a l.length cap) l) : Calls Try.prog 3 #[.slice a l.length cap] w fun e w' => e = .returned (.bool true) ∧ Below w.heap.size w w' := by
  have HA := hide awake10
  have mx : Try.prog.follows .mixedOrders = true := by kernel_rfl
  by_cases hlen : 5000 < l.length
  · have hz : (5000 : Int) < (l.length : Int) := by omega
    go_enter Try.func3, Try.ntmps3
    go_wp2_with (go_at_call 7; refine (unhide HA _).mono ?_; rintro e w5 ⟨rfl, b5⟩)
    go_ret
    exact ⟨rfl, b5⟩
  · have hz : ¬ (5000 : Int) < (l.length : Int) := by omega
    have H1 := hide (fun W hR => gcheck_any (.slice a l.length cap) l W (by omega) hR)
    have H2 := hide (fun W hR => rcheck_any (.slice a l.length cap) l W (by omega) hR)
    generalize (chkN l : Int) = A at *
    generalize chkE l = E at *
    have e1 : (A == A) = true := by simp
    have e2 : (E == E) = true := by simp
    by_cases h0 : 0 < l.length
    · have hl0 : ((l.length : Int) == 0) = false := beq_eq_false_iff_ne.2 (by omega)
      have hl1 : (0 : Int) < (l.length : Int) := by omega
      have hr' := hr
      obtain ⟨_, _, hae, hc⟩ := hr'
      cases hae
      obtain ⟨b, off, rfl, hcc⟩ := hc h0
      have k0 := hcc 0 h0
      rw [Nat.add_zero] at k0
      clear hc hcc
      have K0 := hide k0
      clear k0
      have HG := hide (gfit_any (l.getD 0 0))
      have HF := hide (rfit_any (l.getD 0 0))
      generalize l.getD 0 0 = x at *
      generalize fitB x = z at *
      have e3 : (z == z) = true := by simp
      go_enter Try.func3, Try.ntmps3
      go_wp2_with (first
        | (go_at_call 9; refine (unhide H2 _ (hr.below b1)).mono ?_; rintro e w2 ⟨rfl, b2⟩; have c2 := b1.trans (b2.mono b1.size); have k2 : w2.cell? ⟨b, off, none⟩ = some (.int .i32 x) := (c2.cell (by exact cell_lt (unhide K0))).trans (unhide K0))
        | (go_at_call 8; refine (unhide H1 _ hr).mono ?_; rintro e w1 ⟨rfl, b1⟩))
      replace k2 := cell_bb k2
      refine wp_region_below (by first | exact mx | assumption) (by kernel_rfl) ?_
      intro nebb
      repeat (go_big_quiet_step (first | (go_at_call 7; exact callsBB (unhide HA _)) | (go_at_call 10; exact callsBB (unhide HG _)) | (go_at_call 11; exact callsBB (unhide HF _))))
      refine wpQuiet_nil ?_
      intro _ hw'
      obtain ⟨pq, hw''⟩ := hw'
      subst hw''
      have bq := pq.b
      generalize pq.W = wq at *
      go_wp2
      go_ret
      exact ⟨rfl, c2.trans (bq.mono c2.size)⟩
    · obtain rfl : l = [] := List.length_eq_zero_iff.1 (by omega)
      go_enter Try.func3, Try.ntmps3
      go_wp2_with (first
        | (go_at_call 9; refine (unhide H2 _ (hr.below b1)).mono ?_; rintro e w2 ⟨rfl, b2⟩; have c2 := b1.trans (b2.mono b1.size))
        | (go_at_call 8; refine (unhide H1 _ hr).mono ?_; rintro e w1 ⟨rfl, b1⟩))
      refine wp_region_below (by first | exact mx | assumption) (by kernel_rfl) ?_
      intro nebb
      repeat (go_big_quiet_step ((go_at_call 7; exact callsBB (unhide HA _))))
      refine wpQuiet_nil ?_
      intro _ hw'
      obtain ⟨pq, hw''⟩ := hw'
      subst hw''
      have bq := pq.b
      generalize pq.W = wq at *
      go_wp2
      go_ret
      exact ⟨rfl, c2.trans (bq.mono c2.size)⟩
end Go.Proofs.Ytegpdppfdgcljaa
