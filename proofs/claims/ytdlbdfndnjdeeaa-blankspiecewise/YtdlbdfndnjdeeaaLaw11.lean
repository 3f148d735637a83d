/- The fixed answers, and the laws BlanksValues and BlanksPieces. -/
import Derived.Test.YtdlbdfndnjdeeaaP11
import Derived.KernelRfl
namespace Go.Proofs.Ytdlbdfndnjdeeaa
open Go.RowKit

theorem rowK (W : World) (o : Obj) (v : Value) (l : List Int) (h : Row W v l) : Row (W.alloc o) v l := h.below (Below.one W o)
theorem ak1 : valL mk11 [97, 32, 32, 98] = [32, 97, 32, 32, 98, 32] := by kernel_rfl
theorem ak2 : valL mk11 [] = [32, 32] := by kernel_rfl
theorem ak3 : phL mk11 [49, 32, 45, 50] = [49, 50] := by kernel_rfl
theorem ak4 : pieL mk11 2 [97, 32] = [97, 32] := by kernel_rfl
theorem ak5 : spAt [32] 0 = true := by kernel_rfl
theorem ak6 : spAt [32, 769] 0 = false := by kernel_rfl
theorem aw1 (W : World) (h : Ly W) : Calls Try.prog 10 #[.slice (some ⟨W.heap.size, 0, none⟩) 4 4] (W.alloc (.cells #[.int .i32 97, .int .i32 32, .int .i32 32, .int .i32 98] 21)) fun e w' => ∃ v, e = .returned v ∧ Row w' v [32, 97, 32, 32, 98, 32] ∧ Below W.heap.size W w' :=
  (bval_any _ [97, 32, 32, 98] _ (h.keep (Below.one _ _)) (by decide) (row_new W [97, 32, 32, 98] _ _ rfl) (fits_of (Nat.le_refl _))).mono fun _ _ ⟨v, he, hr, hb⟩ => ⟨v, he, by rw [ak1] at hr; exact hr, below_new hb⟩
theorem aw2 (W : World) (h : Ly W) : Calls Try.prog 10 #[.slice none 0 0] W fun e w' => ∃ v, e = .returned v ∧ Row w' v [32, 32] ∧ Below W.heap.size W w' :=
  (bval_any _ [] _ h (by decide) (Row.nil W none 0) (fits_of (Nat.le_refl _))).mono fun _ _ ⟨v, he, hr, hb⟩ => ⟨v, he, by rw [ak2] at hr; exact hr, hb⟩
theorem aw3 (W : World) (h : Ly W) : Calls Try.prog 14 #[.slice (some ⟨W.heap.size, 0, none⟩) 4 4] (W.alloc (.cells #[.int .i32 49, .int .i32 32, .int .i32 45, .int .i32 50] 21)) fun e w' => ∃ v, e = .returned v ∧ Row w' v [49, 50] ∧ Below W.heap.size W w' :=
  (bph_any _ [49, 32, 45, 50] _ (h.keep (Below.one _ _)) (by decide) (row_new W [49, 32, 45, 50] _ _ rfl)).mono fun _ _ ⟨v, he, hr, hb⟩ => ⟨v, he, by rw [ak3] at hr; exact hr, below_new hb⟩
theorem aw4 (W : World) (h : Ly W) : Calls Try.prog 16 #[.int .i64 2, .slice (some ⟨W.heap.size, 0, none⟩) 2 2] (W.alloc (.cells #[.int .i32 97, .int .i32 32] 21)) fun e w' => ∃ v, e = .returned v ∧ Row w' v [97, 32] ∧ Below W.heap.size W w' :=
  (bpie_any 2 _ [97, 32] _ (h.keep (Below.one _ _)) (by decide) (row_new W [97, 32] _ _ rfl) (fits_of (Nat.le_refl _))).mono fun _ _ ⟨v, he, hr, hb⟩ => ⟨v, he, by rw [ak4] at hr; exact hr, below_new hb⟩
theorem aw5 (W : World) (h : Ly W) : Calls Try.prog 18 #[.slice (some ⟨W.heap.size, 0, none⟩) 1 1, .int .i64 0] (W.alloc (.cells #[.int .i32 32] 21)) fun e w' => e = .returned (.bool true) ∧ Below W.heap.size W w' :=
  (bsp_any _ [32] 0 _ (h.keep (Below.one _ _)) (by decide) (row_new W [32] _ _ rfl)).mono fun _ _ ⟨he, hb⟩ => ⟨he.trans (ret_bool ak5), below_new hb⟩
theorem aw6 (W : World) (h : Ly W) : Calls Try.prog 18 #[.slice (some ⟨W.heap.size, 0, none⟩) 2 2, .int .i64 0] (W.alloc (.cells #[.int .i32 32, .int .i32 769] 21)) fun e w' => e = .returned (.bool false) ∧ Below W.heap.size W w' :=
  (bsp_any _ [32, 769] 0 _ (h.keep (Below.one _ _)) (by decide) (row_new W [32, 769] _ _ rfl)).mono fun _ _ ⟨he, hb⟩ => ⟨he.trans (ret_bool ak6), below_new hb⟩
theorem as1 (W : World) (v : Value) (h : Row W v [32, 97, 32, 32, 98, 32]) : Calls Try.prog 9 #[v, .slice (some ⟨W.heap.size, 0, none⟩) 6 6] (W.alloc (.cells #[.int .i32 32, .int .i32 97, .int .i32 32, .int .i32 32, .int .i32 98, .int .i32 32] 21)) fun e w' => e = .returned (.bool true) ∧ Below W.heap.size W w' :=
  (same_any _ _ [32, 97, 32, 32, 98, 32] _ (by decide) (h.below (Below.one _ _)) (row_new W [32, 97, 32, 32, 98, 32] _ _ rfl)).mono fun _ _ ⟨he, hb⟩ => ⟨he, below_new hb⟩
theorem as2 (W : World) (v : Value) (h : Row W v [32, 32]) : Calls Try.prog 9 #[v, .slice (some ⟨W.heap.size, 0, none⟩) 2 2] (W.alloc (.cells #[.int .i32 32, .int .i32 32] 21)) fun e w' => e = .returned (.bool true) ∧ Below W.heap.size W w' :=
  (same_any _ _ [32, 32] _ (by decide) (h.below (Below.one _ _)) (row_new W [32, 32] _ _ rfl)).mono fun _ _ ⟨he, hb⟩ => ⟨he, below_new hb⟩
theorem as3 (W : World) (v : Value) (h : Row W v [49, 50]) : Calls Try.prog 9 #[v, .slice (some ⟨W.heap.size, 0, none⟩) 2 2] (W.alloc (.cells #[.int .i32 49, .int .i32 50] 21)) fun e w' => e = .returned (.bool true) ∧ Below W.heap.size W w' :=
  (same_any _ _ [49, 50] _ (by decide) (h.below (Below.one _ _)) (row_new W [49, 50] _ _ rfl)).mono fun _ _ ⟨he, hb⟩ => ⟨he, below_new hb⟩
theorem as4 (W : World) (v : Value) (h : Row W v [97, 32]) : Calls Try.prog 9 #[v, .slice (some ⟨W.heap.size, 0, none⟩) 2 2] (W.alloc (.cells #[.int .i32 97, .int .i32 32] 21)) fun e w' => e = .returned (.bool true) ∧ Below W.heap.size W w' :=
  (same_any _ _ [97, 32] _ (by decide) (h.below (Below.one _ _)) (row_new W [97, 32] _ _ rfl)).mono fun _ _ ⟨he, hb⟩ => ⟨he, below_new hb⟩
set_option maxHeartbeats 3200000 in
theorem awake11 (w : World) (hL : Ly w) : Calls Try.prog 8 #[] w fun e w' => e = .returned (.bool true) ∧ Below w.heap.size w w' := by
  have H1 := hide aw1
  have H2 := hide aw2
  have H3 := hide aw3
  have H4 := hide aw4
  have H5 := hide aw5
  have H6 := hide aw6
  have S1 := hide as1
  have S2 := hide as2
  have S3 := hide as3
  have S4 := hide as4
  go_enter Try.func8, Try.ntmps8
  go_wp2_with (first
    | (go_at_call 18; refine (unhide H6 _ hL9).mono ?_; rintro e w10 ⟨rfl, b10⟩; have c10 := c9.trans (b10.mono c9.size))
    | (go_at_call 18; refine (unhide H5 _ hL8).mono ?_; rintro e w9 ⟨rfl, b9⟩; have c9 := c8.trans (b9.mono c8.size); have hL9 := hL.keep c9)
    | (go_at_call 9; refine (unhide S4 _ _ r7).mono ?_; rintro e w8 ⟨rfl, b8⟩; have c8 := c7.trans (b8.mono c7.size); have hL8 := hL.keep c8)
    | (go_at_call 16; refine (unhide H4 _ hL6).mono ?_; rintro e w7 ⟨v7, rfl, r7, b7⟩; have c7 := c6.trans (b7.mono c6.size); have hL7 := hL.keep c7)
    | (go_at_call 9; refine (unhide S3 _ _ r5).mono ?_; rintro e w6 ⟨rfl, b6⟩; have c6 := c5.trans (b6.mono c5.size); have hL6 := hL.keep c6)
    | (go_at_call 14; refine (unhide H3 _ hL4).mono ?_; rintro e w5 ⟨v5, rfl, r5, b5⟩; have c5 := c4.trans (b5.mono c4.size); have hL5 := hL.keep c5)
    | (go_at_call 9; refine (unhide S2 _ _ r3).mono ?_; rintro e w4 ⟨rfl, b4⟩; have c4 := c3.trans (b4.mono c3.size); have hL4 := hL.keep c4)
    | (go_at_call 10; refine (unhide H2 _ hL2).mono ?_; rintro e w3 ⟨v3, rfl, r3, b3⟩; have c3 := c2.trans (b3.mono c2.size); have hL3 := hL.keep c3)
    | (go_at_call 9; refine (unhide S1 _ _ r1).mono ?_; rintro e w2 ⟨rfl, b2⟩; have c2 := b1.trans (b2.mono b1.size); have hL2 := hL.keep c2)
    | (go_at_call 10; refine (unhide H1 _ hL).mono ?_; rintro e w1 ⟨v1, rfl, r1, b1⟩; have hL1 := hL.keep b1))
  go_ret
  exact ⟨rfl, c10⟩

set_option maxHeartbeats 3200000 in
theorem values11_law (a : Option Addr) (cap : Nat) (l : List Int) (w : World) (hL : Ly w) (hr : Row w (.slice a l.length cap) l) (hq : l.length ≤ cap) : Calls Try.prog 3 #[.slice a l.length cap] w fun e w' => e = .returned (.bool true) ∧ Below w.heap.size w w' := by
  have HA := hide awake11
  by_cases hlen : 1000 < l.length
  · have hz : (1000 : Int) < (l.length : Int) := by omega
    go_enter Try.func3, Try.ntmps3
    go_wp2_with (go_at_call 8; refine (unhide HA _ hL).mono ?_; rintro e w5 ⟨rfl, b5⟩)
    go_ret
    exact ⟨rfl, b5⟩
  · have hz : ¬ (1000 : Int) < (l.length : Int) := by omega
    have H1 := hide (fun W hW hR => bval_any (.slice a l.length cap) l W hW (by omega) hR (fits_of hq))
    have H2 := hide (fun W hR => rvalue_any (.slice a l.length cap) l W (by omega) hR)
    have H3 := hide (fun W hW hR => bnum_any (.slice a l.length cap) l W hW (by omega) hR)
    have H4 := hide (fun W hR => rnumeric_any (.slice a l.length cap) l W (by omega) hR)
    have H5 := hide (fun W hW hR => bph_any (.slice a l.length cap) l W hW (by omega) hR)
    have H6 := hide (fun W hR => rphone_any (.slice a l.length cap) l W (by omega) hR)
    have S1 := hide (fun v1 v2 W => same_any v1 v2 (valL mk11 l) W (by have := val_inn_len l (by omega); simp [valL]; omega))
    have S2 := hide (fun v1 v2 W => same_any v1 v2 (numL mk11 l) W (by have := num_len (M := mk11) l; omega))
    have S3 := hide (fun v1 v2 W => same_any v1 v2 (phL mk11 l) W (by have := ph_len (M := mk11) l; omega))
    generalize valL mk11 l = V at *
    generalize numL mk11 l = N at *
    generalize phL mk11 l = P at *
    go_enter Try.func3, Try.ntmps3
    go_wp2_with (first
      | (go_at_call 8; refine (unhide HA _ hL9).mono ?_; rintro e w10 ⟨rfl, b10⟩; have c10 := c9.trans (b10.mono c9.size))
      | (go_at_call 9; refine (unhide S3 _ _ _ (r7.below b8) r8.row).mono ?_; rintro e w9 ⟨rfl, b9⟩; have c9 := c8.trans (b9.mono c8.size); have hL9 := hL.keep c9)
      | (go_at_call 15; refine (unhide H6 _ (hr.below c7)).mono ?_; rintro e w8 ⟨v8, rfl, r8, b8⟩; have c8 := c7.trans (b8.mono c7.size))
      | (go_at_call 14; refine (unhide H5 _ (hL.keep c6) (hr.below c6)).mono ?_; rintro e w7 ⟨v7, rfl, r7, b7⟩; have c7 := c6.trans (b7.mono c6.size))
      | (go_at_call 9; refine (unhide S2 _ _ _ (r4.below b5) r5.row).mono ?_; rintro e w6 ⟨rfl, b6⟩; have c6 := c5.trans (b6.mono c5.size))
      | (go_at_call 13; refine (unhide H4 _ (hr.below c4)).mono ?_; rintro e w5 ⟨v5, rfl, r5, b5⟩; have c5 := c4.trans (b5.mono c4.size))
      | (go_at_call 12; refine (unhide H3 _ (hL.keep c3) (hr.below c3)).mono ?_; rintro e w4 ⟨v4, rfl, r4, b4⟩; have c4 := c3.trans (b4.mono c3.size))
      | (go_at_call 9; refine (unhide S1 _ _ _ (r1.below b2) r2.row).mono ?_; rintro e w3 ⟨rfl, b3⟩; have c3 := c2.trans (b3.mono c2.size))
      | (go_at_call 11; refine (unhide H2 _ (hr.below b1)).mono ?_; rintro e w2 ⟨v2, rfl, r2, b2⟩; have c2 := b1.trans (b2.mono b1.size))
      | (go_at_call 10; refine (unhide H1 _ hL hr).mono ?_; rintro e w1 ⟨v1, rfl, r1, b1⟩))
    go_ret
    exact ⟨rfl, c10⟩

theorem pie_len (k : Int) (l : List Int) : (pieL mk11 k l).length ≤ 3 * l.length + 5 := by
  have h2 : (firmL mk11 l).length ≤ l.length + 1 := by unfold firmL; split <;> simp
  have hp : ∀ (k : Int) (x : List Int), (pieM mk11 k x).length ≤ 3 * x.length + 2 := fun k x => by
    have h1 := inn_len (M := mk11) x false false
    unfold pieM
    split
    · split <;> simp
    · simp only [List.length_append]
      split <;> split <;> simp only [List.length_cons, List.length_nil] <;> omega
  unfold pieL
  split
  · have := hp 1 (firmL mk11 l); omega
  · split
    · have := hp k l; omega
    · simp
set_option maxHeartbeats 3200000 in
theorem pieces11_law (k : Int) (a : Option Addr) (cap : Nat) (l : List Int) (i : Int) (w : World) (hL : Ly w) (hr : Row w (.slice a l.length cap) l) (hq : l.length ≤ cap) : Calls Try.prog 4 #[.int .i64 k, .slice a l.length cap, .int .i64 i] w fun e w' => e = .returned (.bool true) ∧ Below w.heap.size w w' := by
  have HA := hide awake11
  by_cases hlen : 1000 < l.length
  · have hz : (1000 : Int) < (l.length : Int) := by omega
    go_enter Try.func4, Try.ntmps4
    go_wp2_with (go_at_call 8; refine (unhide HA _ hL).mono ?_; rintro e w5 ⟨rfl, b5⟩)
    go_ret
    exact ⟨rfl, b5⟩
  · have hz : ¬ (1000 : Int) < (l.length : Int) := by omega
    have H1 := hide (fun W hW hR => bpie_any k (.slice a l.length cap) l W hW (by omega) hR (fits_of hq))
    have H2 := hide (fun W hR => rpiece_any k (.slice a l.length cap) l W (by omega) hR)
    have H3 := hide (fun W hW hR => bsp_any (.slice a l.length cap) l i W hW (by omega) hR)
    have H4 := hide (fun W hR => rspace_any (.slice a l.length cap) l i W (by omega) hR)
    have H5 := hide (fun W hW hR => bhy_any (.slice a l.length cap) l i W hW (by omega) hR)
    have H6 := hide (fun W hR => rhyphen_any (.slice a l.length cap) l i W (by omega) hR)
    have S1 := hide (fun v1 v2 W => same_any v1 v2 (pieL mk11 k l) W (by have := pie_len k l; omega))
    generalize pieL mk11 k l = V at *
    generalize spAt l i = p at *
    generalize hpAt l i = q at *
    have e1 : (p == p) = true := by simp
    have e2 : (q == q) = true := by simp
    go_enter Try.func4, Try.ntmps4
    go_wp2_with (first
      | (go_at_call 8; refine (unhide HA _ (hL.keep c7)).mono ?_; rintro e w8 ⟨rfl, b8⟩; have c8 := c7.trans (b8.mono c7.size))
      | (go_at_call 21; refine (unhide H6 _ (hr.below c6)).mono ?_; rintro e w7 ⟨rfl, b7⟩; have c7 := c6.trans (b7.mono c6.size))
      | (go_at_call 20; refine (unhide H5 _ (hL.keep c5) (hr.below c5)).mono ?_; rintro e w6 ⟨rfl, b6⟩; have c6 := c5.trans (b6.mono c5.size))
      | (go_at_call 19; refine (unhide H4 _ (hr.below c4)).mono ?_; rintro e w5 ⟨rfl, b5⟩; have c5 := c4.trans (b5.mono c4.size))
      | (go_at_call 18; refine (unhide H3 _ (hL.keep c3) (hr.below c3)).mono ?_; rintro e w4 ⟨rfl, b4⟩; have c4 := c3.trans (b4.mono c3.size))
      | (go_at_call 9; refine (unhide S1 _ _ _ (r1.below b2) r2.row).mono ?_; rintro e w3 ⟨rfl, b3⟩; have c3 := c2.trans (b3.mono c2.size))
      | (go_at_call 17; refine (unhide H2 _ (hr.below b1)).mono ?_; rintro e w2 ⟨v2, rfl, r2, b2⟩; have c2 := b1.trans (b2.mono b1.size))
      | (go_at_call 16; refine (unhide H1 _ hL hr).mono ?_; rintro e w1 ⟨v1, rfl, r1, b1⟩))
    go_ret
    exact ⟨rfl, c8⟩
end Go.Proofs.Ytdlbdfndnjdeeaa
