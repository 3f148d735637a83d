/- The fixed answers, and the laws FoldOnes, FoldMaps. -/
import Derived.Test.YtbffmopenjjjlaaDoorD9
import Derived.Test.YtbffmopenjjjlaaDoorSame1
namespace Go.Proofs.YtbffmopenjjjlaaDoor
open Go.RowKit

theorem small9 {r : Int} (h : 0 ≤ r ∧ r ≤ 70000) : In32' r := by unfold In32'; omega
theorem fold_in {r y : Int} (hr : In32' r) (h : y ∈ foldL r) : In32' y := by
  rcases fold_touched r with e | e
  · rw [e] at h; simp at h; subst h; exact hr
  · have := List.all_eq_true.1 (show (touched.all fun r => (foldL r).all fun y => decide (0 ≤ y ∧ y ≤ 70000)) = true by kernel_rfl) r e
    exact small9 (of_decide_eq_true (List.all_eq_true.1 this y h))
theorem map_in {fo : Bool} {l : List Int} (hl : ∀ x, x ∈ l → In32' x) : ∀ y, y ∈ mapL fo l → In32' y := fun y hy => by
  obtain ⟨r, hr, hy⟩ := List.mem_flatMap.1 hy
  unfold mapO at hy
  split at hy
  · simp at hy
  · split at hy
    · simp at hy; subst hy; exact small9 (by decide)
    · split at hy
      · exact fold_in (hl r hr) hy
      · simp at hy; subst hy; exact hl _ hr
theorem m1 : mapL true [65, 173, 223, 160] = [97, 115, 115, 32] := by kernel_rfl
theorem m2 : mapL false [65, 9] = [65, 32] := by kernel_rfl
theorem m3 : foldedB [97, 233] = true := by kernel_rfl
theorem m4 : foldedB [931] = false := by kernel_rfl
theorem m5 : foldL 1025 = [1105] := by kernel_rfl
theorem an1 (W : World) (h : Ly W) : Calls Tryd.prog 11 #[.bool true, .slice (some ⟨W.heap.size, 0, none⟩) 4 4] (W.alloc (.cells #[.int .i32 65, .int .i32 173, .int .i32 223, .int .i32 160] 21)) fun e w' => ∃ v, e = .returned v ∧ Row w' v [97, 115, 115, 32] ∧ Below W.heap.size W w' :=
  (fmap_any true _ [65, 173, 223, 160] _ (h.keep (Below.one _ _)) (by decide) (fun x hx => small9 (by simp at hx; omega)) (row_new W [65, 173, 223, 160] _ _ rfl)).mono fun _ _ ⟨v, he, hr, hb⟩ => ⟨v, he, by rw [m1] at hr; exact hr, below_new hb⟩
theorem an2 (W : World) (v : Value) (h : Row W v [97, 115, 115, 32]) : Calls Tryd.prog 7 #[v, .slice (some ⟨W.heap.size, 0, none⟩) 4 4] (W.alloc (.cells #[.int .i32 97, .int .i32 115, .int .i32 115, .int .i32 32] 21)) fun e w' => e = .returned (.bool true) ∧ Below W.heap.size W w' :=
  (same_any _ _ [97, 115, 115, 32] _ (by decide) (h.below (Below.one _ _)) (row_new W [97, 115, 115, 32] _ _ rfl)).mono fun _ _ ⟨he, hb⟩ => ⟨he, below_new hb⟩
theorem an3 (W : World) (h : Ly W) : Calls Tryd.prog 11 #[.bool false, .slice (some ⟨W.heap.size, 0, none⟩) 2 2] (W.alloc (.cells #[.int .i32 65, .int .i32 9] 21)) fun e w' => ∃ v, e = .returned v ∧ Row w' v [65, 32] ∧ Below W.heap.size W w' :=
  (fmap_any false _ [65, 9] _ (h.keep (Below.one _ _)) (by decide) (fun x hx => small9 (by simp at hx; omega)) (row_new W [65, 9] _ _ rfl)).mono fun _ _ ⟨v, he, hr, hb⟩ => ⟨v, he, by rw [m2] at hr; exact hr, below_new hb⟩
theorem an4 (W : World) (v : Value) (h : Row W v [65, 32]) : Calls Tryd.prog 7 #[v, .slice (some ⟨W.heap.size, 0, none⟩) 2 2] (W.alloc (.cells #[.int .i32 65, .int .i32 32] 21)) fun e w' => e = .returned (.bool true) ∧ Below W.heap.size W w' :=
  (same_any _ _ [65, 32] _ (by decide) (h.below (Below.one _ _)) (row_new W [65, 32] _ _ rfl)).mono fun _ _ ⟨he, hb⟩ => ⟨he, below_new hb⟩
theorem an5 (W : World) (h : Ly W) : Calls Tryd.prog 13 #[.slice (some ⟨W.heap.size, 0, none⟩) 2 2] (W.alloc (.cells #[.int .i32 97, .int .i32 233] 21)) fun e w' => e = .returned (.bool true) ∧ Below W.heap.size W w' :=
  (ffold_any _ [97, 233] _ (h.keep (Below.one _ _)) (by decide) (fun x hx => small9 (by simp at hx; omega)) (row_new W [97, 233] _ _ rfl)).mono fun _ _ ⟨he, hb⟩ => ⟨he.trans (ret_bool m3), below_new hb⟩
theorem an6 (W : World) (h : Ly W) : Calls Tryd.prog 13 #[.slice (some ⟨W.heap.size, 0, none⟩) 1 1] (W.alloc (.cells #[.int .i32 931] 21)) fun e w' => e = .returned (.bool false) ∧ Below W.heap.size W w' :=
  (ffold_any _ [931] _ (h.keep (Below.one _ _)) (by decide) (fun x hx => small9 (by simp at hx; omega)) (row_new W [931] _ _ rfl)).mono fun _ _ ⟨he, hb⟩ => ⟨he.trans (ret_bool m4), below_new hb⟩
theorem an7 (W : World) (h : Ly W) : Calls Tryd.prog 8 #[.int .i32 1025] W fun e w' => ∃ v, e = .returned v ∧ Row w' v [1105] ∧ Below W.heap.size W w' :=
  (fone_any 1025 W h (small9 (by decide))).mono fun _ _ ⟨v, he, hr, hb⟩ => ⟨v, he, by rw [m5] at hr; exact hr, hb⟩
theorem an8 (W : World) (v : Value) (h : Row W v [1105]) : Calls Tryd.prog 7 #[v, .slice (some ⟨W.heap.size, 0, none⟩) 1 1] (W.alloc (.cells #[.int .i32 1105] 21)) fun e w' => e = .returned (.bool true) ∧ Below W.heap.size W w' :=
  (same_any _ _ [1105] _ (by decide) (h.below (Below.one _ _)) (row_new W [1105] _ _ rfl)).mono fun _ _ ⟨he, hb⟩ => ⟨he, below_new hb⟩

set_option maxHeartbeats 3200000 in
theorem awake9 (w : World) (hL : Ly w) : Calls Tryd.prog 10 #[] w fun e w' => e = .returned (.bool true) ∧ Below w.heap.size w w' := by
  have H1 := hide an1
  have H2 := hide an2
  have H3 := hide an3
  have H4 := hide an4
  have H5 := hide an5
  have H6 := hide an6
  have H7 := hide an7
  have H8 := hide an8
  go_enter Tryd.func10, Tryd.ntmps10
  go_wp2_with (first
    | (go_at_call 11; (first
      | (refine (unhide H1 _ hL).mono ?_; rintro e w1 ⟨v1, rfl, r1, b1⟩; clear H1; have hL1 := hL.keep b1)
      | (refine (unhide H3 _ hL2).mono ?_; rintro e w3 ⟨v3, rfl, r3, b3⟩; clear H3; have c3 := c2.trans (b3.mono c2.size); have hL3 := hL.keep c3)))
    | (go_at_call 7; (first
      | (refine (unhide H2 _ _ r1).mono ?_; rintro e w2 ⟨rfl, b2⟩; clear H2; have c2 := b1.trans (b2.mono b1.size); have hL2 := hL.keep c2)
      | (refine (unhide H4 _ _ r3).mono ?_; rintro e w4 ⟨rfl, b4⟩; clear H4; have c4 := c3.trans (b4.mono c3.size); have hL4 := hL.keep c4)
      | (refine (unhide H8 _ _ r7).mono ?_; rintro e w8 ⟨rfl, b8⟩; clear H8; have c8 := c7.trans (b8.mono c7.size))))
    | (go_at_call 13; (first
      | (refine (unhide H5 _ hL4).mono ?_; rintro e w5 ⟨rfl, b5⟩; clear H5; have c5 := c4.trans (b5.mono c4.size); have hL5 := hL.keep c5)
      | (refine (unhide H6 _ hL5).mono ?_; rintro e w6 ⟨rfl, b6⟩; clear H6; have c6 := c5.trans (b6.mono c5.size); have hL6 := hL.keep c6)))
    | (go_at_call 8; refine (unhide H7 _ hL6).mono ?_; rintro e w7 ⟨v7, rfl, r7, b7⟩; have c7 := c6.trans (b7.mono c6.size)))
  go_ret
  exact ⟨rfl, c8⟩

set_option maxHeartbeats 1600000 in
theorem ones9_law (r : Int) (w : World) (hL : Ly w) (hr : In32' r) : Calls Tryd.prog 3 #[.int .i32 r] w fun e w' => e = .returned (.bool true) ∧ Below w.heap.size w w' := by
  have H1 := hide (fun W hW => fone_any r W hW hr)
  have H2 := hide (fun W => rone9_any r W hr)
  have S1 := hide (fun v1 v2 W => same_any v1 v2 (foldL r) W (Nat.le_trans (fold_len r).2 (by omega)))
  have HA := hide awake9
  clear hr
  generalize foldL r = z at *
  go_enter Tryd.func3, Tryd.ntmps3
  go_wp2_with (first
    | (go_at_call 8; refine (unhide H1 _ hL).mono ?_; rintro e w1 ⟨v1, rfl, r1, b1⟩; have R1 := hide r1; clear r1)
    | (go_at_call 9; refine (unhide H2 _).mono ?_; rintro e w2 ⟨v2, rfl, r2, b2⟩; have c2 := b1.trans (b2.mono b1.size); have R2 := hide r2.row; have R12 := hide ((unhide R1).below b2); clear r2)
    | (go_at_call 7; refine (unhide S1 _ _ _ (unhide R12) (unhide R2)).mono ?_; rintro e w3 ⟨rfl, b3⟩; have c3 := c2.trans (b3.mono c2.size); have hL3 := hL.keep c3)
    | (go_at_call 10; refine (unhide HA _ hL3).mono ?_; rintro e w4 ⟨rfl, b4⟩; have c4 := c3.trans (b4.mono c3.size)))
  go_ret
  exact ⟨rfl, c4⟩

set_option maxHeartbeats 3200000 in
theorem maps9_law (fo : Bool) (a : Option Addr) (cap : Nat) (l : List Int) (w : World) (hL : Ly w) (hin : ∀ x, x ∈ l → In32' x) (hr : Row w (.slice a l.length cap) l) : Calls Tryd.prog 4 #[.bool fo, .slice a l.length cap] w fun e w' => e = .returned (.bool true) ∧ Below w.heap.size w w' := by
  have HA := hide awake9
  by_cases hlen : 2000 < l.length
  · have hz : (2000 : Int) < (l.length : Int) := by omega
    go_enter Tryd.func4, Tryd.ntmps4
    go_wp2_with (go_at_call 10; refine (unhide HA _ hL).mono ?_; rintro e w5 ⟨rfl, b5⟩)
    go_ret
    exact ⟨rfl, b5⟩
  · have hz : ¬ (2000 : Int) < (l.length : Int) := by omega
    have ll := mapL_len fo l
    have hin2 : ∀ i, i < l.length → In32' (l.getD i 0) := fun i hi => hin _ (by simp [List.getD, hi])
    have H1 := hide (fun W hW hR => fmap_any fo (.slice a l.length cap) l W hW (by omega) hin hR)
    have H2 := hide (fun W hR => rmap9_any fo (.slice a l.length cap) l W (by omega) hin2 hR)
    have H3 := hide (fun W hW hR => ffold_any (.slice a l.length cap) l W hW (by omega) hin hR)
    have H4 := hide (fun W hR => rfolded9_any (.slice a l.length cap) l W (by omega) hin2 hR)
    have S1 := hide (fun v1 v2 W => same_any v1 v2 (mapL fo l) W (by omega))
    have HR := hide hr
    clear hr hin hin2 ll
    generalize foldedB l = d at *
    generalize mapL fo l = z at *
    go_enter Tryd.func4, Tryd.ntmps4
    go_wp2_with (first
      | (go_at_call 11; refine (unhide H1 _ hL (unhide HR)).mono ?_; rintro e w1 ⟨v1, rfl, r1, b1⟩; have R1 := hide r1; have HR1 := hide ((unhide HR).below b1); clear r1)
      | (go_at_call 12; refine (unhide H2 _ (unhide HR1)).mono ?_; rintro e w2 ⟨v2, rfl, r2, b2⟩; have c2 := b1.trans (b2.mono b1.size); have R2 := hide r2.row; have R12 := hide ((unhide R1).below b2); have HR2 := hide ((unhide HR1).below b2); clear r2)
      | (go_at_call 7; refine (unhide S1 _ _ _ (unhide R12) (unhide R2)).mono ?_; rintro e w3 ⟨rfl, b3⟩; have c3 := c2.trans (b3.mono c2.size); have hL3 := hL.keep c3; have HR3 := hide ((unhide HR2).below b3))
      | (go_at_call 13; refine (unhide H3 _ hL3 (unhide HR3)).mono ?_; rintro e w4 ⟨rfl, b4⟩; have c4 := c3.trans (b4.mono c3.size); have HR4 := hide ((unhide HR3).below b4))
      | (go_at_call 14; refine (unhide H4 _ (unhide HR4)).mono ?_; rintro e w5 ⟨rfl, b5⟩; have c5 := c4.trans (b5.mono c4.size); have hL5 := hL.keep c5)
      | (go_at_call 10; refine (unhide HA _ hL5).mono ?_; rintro e w6 ⟨rfl, b6⟩; have c6 := c5.trans (b6.mono c5.size)))
    go_ret
    exact ⟨rfl, c6⟩
end Go.Proofs.YtbffmopenjjjlaaDoor
