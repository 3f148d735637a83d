/- The landed gauss: put, eachPart, Show. -/
import Derived.Test.YtpkofpgdnbkknaaDoorDb14
import Derived.Test.YtpkofpgdnbkknaaDoorShelf14
namespace Go.Proofs.YtpkofpgdnbkknaaDoor
open Go.RowKit

theorem str_mk (l : List UInt8) : (⟨l.toArray⟩ : ByteArray) = strOfNums (l.map fun b => (b.toNat : Int)) := by
  have := strOfNums_nums (⟨l.toArray⟩ : ByteArray)
  rw [← this]
  unfold nums
  simp
theorem dec_dig (u : Nat) : (Lib.decDigits u).map (fun b => (b.toNat : Int)) = digN u := by
  induction u using Nat.strongRecOn with
  | _ u ih =>
    by_cases h : u < 10
    · rw [Lib.decDigits, dif_pos h, digN_small h]
      simp
      omega
    · rw [Lib.decDigits, dif_neg h, digN_big h, List.map_append, ih (u / 10) (by omega)]
      simp
      omega
theorem itoa_dig (n : Int) : (⟨(Lib.itoa n).toArray⟩ : ByteArray) = strOfNums (digZ n) := by
  rw [str_mk]
  congr 1
  unfold Lib.itoa
  by_cases h : n < 0
  · rw [if_pos h, digZ_neg h, List.map_cons, dec_dig, show (-n).toNat = n.natAbs by omega]
    rfl
  · rw [if_neg h, digZ_pos h, dec_dig]
/-- The box of a text, not frozen. -/
structure Txb (w : World) (g : Nat) (s : ByteArray) : Prop where
  c : w.cell? ⟨g, 0, none⟩ = some (.string s)
  f : w.frozen? ⟨g, 0, none⟩ = false
theorem Txb.keep {w w2 : World} {g : Nat} {s : ByteArray} (h : Txb w g s) (hb : Below w.heap.size w w2) : Txb w2 g s :=
  ⟨(hb.cell (p := ⟨g, 0, none⟩) (cell_lt h.c)).trans h.c, (hb.frozen (p := ⟨g, 0, none⟩) (cell_lt h.c)).trans h.f⟩
theorem Txb.drew {w : World} {g : Nat} {s : ByteArray} (h : Txb w g s) : Txb w.drew g s := ⟨h.c, h.f⟩
theorem Txb.set {w : World} {g : Nat} {s : ByteArray} (h : Txb w g s) (t : ByteArray) : Txb (w.setCell ⟨g, 0, none⟩ (.string t)) g t :=
  ⟨World.cell?_setCell_same _ _ _ h.c, (World.frozen?_setCell _ _ _ _).trans h.f⟩
theorem ly_drew {w : World} (h : Ly w) : Ly w.drew := h
theorem bel_put {w w1 : World} {g : Nat} {s : ByteArray} (h : Txb w g s) (g1 : Gr w.drew w1) (u : Value) : Below g w (w1.setCell ⟨g, 0, none⟩ u) :=
  (((Gr.refl w).drew.trans g1).below.mono (Nat.le_of_lt (cell_lt h.c))).setCell (Nat.le_refl _) u
theorem itoa_any (n : Int) (w : World) (hL : Ly w) (h1 : -999999 ≤ n) (h2 : n ≤ 999999) : Calls Tryd.prog 38 #[.int .i64 n] w fun e w' => e = .returned (.string (strOfNums (digZ n))) ∧ Gr w w' := by
  have := itoa14 n w (by omega) (by omega) hL
  rw [itoa_dig] at this
  exact this
set_option maxHeartbeats 400000 in
theorem put_none (g : Nat) (b : ByteArray) (w : World) : Calls Tryd.prog 28 #[.pointer (some ⟨g, 0, none⟩), .int .i64 0, .string b] w fun e w' => e = .returned (.tuple #[]) ∧ w' = w := by
  go_enter Tryd.func28, Tryd.ntmps28
  go_wp2
  try simp only [Exit.inBlock, Exit.then]
  refine bodyPost_ret (results_none rfl _ _ _) rfl ?_
  exact ⟨rfl, rfl⟩
set_option maxHeartbeats 1600000 in
/-- A part that is below 0, or the first. -/
theorem put_plain (g : Nat) (s b : ByteArray) (n : Int) (w : World) (hL : Ly w) (hx : Txb w g s) (h1 : -999999 ≤ n) (h2 : n ≤ 999999) (h0 : n ≠ 0) (hs : s.size ≤ 100) (hb : b.size ≤ 100) (hc : n < 0 ∨ s = ⟨#[]⟩) :
    Calls Tryd.prog 28 #[.pointer (some ⟨g, 0, none⟩), .int .i64 n, .string b] w fun e w' => e = .returned (.tuple #[]) ∧ Txb w' g (s ++ (strOfNums (digZ n) ++ b)) ∧ Below g w w' := by
  have HI := hide (fun W (h : Ly W) => itoa_any n W h h1 h2)
  have HL := hide hL
  have HX := hide hx
  have hd := digZ_len n h1 h2
  have z1 : (strOfNums (digZ n)).size + b.size ≤ 9223372036854775807 := by rw [strOfNums_size]; omega
  have z2 : s.size + (strOfNums (digZ n) ++ b).size ≤ 9223372036854775807 := by rw [ByteArray.size_append, strOfNums_size]; omega
  have z3 : s.size + ((strOfNums (digZ n)).size + b.size) ≤ 9223372036854775807 := by rw [strOfNums_size]; omega
  have k0 := hx.c
  have k1 := hx.f
  have hlt := cell_lt hx.c
  clear hd h1 h2 hs hb hL hx
  generalize strOfNums (digZ n) = t at *
  rcases hc with hc | hc
  · have n1 : ¬ 0 < n := by omega
    go_enter Tryd.func28, Tryd.ntmps28
    go_wp2
    go_region_with
      (first
        | (go_at_call 38; refine (unhide HI _ (ly_drew (unhide HL))).mono ?_; rintro e w1 ⟨rfl, g1⟩; have HX1 := (unhide HX).drew.keep g1.below; have j0 := HX1.c; have j1 := HX1.f; clear HX1))
    all_goals
      go_wp2
      refine bodyPost_end (results_none rfl _ _ _) rfl ?_
      exact ⟨rfl, ((unhide HX).drew.keep g1.below).set _, bel_put (unhide HX) g1 _⟩
  · subst hc
    rcases Int.lt_or_gt_of_ne h0 with n1 | n1
    · have n2 : ¬ 0 < n := by omega
      go_enter Tryd.func28, Tryd.ntmps28
      go_wp2
      go_region_with
        (first
          | (go_at_call 38; refine (unhide HI _ (ly_drew (unhide HL))).mono ?_; rintro e w1 ⟨rfl, g1⟩; have HX1 := (unhide HX).drew.keep g1.below; have j0 := HX1.c; have j1 := HX1.f; clear HX1))
      all_goals
        go_wp2
        refine bodyPost_end (results_none rfl _ _ _) rfl ?_
        exact ⟨rfl, ((unhide HX).drew.keep g1.below).set _, bel_put (unhide HX) g1 _⟩
    · go_enter Tryd.func28, Tryd.ntmps28
      go_wp2
      go_region_with
        (first
          | (go_at_call 38; refine (unhide HI _ (ly_drew (unhide HL))).mono ?_; rintro e w1 ⟨rfl, g1⟩; have HX1 := (unhide HX).drew.keep g1.below; have j0 := HX1.c; have j1 := HX1.f; clear HX1))
      all_goals
        go_wp2
        refine bodyPost_end (results_none rfl _ _ _) rfl ?_
        exact ⟨rfl, ((unhide HX).drew.keep g1.below).set _, bel_put (unhide HX) g1 _⟩
set_option maxHeartbeats 1600000 in
/-- A part above 0 behind another one. -/
theorem put_plus (g : Nat) (s b : ByteArray) (n : Int) (w : World) (hL : Ly w) (hx : Txb w g s) (h1 : 0 < n) (h2 : n ≤ 999999) (hs : s.size ≤ 100) (hb : b.size ≤ 100) (hc : s.toList.isEmpty = false) (hG : 0 < g) :
    Calls Tryd.prog 28 #[.pointer (some ⟨g, 0, none⟩), .int .i64 n, .string b] w fun e w' => e = .returned (.tuple #[]) ∧ Txb w' g ((s ++ ⟨#[43]⟩) ++ (strOfNums (digZ n) ++ b)) ∧ Below g w w' := by
  have HI := hide (fun W (h : Ly W) => itoa_any n W h (by omega) h2)
  have HX0 := hide hx
  have hd := digZ_len n (by omega) h2
  have z1 : (strOfNums (digZ n)).size + b.size ≤ 9223372036854775807 := by rw [strOfNums_size]; omega
  have e43 : (ByteArray.mk #[43]).size = 1 := rfl
  have z0 : s.size + (ByteArray.mk #[43]).size ≤ 9223372036854775807 := by rw [e43]; omega
  have z2 : (s ++ ⟨#[43]⟩).size + (strOfNums (digZ n) ++ b).size ≤ 9223372036854775807 := by rw [ByteArray.size_append, ByteArray.size_append, strOfNums_size, e43]; omega
  have z3 : s.size + (ByteArray.mk #[43]).size + ((strOfNums (digZ n)).size + b.size) ≤ 9223372036854775807 := by rw [strOfNums_size, e43]; omega
  have z4 : s.size + 1 + ((strOfNums (digZ n)).size + b.size) ≤ 9223372036854775807 := by rw [strOfNums_size]; omega
  have k0 := hx.c
  have k1 := hx.f
  have HX := hide (hx.set (s ++ ⟨#[43]⟩))
  have HL : Hid (Ly (w.setCell ⟨g, 0, none⟩ (.string (s ++ ⟨#[43]⟩)))) := hL.below (B := g) ((Below.refl g w).setCell (p := ⟨g, 0, none⟩) (Nat.le_refl _) _) hG
  have k2 := hx.set (s ++ ⟨#[43]⟩) |>.c
  have k3 := hx.set (s ++ ⟨#[43]⟩) |>.f
  clear hd h2 hs hb hL hx e43 hG
  have h0 : ¬ n = 0 := by omega
  generalize strOfNums (digZ n) = t at *
  go_enter Tryd.func28, Tryd.ntmps28
  go_wp2
  go_region_with
    (first
      | (go_at_call 38; refine (unhide HI _ (ly_drew (unhide HL))).mono ?_; rintro e w1 ⟨rfl, g1⟩; have HX1 := (unhide HX).drew.keep g1.below; have j0 := HX1.c; have j1 := HX1.f; clear HX1))
  all_goals
    go_wp2
    refine bodyPost_end (results_none rfl _ _ _) rfl ?_
    exact ⟨rfl, ((unhide HX).drew.keep g1.below).set _, ((Below.refl g w).setCell (Nat.le_refl _) _).trans (bel_put (unhide HX) g1 _)⟩
set_option maxHeartbeats 800000 in
/-- eachPart hands on both parts. -/
theorem each_any (x y : Nat) (a b : Int) (p : Value) (w : World) (R T : World → Prop) (hx : S x = some (a * K)) (hy : S y = some (b * K)) (h1 : -999999 ≤ a) (h2 : a ≤ 999999) (h3 : -999999 ≤ b) (h4 : b ≤ 999999)
    (H1 : Calls Tryd.prog 28 #[p, .int .i64 a, .string ⟨#[]⟩] w fun e w' => e = .returned (.tuple #[]) ∧ R w')
    (H2 : ∀ W, R W → Calls Tryd.prog 28 #[p, .int .i64 b, .string ⟨#[105]⟩] W fun e w' => e = .returned (.tuple #[]) ∧ T w') :
    Calls Tryd.prog 27 #[cc x y, .func (.func 28) #[p] #[]] w fun e w' => e = .returned (.tuple #[]) ∧ T w' := by
  have c1 := conv_of (toInt_of hx h1 h2)
  have c2 := conv_of (toInt_of hy h3 h4)
  have HA := hide H1
  have HB := hide H2
  clear hx hy h1 h2 h3 h4 H1 H2
  go_enter Tryd.func27, Tryd.ntmps27
  go_wp2_with (first
    | (go_at_call 28; refine (unhide HB _ (unhide r1)).mono ?_; rintro e w2 ⟨rfl, t2⟩)
    | (go_at_call 28; refine (unhide HA).mono ?_; rintro e w1 ⟨rfl, q1⟩; have r1 := hide q1; clear q1))
  refine bodyPost_end (results_none rfl _ _ _) rfl ?_
  exact ⟨rfl, t2⟩
theorem str_app_nil (s : ByteArray) : s ++ (⟨#[]⟩ : ByteArray) = s := by
  have : (⟨#[]⟩ : ByteArray) = strOfNums [] := rfl
  rw [← strOfNums_nums s, this, strOfNums_app, List.append_nil]
theorem str_nil_app (s : ByteArray) : (⟨#[]⟩ : ByteArray) ++ s = s := by
  have : (⟨#[]⟩ : ByteArray) = strOfNums [] := rfl
  rw [← strOfNums_nums s, this, strOfNums_app, List.nil_append]
theorem dig_ne (n : Int) : digZ n ≠ [] := by
  unfold digZ
  split
  · simp
  · obtain ⟨c, t, h, _⟩ := digN_head n.toNat
    rw [h]; simp
theorem str_some {xs : List Int} (h : xs ≠ []) : (strOfNums xs).toList.isEmpty = false := by
  cases hl : (strOfNums xs).toList with
  | cons => rfl
  | nil =>
    exfalso
    rw [ByteArray.toList_eq, strOfNums_data] at hl
    exact h (by simpa using hl)
/-- Both parts are put, one behind the other. -/
theorem each_put (x y : Nat) (a b : Int) (g : Nat) (w : World) (hL : Ly w) (hG : 0 < g) (hX : Txb w g ⟨#[]⟩) (hx : S x = some (a * K)) (hy : S y = some (b * K)) (h1 : -999999 ≤ a) (h2 : a ≤ 999999) (h3 : -999999 ≤ b) (h4 : b ≤ 999999) (h0 : ¬ (a = 0 ∧ b = 0)) :
    Calls Tryd.prog 27 #[cc x y, .func (.func 28) #[.pointer (some ⟨g, 0, none⟩)] #[]] w fun e w' => e = .returned (.tuple #[]) ∧ (Txb w' g (strOfNums (txt a b)) ∧ Below g w w') := by
  have z0 : (ByteArray.mk #[]).size = 0 := rfl
  have z1 : (ByteArray.mk #[105]).size = 1 := rfl
  have l1 := digZ_len a h1 h2
  have i1 : (⟨#[105]⟩ : ByteArray) = strOfNums [105] := rfl
  have p1 : (⟨#[43]⟩ : ByteArray) = strOfNums [43] := rfl
  by_cases ha : a = 0
  · subst ha
    have hb : b ≠ 0 := fun h => h0 ⟨rfl, h⟩
    refine each_any x y 0 b _ w (fun W => W = w) _ hx hy h1 h2 h3 h4 (put_none g ⟨#[]⟩ w) ?_
    rintro W rfl
    refine (put_plain g ⟨#[]⟩ ⟨#[105]⟩ b W hL hX h3 h4 hb (by omega) (by omega) (.inr rfl)).mono ?_
    rintro e w' ⟨he, hX', hB'⟩
    refine ⟨he, ?_, hB'⟩
    have e1 : txt 0 b = digZ b ++ [105] := by unfold txt; rw [if_neg hb, if_pos rfl]
    rw [str_nil_app, i1, strOfNums_app, ← e1] at hX'
    exact hX'
  · have H1 : Calls Tryd.prog 28 #[.pointer (some ⟨g, 0, none⟩), .int .i64 a, .string ⟨#[]⟩] w fun e w' => e = .returned (.tuple #[]) ∧ (Txb w' g (strOfNums (digZ a)) ∧ Below g w w') := by
      have := put_plain g ⟨#[]⟩ ⟨#[]⟩ a w hL hX h1 h2 ha (by omega) (by omega) (.inr rfl)
      rw [str_app_nil, str_nil_app] at this
      exact this
    refine each_any x y a b _ w _ _ hx hy h1 h2 h3 h4 H1 ?_
    rintro W ⟨hX1, hB1⟩
    have hL1 := hL.below hB1 hG
    have s1 : (strOfNums (digZ a)).size ≤ 100 := by rw [strOfNums_size]; omega
    rcases Int.lt_trichotomy b 0 with hb | hb | hb
    · refine (put_plain g _ ⟨#[105]⟩ b W hL1 hX1 h3 h4 (by omega) s1 (by omega) (.inl hb)).mono ?_
      rintro e w' ⟨he, hX', hB'⟩
      refine ⟨he, ?_, hB1.trans hB'⟩
      have e1 : txt a b = digZ a ++ (digZ b ++ [105]) := by unfold txt; rw [if_neg (by omega), if_neg ha, if_neg (by omega)]
      rw [i1, strOfNums_app, strOfNums_app, ← e1] at hX'
      exact hX'
    · subst hb
      refine (put_none g ⟨#[105]⟩ W).mono ?_
      rintro e w' ⟨he, rfl⟩
      have e1 : txt a 0 = digZ a := by unfold txt; rw [if_pos rfl]
      rw [e1]
      exact ⟨he, hX1, hB1⟩
    · refine (put_plus g _ ⟨#[105]⟩ b W hL1 hX1 hb h4 s1 (by omega) (str_some (dig_ne a)) hG).mono ?_
      rintro e w' ⟨he, hX', hB'⟩
      refine ⟨he, ?_, hB1.trans hB'⟩
      have e1 : txt a b = (digZ a ++ [43]) ++ (digZ b ++ [105]) := by unfold txt; rw [if_neg (by omega), if_neg ha, if_pos hb]; simp
      rw [i1, p1, strOfNums_app, strOfNums_app, strOfNums_app, ← e1] at hX'
      exact hX'
theorem order_zero {x : Nat} {a : Int} (hx : S x = some (a * K)) : FloatKind.f64.format.order x 0 = some (compare a 0) := by
  have h := order_S hx S_nought
  rw [cmp_scale _ _ _ K_pos] at h
  exact h
theorem box_new (w : World) (T : TypeId) : Txb (w.alloc (.cells #[.string ⟨#[]⟩] T)) w.heap.size ⟨#[]⟩ := ⟨box1 w _ _, by
  unfold World.frozen? World.alloc
  simp⟩
set_option maxHeartbeats 1600000 in
theorem gshow_w (x y : Nat) (w : World) (hL : Ly w) : Calls Tryd.prog 9 #[cc x y] w fun e w' => e = .returned (.tuple #[.string (shZ (pz x y)), .int .i64 (errZ (pz x y))]) ∧ Below w.heap.size w w' := by
  cases hp : pz x y with
  | none =>
    have HP := hide (fun W => gfits_no hp W)
    clear hp
    go_enter Tryd.func9, Tryd.ntmps9
    go_wp2_with (go_at_call 17; refine (unhide HP _).mono ?_; rintro e w1 ⟨rfl, rfl⟩)
    go_ret2
    exact ⟨rfl, Below.refl _ _⟩
  | some q =>
    obtain ⟨a, b⟩ := q
    have HP := hide (fun W => gfits_yes hp W)
    have hi := pz_in hp
    have hv := pz_val hp
    simp only at hi hv
    have hx := (wh_val hv.1).1
    have hy := (wh_val hv.2).1
    have o1 := order_zero hx
    have o2 := order_zero hy
    have e1 : shZ (some (a, b)) = strOfNums (txt a b) := rfl
    have e2 : errZ (some (a, b)) = 0 := rfl
    rw [e1, e2]
    by_cases h0 : a = 0 ∧ b = 0
    · obtain ⟨rfl, rfl⟩ := h0
      have et : strOfNums (txt 0 0) = ⟨#[48]⟩ := by
        have : txt 0 0 = [48] := by unfold txt; rw [if_pos rfl, digZ_pos (by omega), show (0 : Int).toNat = 0 by rfl, digN_small (by omega)]; rfl
        rw [this]; rfl
      rw [et]
      rw [cmp_eq] at o1 o2
      clear hp hi hv hx hy e1 e2 et hL
      go_enter Tryd.func9, Tryd.ntmps9
      go_wp2_with (go_at_call 17; refine (unhide HP _).mono ?_; rintro e w1 ⟨rfl, rfl⟩)
      go_ret2
      exact ⟨rfl, Below.refl _ _⟩
    · have hmf : ∀ (fn : Fn) (first cap : Array Value) (w : World), (Instr.makeFunc fn first cap).run Tryd.prog w = .ok (.func fn first cap) w := fun _ _ _ _ => rfl
      have hLa : Ly (w.alloc (.cells #[.string ⟨#[]⟩] 58)) := hL.below ((Below.refl _ _).alloc (Nat.le_refl _) _) hL.pos
      have HE := hide (each_put x y a b w.heap.size _ hLa hL.pos (box_new w 58) hx hy hi.1 hi.2.1 hi.2.2.1 hi.2.2.2 h0)
      have HB : Hid (Below w.heap.size w (w.alloc (.cells #[.string ⟨#[]⟩] 58))) := (Below.refl _ _).alloc (Nat.le_refl _) _
      clear hp hi hv hx hy e1 e2 hL hLa
      generalize strOfNums (txt a b) = T at *
      rcases Int.lt_trichotomy a 0 with ha | ha | ha
      · rw [cmp_lt ha] at o1
        clear o2
        go_enter Tryd.func9, Tryd.ntmps9
        go_wp2_with (first | (go_at_call 27; refine (unhide HE).mono ?_; rintro e w2 ⟨rfl, x2, b2⟩; have j0 := x2.c) | (go_at_call 17; refine (unhide HP _).mono ?_; rintro e w1 ⟨rfl, rfl⟩))
        go_ret2
        exact ⟨rfl, (unhide HB).trans b2⟩
      · subst ha
        rw [cmp_eq] at o1
        have hb : b ≠ 0 := fun h => h0 ⟨rfl, h⟩
        rcases Int.lt_or_gt_of_ne hb with hb | hb
        · rw [cmp_lt hb] at o2
          go_enter Tryd.func9, Tryd.ntmps9
          go_wp2_with (first | (go_at_call 27; refine (unhide HE).mono ?_; rintro e w2 ⟨rfl, x2, b2⟩; have j0 := x2.c) | (go_at_call 17; refine (unhide HP _).mono ?_; rintro e w1 ⟨rfl, rfl⟩))
          go_ret2
          exact ⟨rfl, (unhide HB).trans b2⟩
        · rw [cmp_gt hb] at o2
          go_enter Tryd.func9, Tryd.ntmps9
          go_wp2_with (first | (go_at_call 27; refine (unhide HE).mono ?_; rintro e w2 ⟨rfl, x2, b2⟩; have j0 := x2.c) | (go_at_call 17; refine (unhide HP _).mono ?_; rintro e w1 ⟨rfl, rfl⟩))
          go_ret2
          exact ⟨rfl, (unhide HB).trans b2⟩
      · rw [cmp_gt ha] at o1
        clear o2
        go_enter Tryd.func9, Tryd.ntmps9
        go_wp2_with (first | (go_at_call 27; refine (unhide HE).mono ?_; rintro e w2 ⟨rfl, x2, b2⟩; have j0 := x2.c) | (go_at_call 17; refine (unhide HP _).mono ?_; rintro e w1 ⟨rfl, rfl⟩))
        go_ret2
        exact ⟨rfl, (unhide HB).trans b2⟩
end Go.Proofs.YtpkofpgdnbkknaaDoor
