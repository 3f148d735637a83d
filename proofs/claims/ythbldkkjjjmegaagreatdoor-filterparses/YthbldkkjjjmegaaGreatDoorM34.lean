/- The landed readFilter, Parse of layer 24. (By gen_rff.py.) -/
import Derived.Test.YthbldkkjjjmegaaGreatDoorM32
import Derived.Test.YthbldkkjjjmegaaGreatDoorM33
import Derived.Test.YthbldkkjjjmegaaGreatDoorM19
import Derived.Test.YthbldkkjjjmegaaGreatDoorM09
namespace Go.Proofs.YthbldkkjjjmegaaGreatDoor
set_option maxRecDepth 100000
open Go.RowKit

theorem ix_bool (c : Int) (h0 : 0 ≤ c) (h1 : c < 256) : Lib.indexByte [38, 124, 33] c.toNat.toUInt8 = boolK c := by
  have h : ∀ c : Fin 256, Lib.indexByte [38, 124, 33] (c.val : Int).toNat.toUInt8 = boolK (c.val : Int) := by decide +kernel
  have := h ⟨c.toNat, by omega⟩
  simpa [Int.toNat_of_nonneg h0] using this
theorem readN_short (k : Nat) {l : List Int} (h : l.length < 2 ∨ l.getD 0 0 ≠ 40) : readN k l = none := by
  cases k with
  | zero => rfl
  | succ m =>
    rw [readN.eq_def]
    cases l with
    | nil => rfl
    | cons c t =>
      dsimp only
      rw [if_pos]
      rcases h with h | h
      · right
        cases t with
        | nil => rfl
        | cons _ _ => simp only [List.length_cons] at h; omega
      · exact .inl h
set_option maxRecDepth 4000 in
set_option maxHeartbeats 12800000 in
theorem rfilter_land : ∀ k, RdOf k := by
  intro k
  induction k with
  | zero =>
    intro s w hL hk hs
    have hz : s.size = 0 := by omega
    have HX : Hid (readN 0 (nums s) = none) := rfl
    have z2 : (s.size : Int) < 2 := by omega
    clear hk hs hL hz
    go_enter Tryz.func27, Tryz.ntmps27
    go_wp2
    refine bodyPost_ret (res_fil3 rfl _ _ w.heap.size (.int .i64 0) (.string ⟨#[]⟩) (.string ⟨#[]⟩) (.string ⟨#[]⟩) (.slice none 0 0) (.string ⟨#[]⟩) (.bool false) (.bool false) (.string ⟨#[]⟩) (.bool false) (.slice none 0 0) rfl (heap_new w _)) rfl ?_
    exact ⟨_, ⟨#[]⟩, fl0, by rw [unhide HX]; rfl, flv_zeroP _ _, (fun f r hf => by rw [unhide HX] at hf; cases hf), Below.one _ _⟩
  | succ m IH =>
    intro s w hL hk hs
    have HR := heap_new w (.cells #[.int .i64 0, .string ⟨#[]⟩, .string ⟨#[]⟩, .string ⟨#[]⟩, .slice none 0 0, .string ⟨#[]⟩, .bool false, .bool false, .string ⟨#[]⟩, .bool false, .slice none 0 0] 27)
    have HB := Below.one w (.cells #[.int .i64 0, .string ⟨#[]⟩, .string ⟨#[]⟩, .string ⟨#[]⟩, .slice none 0 0, .string ⟨#[]⟩, .bool false, .bool false, .string ⟨#[]⟩, .bool false, .slice none 0 0] 27)
    by_cases hsh : s.size < 2
    · have HX : Hid (readN (m + 1) (nums s) = none) := readN_short _ (.inl (by rw [nums_length]; exact hsh))
      have z2 : (s.size : Int) < 2 := by omega
      clear hk hs hL hsh HR HB IH
      go_enter Tryz.func27, Tryz.ntmps27
      go_wp2
      refine bodyPost_ret (res_fil3 rfl _ _ w.heap.size (.int .i64 0) (.string ⟨#[]⟩) (.string ⟨#[]⟩) (.string ⟨#[]⟩) (.slice none 0 0) (.string ⟨#[]⟩) (.bool false) (.bool false) (.string ⟨#[]⟩) (.bool false) (.slice none 0 0) rfl (heap_new w _)) rfl ?_
      exact ⟨_, ⟨#[]⟩, fl0, by rw [unhide HX]; rfl, flv_zeroP _ _, (fun f r hf => by rw [unhide HX] at hf; cases hf), Below.one _ _⟩
    have z2 : ¬ (s.size : Int) < 2 := by omega
    have z00 : (0 : Int) < (s.size : Int) := by omega
    have z11 : (1 : Int) < (s.size : Int) := by omega
    have z12 : (1 : Int) ≤ (s.size : Int) := by omega
    have z22 : (2 : Int) ≤ (s.size : Int) := by omega
    have hs0 : 0 < s.size := by omega
    have hs1 : 1 < s.size := by omega
    obtain ⟨c, hc⟩ : ∃ c : Int, (s[0].toNat : Int) = c := ⟨_, rfl⟩
    have hat : (nums s).getD 0 0 = c := by rw [nums_at s 0 hs0]; exact hc
    obtain ⟨d, hd⟩ : ∃ d : Int, (s[1].toNat : Int) = d := ⟨_, rfl⟩
    have hdt : (nums s).getD 1 0 = d := by rw [nums_at s 1 hs1]; exact hd
    by_cases h40 : ¬ c = 40
    · have g40 : (c == 40) = false := by rw [beq_eq_false_iff_ne]; exact h40
      have HX : Hid (readN (m + 1) (nums s) = none) := readN_short _ (.inr (by rw [hat]; exact h40))
      clear hk hs hL hsh HR HB IH hat hdt h40
      go_enter Tryz.func27, Tryz.ntmps27
      go_wp2
      refine bodyPost_ret (res_fil3 rfl _ _ w.heap.size (.int .i64 0) (.string ⟨#[]⟩) (.string ⟨#[]⟩) (.string ⟨#[]⟩) (.slice none 0 0) (.string ⟨#[]⟩) (.bool false) (.bool false) (.string ⟨#[]⟩) (.bool false) (.slice none 0 0) rfl (heap_new w _)) rfl ?_
      exact ⟨_, ⟨#[]⟩, fl0, by rw [unhide HX]; rfl, flv_zeroP _ _, (fun f r hf => by rw [unhide HX] at hf; cases hf), Below.one _ _⟩
    replace h40 : c = 40 := Classical.not_not.1 h40
    have hcons : nums s = 40 :: nums (s.extract 1 s.size) := by
      rw [nums_drop]
      have h := drop_consI (nums s) 0 (by rw [nums_length]; exact hs0)
      rw [List.drop_zero, hat, h40] at h
      exact h
    have htl : (s.extract 1 s.size).size = s.size - 1 := by rw [ByteArray.size_extract]; omega
    have hdb := getD_nums s 1
    rw [hdt] at hdb
    have hd0 : (nums (s.extract 1 s.size)).getD 0 0 = d := by rw [nums_drop, getD_drop0]; exact hdt
    have hne : ¬ ((40 : Int) ≠ 40 ∨ nums (s.extract 1 s.size) = []) := by
      rintro (h | h)
      · exact h rfl
      · have := congrArg List.length h
        rw [nums_length, htl] at this
        simp at this
        omega
    have HI := hide (fun W => ixb_any ⟨#[38, 124, 33]⟩ d W)
    rw [show (⟨#[38, 124, 33]⟩ : ByteArray).data.toList = [38, 124, 33] from rfl, ix_bool d hdb.1 hdb.2] at HI
    subst h40
    by_cases hb : 0 ≤ boolK d
    · have hnb : ¬ boolK d < 0 := by omega
      have hX : readN (m + 1) (nums s) = (kidsN (readN m) (s.size - 1 + 1) [] (nums (s.extract 2 s.size))).map fun x => (kndF (boolK d) x.1, x.2) := by
        rw [hcons, readN]
        rw [if_neg hne, hd0, if_pos hb, nums_length, htl]
        congr 2
        rw [nums_drop, nums_drop, List.drop_drop]
      have CK := hide (rkids_land m IH (s.extract 2 s.size) (s.size - 1 + 1) (w.alloc (.cells #[.int .i64 0, .string ⟨#[]⟩, .string ⟨#[]⟩, .string ⟨#[]⟩, .slice none 0 0, .string ⟨#[]⟩, .bool false, .bool false, .string ⟨#[]⟩, .bool false, .slice none 0 0] 27)) (hL.keep HB) (by rw [ByteArray.size_extract]; omega) (by rw [ByteArray.size_extract]; omega) (by rw [ByteArray.size_extract]; omega))
      cases hkd : kidsN (readN m) (s.size - 1 + 1) [] (nums (s.extract 2 s.size)) with
      | none =>
        rw [hkd] at hX CK
        have HX : Hid (readN (m + 1) (nums s) = none) := hX
        clear hk hs hL hsh IH hat hdt hcons htl hdb hd0 hne hkd hX
        generalize boolK d = kd at *
        go_enter Tryz.func27, Tryz.ntmps27
        go_upto_region 7 with (first
          | (go_at_call 44; refine (unhide CK).mono ?_; rintro e w3 ⟨v3, rs, rfl, rfl, b3⟩; have HR3 := keep_blk HR b3; have t3 := HB.trans (b3.mono HB.size))
          | (go_at_call 42; refine (unhide HI _).mono ?_; rintro e w2 ⟨rfl, rfl⟩))
        obtain ⟨m0, m1, m2, m3, m4, m5, m6, m7, m8, m9, m10⟩ := cells11 HR3
        have frR := froz11 HR3
        clear HR CK HI b3
        go_wp2
        refine bodyPost_ret (res_fil3 rfl _ _ w.heap.size (.int .i64 kd) (.string ⟨#[]⟩) (.string ⟨#[]⟩) (.string ⟨#[]⟩) (.slice none 0 0) (.string ⟨#[]⟩) (.bool false) (.bool false) (.string ⟨#[]⟩) (.bool false) (.slice none 0 0) rfl (by
          refine put11h (a0 := (.int .i64 0)) (a1 := (.string ⟨#[]⟩)) (a2 := (.string ⟨#[]⟩)) (a3 := (.string ⟨#[]⟩)) (a4 := (.slice none 0 0)) (a5 := (.string ⟨#[]⟩)) (a6 := (.bool false)) (a7 := (.bool false)) (a8 := (.string ⟨#[]⟩)) (a9 := (.bool false)) (a10 := (.slice none 0 0)) ?_
          with_reducible exact HR3)) rfl ?_
        refine ⟨_, rs, kndF kd [], by rw [unhide HX]; rfl, (Ko.nil w.heap.size _).flvp (by simp) kd, (fun f r hf => by rw [unhide HX] at hf; cases hf), ?_⟩
        repeat (first | with_reducible exact t3 | refine Below.setCell ?_ (by first | omega | (dsimp only; omega)) _)
      | some y =>
        obtain ⟨l, r⟩ := y
        rw [hkd] at hX CK
        have HX : Hid (readN (m + 1) (nums s) = some (kndF (boolK d) l, r)) := hX
        clear hk hs hL hsh IH hat hdt hcons htl hdb hd0 hne hkd hX
        generalize boolK d = kd at *
        go_enter Tryz.func27, Tryz.ntmps27
        go_upto_region 7 with (first
          | (go_at_call 44; refine (unhide CK).mono ?_; rintro e w3 ⟨v3, rs, rfl, hko, hrs, hll, b3⟩; dsimp only at hko hrs hll; obtain ⟨ka, kc, rfl⟩ := hko.shape; have HR3 := keep_blk HR b3; have t3 := HB.trans (b3.mono HB.size); have HK := hide (hko.flvp (by omega) kd); have HRS := hide hrs; clear hko hrs hll)
          | (go_at_call 42; refine (unhide HI _).mono ?_; rintro e w2 ⟨rfl, rfl⟩))
        obtain ⟨m0, m1, m2, m3, m4, m5, m6, m7, m8, m9, m10⟩ := cells11 HR3
        have frR := froz11 HR3
        have HBS : Hid ((w.alloc (.cells #[.int .i64 0, .string ⟨#[]⟩, .string ⟨#[]⟩, .string ⟨#[]⟩, .slice none 0 0, .string ⟨#[]⟩, .bool false, .bool false, .string ⟨#[]⟩, .bool false, .slice none 0 0] 27)).heap.size = w.heap.size + 1) := World.size_alloc w (.cells #[.int .i64 0, .string ⟨#[]⟩, .string ⟨#[]⟩, .string ⟨#[]⟩, .slice none 0 0, .string ⟨#[]⟩, .bool false, .bool false, .string ⟨#[]⟩, .bool false, .slice none 0 0] 27)
        clear HR CK HI b3
        go_wp2
        refine bodyPost_ret (res_fil3 rfl _ _ w.heap.size (.int .i64 kd) (.string ⟨#[]⟩) (.string ⟨#[]⟩) (.string ⟨#[]⟩) (.slice none 0 0) (.string ⟨#[]⟩) (.bool false) (.bool false) (.string ⟨#[]⟩) (.bool false) (.slice ka l.length kc) rfl (by
          refine put11h (a0 := (.int .i64 0)) (a1 := (.string ⟨#[]⟩)) (a2 := (.string ⟨#[]⟩)) (a3 := (.string ⟨#[]⟩)) (a4 := (.slice none 0 0)) (a5 := (.string ⟨#[]⟩)) (a6 := (.bool false)) (a7 := (.bool false)) (a8 := (.string ⟨#[]⟩)) (a9 := (.bool false)) (a10 := (.slice none 0 0)) ?_
          with_reducible exact HR3)) rfl ?_
        refine ⟨_, rs, kndF kd l, by rw [unhide HX]; rfl, (unhide HK).mono (fun b hb => ⟨by have z := unhide HBS; have := hb.1; omega, by have := hb.2; simpa [World.setCell] using this⟩) (fun b hb => by
          have hne : b ≠ w.heap.size := by have z := unhide HBS; have := hb.1; omega
          repeat (first | with_reducible rfl | refine (Below.heap_setCell _ _ _ _ hne).trans ?_)), (fun f r' hf => by rw [unhide HX] at hf; cases hf; exact ⟨rfl, unhide HRS⟩), ?_⟩
        repeat (first | with_reducible exact t3 | refine Below.setCell ?_ (by first | omega | (dsimp only; omega)) _)
    · have hnb : boolK d < 0 := by omega
      have hX : readN (m + 1) (nums s) = rItm (s.size - 1 + 1) (nums (s.extract 1 s.size)) := by
        rw [hcons, readN]
        rw [if_neg hne, hd0, if_neg hb, nums_length, htl]
      have CT := hide (ritem_land (s.extract 1 s.size) (s.size - 1 + 1) (w.alloc (.cells #[.int .i64 0, .string ⟨#[]⟩, .string ⟨#[]⟩, .string ⟨#[]⟩, .slice none 0 0, .string ⟨#[]⟩, .bool false, .bool false, .string ⟨#[]⟩, .bool false, .slice none 0 0] 27)) (hL.keep HB) (by omega) (by omega) (by omega))
      rw [← hX] at CT
      clear hk hs hL hsh IH hat hdt hcons htl hdb hd0 hne hX hb
      generalize boolK d = kd at *
      generalize readN (m + 1) (nums s) = o at *
      go_enter Tryz.func27, Tryz.ntmps27
      go_upto_region 5 with (go_at_call 42; refine (unhide HI _).mono ?_; rintro e w2 ⟨rfl, rfl⟩)
      have HBS : Hid ((w.alloc (.cells #[.int .i64 0, .string ⟨#[]⟩, .string ⟨#[]⟩, .string ⟨#[]⟩, .slice none 0 0, .string ⟨#[]⟩, .bool false, .bool false, .string ⟨#[]⟩, .bool false, .slice none 0 0] 27)).heap.size = w.heap.size + 1) := World.size_alloc w (.cells #[.int .i64 0, .string ⟨#[]⟩, .string ⟨#[]⟩, .string ⟨#[]⟩, .slice none 0 0, .string ⟨#[]⟩, .bool false, .bool false, .string ⟨#[]⟩, .bool false, .slice none 0 0] 27)
      clear HI
      go_wp2_with (go_at_call 43; refine (unhide CT).mono ?_; rintro e w3 ⟨x, rs, e4, rfl, hx, hfe, b3⟩; obtain ⟨x1, y1, x2, y2, rfl, -⟩ := hx.flv.open; have HR3 := keep_blk HR b3; have t3 := HB.trans (b3.mono HB.size); have HXX := hide hx; have HFE := hide hfe; clear hx hfe; obtain ⟨m0, m1, m2, m3, m4, m5, m6, m7, m8, m9, m10⟩ := cells11 HR3; have frR := froz11 HR3)
      refine bodyPost_ret (res_fil3 rfl _ _ w.heap.size (.int .i64 e4.kin) (.string e4.nam) (.string e4.val) (.string e4.ini) (.slice x1 e4.any.length y1) (.string e4.fin) (.bool e4.hi) (.bool e4.hf) (.string e4.rul) (.bool e4.dn) (.slice x2 e4.kids.length y2) rfl (by
        refine put11h (a0 := (.int .i64 0)) (a1 := (.string ⟨#[]⟩)) (a2 := (.string ⟨#[]⟩)) (a3 := (.string ⟨#[]⟩)) (a4 := (.slice none 0 0)) (a5 := (.string ⟨#[]⟩)) (a6 := (.bool false)) (a7 := (.bool false)) (a8 := (.string ⟨#[]⟩)) (a9 := (.bool false)) (a10 := (.slice none 0 0)) ?_
        with_reducible exact HR3)) rfl ?_
      refine ⟨_, rs, e4, rfl, (unhide HXX).mono (fun b hb => ⟨by have z := unhide HBS; have := hb.1; omega, by have := hb.2; simpa [World.setCell] using this⟩) (fun b hb => by
        have hne : b ≠ w.heap.size := by have z := unhide HBS; have := hb.1; omega
        repeat (first | with_reducible rfl | refine (Below.heap_setCell _ _ _ _ hne).trans ?_)), unhide HFE, ?_⟩
      repeat (first | with_reducible exact t3 | refine Below.setCell ?_ (by first | omega | (dsimp only; omega)) _)
end Go.Proofs.YthbldkkjjjmegaaGreatDoor
/- The landed Check, Parse of layer 24. (By gen_ck.py.) -/
namespace Go.Proofs.YthbldkkjjjmegaaGreatDoor
set_option maxRecDepth 100000
open Go.RowKit

set_option maxHeartbeats 3200000 in
theorem fcheck_any (e : Fl) (x : Value) (w : World) (hV : FlV w e x) (hS : smF e) : Calls Tryz.prog 9 #[x] w fun y w' => y = .returned (.int .i64 (chkF e)) ∧ Gr w w' := by
  obtain ⟨a1, c1, a2, c2, hv, _⟩ := hV.open
  have H2 := hide fun (w2 : World) (g : Gr w w2) => fCount_any e x w2 (hV.grow g.below)
  have H3 := hide fun (w2 : World) (g : Gr w w2) => fits_any e x w2 (hV.grow g.below) hS
  have g0 := Gr.one w (.cells (cFl e.kin e.nam e.val e.ini a1 e.any.length c1 e.fin e.hi e.hf e.rul e.dn a2 e.kids.length c2) 27)
  clear hV hS
  subst hv
  by_cases h1 : 60 < countF e
  · have zc : (60 : Int) < (countF e : Int) := by omega
    have HE : Hid (chkF e = 240) := by show _ = _; unfold chkF; rw [if_pos (.inr (.inl h1))]
    clear H3 h1
    generalize countF e = n at *
    go_enter Tryz.func9, Tryz.ntmps9
    go_wp2_with (go_at_call 13; refine (unhide H2 _ g0).mono ?_; rintro e w2 ⟨rfl, g2⟩)
    go_ret
    exact ⟨by rw [unhide HE]; rfl, g0.trans g2⟩
  · have zc : ¬ (60 : Int) < (countF e : Int) := by omega
    have hd : ¬ 8 < deepF e 9 := fun h => h1 (by unfold countF; rw [if_pos h]; decide)
    cases ha : allF e
    · have HE : Hid (chkF e = 240) := by show _ = _; unfold chkF; rw [if_pos (.inr (.inr ha))]
      rw [ha] at H3
      clear h1 hd ha
      generalize countF e = n at *
      go_enter Tryz.func9, Tryz.ntmps9
      go_wp2_with (first
        | (go_at_call 21; refine (unhide H3 _ (g0.trans g2)).mono ?_; rintro e w3 ⟨rfl, g3⟩)
        | (go_at_call 13; refine (unhide H2 _ g0).mono ?_; rintro e w2 ⟨rfl, g2⟩; obtain ⟨m0, m1, m2, m3, m4, m5, m6, m7, m8, m9, m10⟩ := box11 g2))
      go_ret
      exact ⟨by rw [unhide HE]; rfl, (g0.trans g2).trans g3⟩
    · have HE : Hid (chkF e = 0) := by
        show _ = _
        unfold chkF
        rw [if_neg]
        rintro (h | h | h)
        · exact hd h
        · exact h1 h
        · rw [ha] at h; cases h
      rw [ha] at H3
      clear h1 hd ha
      generalize countF e = n at *
      go_enter Tryz.func9, Tryz.ntmps9
      go_wp2_with (first
        | (go_at_call 21; refine (unhide H3 _ (g0.trans g2)).mono ?_; rintro e w3 ⟨rfl, g3⟩)
        | (go_at_call 13; refine (unhide H2 _ g0).mono ?_; rintro e w2 ⟨rfl, g2⟩; obtain ⟨m0, m1, m2, m3, m4, m5, m6, m7, m8, m9, m10⟩ := box11 g2))
      go_ret
      exact ⟨by rw [unhide HE]; rfl, (g0.trans g2).trans g3⟩
/-! What is read has short rows. -/
theorem sm_itm (k : Int) (n v r : List Int) (d : Bool) : smF (itmF k n v r d) := by unfold itmF; simp [smF, smF.L]
theorem itm_sm {h : List Int} {k : Int} {vs : List (List Int)} {f : Fl} (hl : vs.length ≤ 1000000) (hi : itmL h k vs = some f) : smF f := by
  unfold itmL at hi
  split at hi
  · split at hi
    · cases hi
    · split at hi
      · cases hi; exact sm_itm _ _ _ _ _
      · cases hi
  · split at hi
    · cases hi; exact sm_itm _ _ _ _ _
    · split at hi
      · unfold starL at hi
        split at hi
        · cases hi; simp [smF, smF.L]
        · cases vs with
          | nil => cases hi
          | cons v ws =>
            cases hi
            unfold subF
            simp only [smF, smF.L, and_true]
            unfold midS
            rw [List.length_map, List.length_dropLast]
            rw [List.length_cons] at hl
            omega
      · cases hi
theorem rItm_sm {n : Nat} {s r : List Int} {f : Fl} (hn : n ≤ 1000000) (h : rItm n s = some (f, r)) : smF f := by
  unfold rItm at h
  cases hc : cutL 61 s with
  | none => rw [hc] at h; cases h
  | some p =>
    obtain ⟨g, t⟩ := p
    rw [hc] at h
    dsimp only at h
    cases hv : valsV n t with
    | none => rw [hv] at h; cases h
    | some q =>
      obtain ⟨vs, r'⟩ := q
      rw [hv] at h
      dsimp only at h
      cases hi : itmL (hdL g) (kdL g) vs with
      | none => rw [hi] at h; cases h
      | some f' =>
        rw [hi] at h
        cases h
        exact itm_sm (by have := (vals_len _ _ _ _ hv).2; omega) hi
theorem smL_app : ∀ (a b : List Fl), smF.L a → smF.L b → smF.L (a ++ b)
  | [], b, _, h => h
  | e :: t, b, h1, h2 => by
    simp only [smF.L] at h1
    simp only [List.cons_append, smF.L]
    exact ⟨h1.1, smL_app t b h1.2 h2⟩
theorem kids_sm (rd : List Int → Option (Fl × List Int)) (hrd : ∀ s f r, byt s → s.length ≤ 4000 → rd s = some (f, r) → smF f ∧ r.length < s.length ∧ byt r) :
    ∀ (n : Nat) (acc : List Fl) (s : List Int) (l : List Fl) (r : List Int), byt s → s.length ≤ 4000 → smF.L acc → kidsN rd n acc s = some (l, r) → smF.L l
  | 0, acc, s, l, r, _, _, _, h => by rw [kidsN] at h; cases h
  | n + 1, acc, s, l, r, hb, hl, ha, h => by
    rw [kidsN.eq_def] at h
    dsimp only at h
    cases s with
    | nil => cases h
    | cons c t =>
      dsimp only at h
      by_cases hc : c = 41
      · rw [if_pos hc] at h; cases h; exact ha
      · rw [if_neg hc] at h
        cases hr : rd (c :: t) with
        | none => rw [hr] at h; cases h
        | some x =>
          obtain ⟨f, r2⟩ := x
          rw [hr] at h
          dsimp only at h
          obtain ⟨h1, h2, h3⟩ := hrd _ _ _ hb hl hr
          exact kids_sm rd hrd n (acc ++ [f]) r2 l r h3 (by omega) (smL_app _ _ ha (by simp only [smF.L]; exact ⟨h1, trivial⟩)) h
theorem read_sm : ∀ (k : Nat) (s : List Int) (f : Fl) (r : List Int), byt s → s.length ≤ 4000 → readN k s = some (f, r) → smF f
  | 0, s, f, r, _, _, h => by rw [readN] at h; cases h
  | m + 1, s, f, r, hb, hl, h => by
    rw [readN.eq_def] at h
    dsimp only at h
    cases s with
    | nil => cases h
    | cons c t =>
      dsimp only at h
      rw [List.length_cons] at hl
      have hbt : byt t := fun x hx => hb x (by simp [hx])
      split at h
      · cases h
      · split at h
        · cases hk : kidsN (readN m) (t.length + 1) [] (t.drop 1) with
          | none => rw [hk] at h; cases h
          | some x =>
            rw [hk] at h
            cases h
            unfold kndF
            simp only [smF, List.length_nil, Nat.zero_le, true_and]
            exact kids_sm (readN m) (fun s f r h1 h2 h3 => ⟨read_sm m s f r h1 h2 h3, (read_doc m s f r h1 h3).1, (read_doc m s f r h1 h3).2.1⟩) _ _ _ _ _ (fun x hx => hbt x (List.mem_of_mem_drop hx)) (by rw [List.length_drop]; omega) (by simp only [smF.L]) hk
        · exact rItm_sm (by omega) h
set_option maxRecDepth 4000 in
set_option maxHeartbeats 12800000 in
theorem parse_land (s : ByteArray) (w : World) (hL : Ly w) : Calls Tryz.prog 15 #[.string s] w fun y w' => ∃ x, y = .returned (.tuple #[x, .int .i64 (parE24 s)]) ∧ FlV w' (parF s) x ∧ Below w.heap.size w w' := by
  have HR := heap_new w (.cells #[.int .i64 0, .string ⟨#[]⟩, .string ⟨#[]⟩, .string ⟨#[]⟩, .slice none 0 0, .string ⟨#[]⟩, .bool false, .bool false, .string ⟨#[]⟩, .bool false, .slice none 0 0] 27)
  have HB := Below.one w (.cells #[.int .i64 0, .string ⟨#[]⟩, .string ⟨#[]⟩, .string ⟨#[]⟩, .slice none 0 0, .string ⟨#[]⟩, .bool false, .bool false, .string ⟨#[]⟩, .bool false, .slice none 0 0] 27)
  by_cases hb : 4000 < s.size
  · have zb : (4000 : Int) < (s.size : Int) := by omega
    have HE : Hid (parE24 s = 3) := by show _ = _; unfold parE24; rw [if_pos hb]
    have HF : Hid (parF s = fl0) := by show _ = _; unfold parF; rw [if_pos hb]
    clear hL hb HR HB
    go_enter Tryz.func15, Tryz.ntmps15
    go_wp2
    refine bodyPost_ret (res_fil2 rfl _ _ w.heap.size (.int .i64 0) (.string ⟨#[]⟩) (.string ⟨#[]⟩) (.string ⟨#[]⟩) (.slice none 0 0) (.string ⟨#[]⟩) (.bool false) (.bool false) (.string ⟨#[]⟩) (.bool false) (.slice none 0 0) rfl (heap_new w _)) rfl ?_
    exact ⟨_, by rw [unhide HE]; rfl, by rw [unhide HF]; exact (flv_zeroP (fun _ => True) _).flv, Below.one _ _⟩
  have zb : ¬ (4000 : Int) < (s.size : Int) := by omega
  have hpl := par_land (nums s) (nums_bound s) s.size (by rw [nums_length]; exact Nat.le_refl _)
  have CR := hide (rfilter_land s.size s (w.alloc (.cells #[.int .i64 0, .string ⟨#[]⟩, .string ⟨#[]⟩, .string ⟨#[]⟩, .slice none 0 0, .string ⟨#[]⟩, .bool false, .bool false, .string ⟨#[]⟩, .bool false, .slice none 0 0] 27)) (hL.keep HB) (Nat.le_refl _) (by omega))
  have hpE : parE24 s = if (parO (nums s)).isSome = true then 0 else 240 := by unfold parE24; rw [if_neg hb]
  have hpF : parF s = (parO (nums s)).getD fl0 := by unfold parF; rw [if_neg hb]
  cases hr : readN s.size (nums s) with
  | none =>
    rw [hr] at hpl CR
    have HE : Hid (parE24 s = 240) := by show _ = _; rw [hpE, hpl]; rfl
    have HF : Hid (parF s = fl0) := by show _ = _; rw [hpF, hpl]; rfl
    clear hL hb hr hpl hpE hpF
    go_enter Tryz.func15, Tryz.ntmps15
    go_upto_region 4 with (go_at_call 27; refine (unhide CR).mono ?_; rintro e w3 ⟨x, rs, e4, rfl, hx, -, b3⟩; obtain ⟨x1, y1, x2, y2, rfl, -⟩ := hx.flv.open; have HR3 := keep_blk HR b3; have t3 := HB.trans (b3.mono HB.size))
    have HR4 := keep_blk HR3 (Below.one w3 (.cells (cFl e4.kin e4.nam e4.val e4.ini x1 e4.any.length y1 e4.fin e4.hi e4.hf e4.rul e4.dn x2 e4.kids.length y2) 27))
    have t4 := t3.trans ((Below.one w3 (.cells (cFl e4.kin e4.nam e4.val e4.ini x1 e4.any.length y1 e4.fin e4.hi e4.hf e4.rul e4.dn x2 e4.kids.length y2) 27)).mono t3.size)
    have hne1 : ¬ w.heap.size = w3.heap.size := by have := blk_lt24 HR3; omega
    clear HR3 HR CR t3 b3 hx HB
    generalize w3.alloc (.cells (cFl e4.kin e4.nam e4.val e4.ini x1 e4.any.length y1 e4.fin e4.hi e4.hf e4.rul e4.dn x2 e4.kids.length y2) 27) = w4 at *
    obtain ⟨m0, m1, m2, m3, m4, m5, m6, m7, m8, m9, m10⟩ := cells11 HR4
    have frR := froz11 HR4
    go_wp2
    refine bodyPost_ret (res_fil2 rfl _ _ w.heap.size (.int .i64 0) (.string ⟨#[]⟩) (.string ⟨#[]⟩) (.string ⟨#[]⟩) (.slice none 0 0) (.string ⟨#[]⟩) (.bool false) (.bool false) (.string ⟨#[]⟩) (.bool false) (.slice none 0 0) rfl (by
      refine put11h (a0 := (.int .i64 0)) (a1 := (.string ⟨#[]⟩)) (a2 := (.string ⟨#[]⟩)) (a3 := (.string ⟨#[]⟩)) (a4 := (.slice none 0 0)) (a5 := (.string ⟨#[]⟩)) (a6 := (.bool false)) (a7 := (.bool false)) (a8 := (.string ⟨#[]⟩)) (a9 := (.bool false)) (a10 := (.slice none 0 0)) ?_
      with_reducible exact HR4)) rfl ?_
    refine ⟨_, by rw [unhide HE]; rfl, by rw [unhide HF]; exact (flv_zeroP (fun _ => True) _).flv, ?_⟩
    repeat (first | with_reducible exact t4 | refine Below.setCell ?_ (by first | omega | (dsimp only; omega)) _)
  | some y =>
    obtain ⟨f, r⟩ := y
    rw [hr] at hpl CR
    dsimp only at hpl
    have hsm : smF f := read_sm s.size (nums s) f r (nums_bound s) (by rw [nums_length]; omega) hr
    have CK := hide (fun (x : Value) (W : World) (hx : FlV W f x) => fcheck_any f x W hx hsm)
    by_cases hr0 : r = []
    · by_cases hk : chkF f = 0
      · rw [if_pos ⟨hr0, hk⟩] at hpl
        have HE : Hid (parE24 s = 0) := by show _ = _; rw [hpE, hpl]; rfl
        have HF : Hid (parF s = f) := by show _ = _; rw [hpF, hpl]; rfl
        rw [hk] at CK
        have HR0 := hide hr0
        clear hL hb hr hpl hpE hpF hk hsm hr0
        go_enter Tryz.func15, Tryz.ntmps15
        go_upto_region 4 with (go_at_call 27; refine (unhide CR).mono ?_; rintro e w3 ⟨x, rs, e4, rfl, hx, hfr, b3⟩; obtain ⟨x1, y1, x2, y2, rfl, -⟩ := hx.flv.open; have HR3 := keep_blk HR b3; have t3 := HB.trans (b3.mono HB.size))
        have hem : rs.toList.isEmpty = true := by
          have h2 := (hfr _ _ rfl).2
          rw [unhide HR0] at h2
          rw [emp_sz, decide_eq_true]
          rw [← nums_length, h2]; rfl
        have HFE := hide (hfr _ _ rfl).1
        have HR4 := keep_blk HR3 (Below.one w3 (.cells (cFl e4.kin e4.nam e4.val e4.ini x1 e4.any.length y1 e4.fin e4.hi e4.hf e4.rul e4.dn x2 e4.kids.length y2) 27))
        have HB4 := heap_new w3 (.cells (cFl e4.kin e4.nam e4.val e4.ini x1 e4.any.length y1 e4.fin e4.hi e4.hf e4.rul e4.dn x2 e4.kids.length y2) 27)
        have t4 := t3.trans ((Below.one w3 (.cells (cFl e4.kin e4.nam e4.val e4.ini x1 e4.any.length y1 e4.fin e4.hi e4.hf e4.rul e4.dn x2 e4.kids.length y2) 27)).mono t3.size)
        have hne1 : ¬ w.heap.size = w3.heap.size := by have := blk_lt24 HR3; omega
        have HXP : Hid (FlVP (fun b => w.heap.size < b ∧ b < w3.heap.size) (w3.alloc (.cells (cFl e4.kin e4.nam e4.val e4.ini x1 e4.any.length y1 e4.fin e4.hi e4.hf e4.rul e4.dn x2 e4.kids.length y2) 27)) e4 (.agg #[.int .i64 e4.kin, .string e4.nam, .string e4.val, .string e4.ini, .slice x1 e4.any.length y1, .string e4.fin, .bool e4.hi, .bool e4.hf, .string e4.rul, .bool e4.dn, .slice x2 e4.kids.length y2])) := hx.mono (fun b hb => ⟨by have z := World.size_alloc w (.cells #[.int .i64 0, .string ⟨#[]⟩, .string ⟨#[]⟩, .string ⟨#[]⟩, .slice none 0 0, .string ⟨#[]⟩, .bool false, .bool false, .string ⟨#[]⟩, .bool false, .slice none 0 0] 27); have := hb.1; omega, hb.2⟩) (fun b hb => (Below.one w3 (.cells (cFl e4.kin e4.nam e4.val e4.ini x1 e4.any.length y1 e4.fin e4.hi e4.hf e4.rul e4.dn x2 e4.kids.length y2) 27)).block b hb.2)
        have HSZ : Hid (w3.heap.size < (w3.alloc (.cells (cFl e4.kin e4.nam e4.val e4.ini x1 e4.any.length y1 e4.fin e4.hi e4.hf e4.rul e4.dn x2 e4.kids.length y2) 27)).heap.size) := by show _ < _; rw [World.size_alloc]; omega
        clear HR3 HR CR t3 b3 hx HB hfr
        generalize w3.alloc (.cells (cFl e4.kin e4.nam e4.val e4.ini x1 e4.any.length y1 e4.fin e4.hi e4.hf e4.rul e4.dn x2 e4.kids.length y2) 27) = w4 at *
        have hV4 := (unhide HXP).flv
        have CK4 := hide (unhide CK _ w4 (by rw [unhide HFE]; exact hV4))
        obtain ⟨k0, k1, k2, k3, k4, k5, k6, k7, k8, k9, k10⟩ := cells11 HB4
        clear CK hV4
        go_upto_region 6 with (go_at_call 9; refine (unhide CK4).mono ?_; rintro e w5 ⟨rfl, g5⟩)
        have b5 := g5.below
        have HR5 := keep_blk HR4 b5
        have HB5 := keep_blk HB4 b5
        have t5 := t4.trans (b5.mono t4.size)
        replace HXP : Hid (FlVP (fun b => w.heap.size < b ∧ b < w3.heap.size) w5 e4 (.agg #[.int .i64 e4.kin, .string e4.nam, .string e4.val, .string e4.ini, .slice x1 e4.any.length y1, .string e4.fin, .bool e4.hi, .bool e4.hf, .string e4.rul, .bool e4.dn, .slice x2 e4.kids.length y2])) := (unhide HXP).mono (fun b hb => hb) (fun b hb => b5.block b (by have z := unhide HSZ; have := hb.2; omega))
        clear HR4 HB4 t4 b5 g5
        obtain ⟨m0, m1, m2, m3, m4, m5, m6, m7, m8, m9, m10⟩ := cells11 HR5
        obtain ⟨q0, q1, q2, q3, q4, q5, q6, q7, q8, q9, q10⟩ := cells11 HB5
        have frR := froz11 HR5
        go_wp2
        refine bodyPost_ret (res_fil2 rfl _ _ w.heap.size (.int .i64 e4.kin) (.string e4.nam) (.string e4.val) (.string e4.ini) (.slice x1 e4.any.length y1) (.string e4.fin) (.bool e4.hi) (.bool e4.hf) (.string e4.rul) (.bool e4.dn) (.slice x2 e4.kids.length y2) rfl (by
          refine put11h (a0 := (.int .i64 0)) (a1 := (.string ⟨#[]⟩)) (a2 := (.string ⟨#[]⟩)) (a3 := (.string ⟨#[]⟩)) (a4 := (.slice none 0 0)) (a5 := (.string ⟨#[]⟩)) (a6 := (.bool false)) (a7 := (.bool false)) (a8 := (.string ⟨#[]⟩)) (a9 := (.bool false)) (a10 := (.slice none 0 0)) ?_
          with_reducible exact HR5)) rfl ?_
        refine ⟨_, by rw [unhide HE]; rfl, by rw [unhide HF, unhide HFE]; exact ((unhide HXP).mono (fun b hb => hb) (fun b hb => by
          have hne : b ≠ w.heap.size := by have := hb.1; omega
          repeat (first | with_reducible rfl | refine (Below.heap_setCell _ _ _ _ hne).trans ?_))).flv, ?_⟩
        repeat (first | with_reducible exact t5 | refine Below.setCell ?_ (by first | omega | (dsimp only; omega)) _)
      · rw [if_neg (fun h => hk h.2)] at hpl
        have HE : Hid (parE24 s = 240) := by show _ = _; rw [hpE, hpl]; rfl
        have HF : Hid (parF s = fl0) := by show _ = _; rw [hpF, hpl]; rfl
        have zk : (chkF f == 0) = false := by rw [beq_eq_false_iff_ne]; exact hk
        have zk2 : (chkF f != 0) = true := by simp [bne, zk]
        have HR0 := hide hr0
        clear hL hb hr hpl hpE hpF hk hsm hr0
        generalize chkF f = ck at *
        go_enter Tryz.func15, Tryz.ntmps15
        go_upto_region 4 with (go_at_call 27; refine (unhide CR).mono ?_; rintro e w3 ⟨x, rs, e4, rfl, hx, hfr, b3⟩; obtain ⟨x1, y1, x2, y2, rfl, -⟩ := hx.flv.open; have HR3 := keep_blk HR b3; have t3 := HB.trans (b3.mono HB.size))
        have hem : rs.toList.isEmpty = true := by
          have h2 := (hfr _ _ rfl).2
          rw [unhide HR0] at h2
          rw [emp_sz, decide_eq_true]
          rw [← nums_length, h2]; rfl
        have HFE := hide (hfr _ _ rfl).1
        have HR4 := keep_blk HR3 (Below.one w3 (.cells (cFl e4.kin e4.nam e4.val e4.ini x1 e4.any.length y1 e4.fin e4.hi e4.hf e4.rul e4.dn x2 e4.kids.length y2) 27))
        have HB4 := heap_new w3 (.cells (cFl e4.kin e4.nam e4.val e4.ini x1 e4.any.length y1 e4.fin e4.hi e4.hf e4.rul e4.dn x2 e4.kids.length y2) 27)
        have t4 := t3.trans ((Below.one w3 (.cells (cFl e4.kin e4.nam e4.val e4.ini x1 e4.any.length y1 e4.fin e4.hi e4.hf e4.rul e4.dn x2 e4.kids.length y2) 27)).mono t3.size)
        have hne1 : ¬ w.heap.size = w3.heap.size := by have := blk_lt24 HR3; omega
        have HXP : Hid (FlVP (fun b => w.heap.size < b ∧ b < w3.heap.size) (w3.alloc (.cells (cFl e4.kin e4.nam e4.val e4.ini x1 e4.any.length y1 e4.fin e4.hi e4.hf e4.rul e4.dn x2 e4.kids.length y2) 27)) e4 (.agg #[.int .i64 e4.kin, .string e4.nam, .string e4.val, .string e4.ini, .slice x1 e4.any.length y1, .string e4.fin, .bool e4.hi, .bool e4.hf, .string e4.rul, .bool e4.dn, .slice x2 e4.kids.length y2])) := hx.mono (fun b hb => ⟨by have z := World.size_alloc w (.cells #[.int .i64 0, .string ⟨#[]⟩, .string ⟨#[]⟩, .string ⟨#[]⟩, .slice none 0 0, .string ⟨#[]⟩, .bool false, .bool false, .string ⟨#[]⟩, .bool false, .slice none 0 0] 27); have := hb.1; omega, hb.2⟩) (fun b hb => (Below.one w3 (.cells (cFl e4.kin e4.nam e4.val e4.ini x1 e4.any.length y1 e4.fin e4.hi e4.hf e4.rul e4.dn x2 e4.kids.length y2) 27)).block b hb.2)
        have HSZ : Hid (w3.heap.size < (w3.alloc (.cells (cFl e4.kin e4.nam e4.val e4.ini x1 e4.any.length y1 e4.fin e4.hi e4.hf e4.rul e4.dn x2 e4.kids.length y2) 27)).heap.size) := by show _ < _; rw [World.size_alloc]; omega
        clear HR3 HR CR t3 b3 hx HB hfr
        generalize w3.alloc (.cells (cFl e4.kin e4.nam e4.val e4.ini x1 e4.any.length y1 e4.fin e4.hi e4.hf e4.rul e4.dn x2 e4.kids.length y2) 27) = w4 at *
        have hV4 := (unhide HXP).flv
        have CK4 := hide (unhide CK _ w4 (by rw [unhide HFE]; exact hV4))
        obtain ⟨k0, k1, k2, k3, k4, k5, k6, k7, k8, k9, k10⟩ := cells11 HB4
        clear CK hV4
        go_upto_region 5 with (go_at_call 9; refine (unhide CK4).mono ?_; rintro e w5 ⟨rfl, g5⟩)
        have b5 := g5.below
        have HR5 := keep_blk HR4 b5
        have HB5 := keep_blk HB4 b5
        have t5 := t4.trans (b5.mono t4.size)
        replace HXP : Hid (FlVP (fun b => w.heap.size < b ∧ b < w3.heap.size) w5 e4 (.agg #[.int .i64 e4.kin, .string e4.nam, .string e4.val, .string e4.ini, .slice x1 e4.any.length y1, .string e4.fin, .bool e4.hi, .bool e4.hf, .string e4.rul, .bool e4.dn, .slice x2 e4.kids.length y2])) := (unhide HXP).mono (fun b hb => hb) (fun b hb => b5.block b (by have z := unhide HSZ; have := hb.2; omega))
        clear HR4 HB4 t4 b5 g5
        obtain ⟨m0, m1, m2, m3, m4, m5, m6, m7, m8, m9, m10⟩ := cells11 HR5
        obtain ⟨q0, q1, q2, q3, q4, q5, q6, q7, q8, q9, q10⟩ := cells11 HB5
        have frR := froz11 HR5
        go_wp2
        refine bodyPost_ret (res_fil2 rfl _ _ w.heap.size (.int .i64 0) (.string ⟨#[]⟩) (.string ⟨#[]⟩) (.string ⟨#[]⟩) (.slice none 0 0) (.string ⟨#[]⟩) (.bool false) (.bool false) (.string ⟨#[]⟩) (.bool false) (.slice none 0 0) rfl (by
          refine put11h (a0 := (.int .i64 0)) (a1 := (.string ⟨#[]⟩)) (a2 := (.string ⟨#[]⟩)) (a3 := (.string ⟨#[]⟩)) (a4 := (.slice none 0 0)) (a5 := (.string ⟨#[]⟩)) (a6 := (.bool false)) (a7 := (.bool false)) (a8 := (.string ⟨#[]⟩)) (a9 := (.bool false)) (a10 := (.slice none 0 0)) ?_
          with_reducible exact HR5)) rfl ?_
        refine ⟨_, by rw [unhide HE]; rfl, by rw [unhide HF]; exact (flv_zeroP (fun _ => True) _).flv, ?_⟩
        repeat (first | with_reducible exact t5 | refine Below.setCell ?_ (by first | omega | (dsimp only; omega)) _)
    · rw [if_neg (fun h => hr0 h.1)] at hpl
      have HE : Hid (parE24 s = 240) := by show _ = _; rw [hpE, hpl]; rfl
      have HF : Hid (parF s = fl0) := by show _ = _; rw [hpF, hpl]; rfl
      have HR0 := hide hr0
      clear hL hb hr hpl hpE hpF hsm hr0 CK
      go_enter Tryz.func15, Tryz.ntmps15
      go_upto_region 4 with (go_at_call 27; refine (unhide CR).mono ?_; rintro e w3 ⟨x, rs, e4, rfl, hx, hfr, b3⟩; obtain ⟨x1, y1, x2, y2, rfl, -⟩ := hx.flv.open; have HR3 := keep_blk HR b3; have t3 := HB.trans (b3.mono HB.size))
      have hem : rs.toList.isEmpty = false := by
        rw [emp_sz, decide_eq_false]
        intro hz
        have h2 := (hfr _ _ rfl).2
        exact unhide HR0 (by rw [← h2]; exact List.length_eq_zero_iff.1 (by rw [nums_length]; exact hz))
      have HR4 := keep_blk HR3 (Below.one w3 (.cells (cFl e4.kin e4.nam e4.val e4.ini x1 e4.any.length y1 e4.fin e4.hi e4.hf e4.rul e4.dn x2 e4.kids.length y2) 27))
      have t4 := t3.trans ((Below.one w3 (.cells (cFl e4.kin e4.nam e4.val e4.ini x1 e4.any.length y1 e4.fin e4.hi e4.hf e4.rul e4.dn x2 e4.kids.length y2) 27)).mono t3.size)
      have hne1 : ¬ w.heap.size = w3.heap.size := by have := blk_lt24 HR3; omega
      clear HR3 HR CR t3 b3 hx HB hfr
      generalize w3.alloc (.cells (cFl e4.kin e4.nam e4.val e4.ini x1 e4.any.length y1 e4.fin e4.hi e4.hf e4.rul e4.dn x2 e4.kids.length y2) 27) = w4 at *
      obtain ⟨m0, m1, m2, m3, m4, m5, m6, m7, m8, m9, m10⟩ := cells11 HR4
      have frR := froz11 HR4
      go_wp2
      refine bodyPost_ret (res_fil2 rfl _ _ w.heap.size (.int .i64 0) (.string ⟨#[]⟩) (.string ⟨#[]⟩) (.string ⟨#[]⟩) (.slice none 0 0) (.string ⟨#[]⟩) (.bool false) (.bool false) (.string ⟨#[]⟩) (.bool false) (.slice none 0 0) rfl (by
        refine put11h (a0 := (.int .i64 0)) (a1 := (.string ⟨#[]⟩)) (a2 := (.string ⟨#[]⟩)) (a3 := (.string ⟨#[]⟩)) (a4 := (.slice none 0 0)) (a5 := (.string ⟨#[]⟩)) (a6 := (.bool false)) (a7 := (.bool false)) (a8 := (.string ⟨#[]⟩)) (a9 := (.bool false)) (a10 := (.slice none 0 0)) ?_
        with_reducible exact HR4)) rfl ?_
      refine ⟨_, by rw [unhide HE]; rfl, by rw [unhide HF]; exact (flv_zeroP (fun _ => True) _).flv, ?_⟩
      repeat (first | with_reducible exact t4 | refine Below.setCell ?_ (by first | omega | (dsimp only; omega)) _)
end Go.Proofs.YthbldkkjjjmegaaGreatDoor
/- The document's Parse of layer 24. (By gen_ps.py.) -/
namespace Go.Proofs.YthbldkkjjjmegaaGreatDoor
set_option maxRecDepth 100000
open Go.RowKit

set_option maxHeartbeats 6400000 in
theorem rparse24_any (s : ByteArray) (w : World) : Calls Tryz.prog 16 #[.string s] w fun y w' => ∃ x, y = .returned (.tuple #[x, .int .i64 (parE24 s)]) ∧ FlV w' (parF s) x ∧ Below w.heap.size w w' := by
  have HR := heap_new w (.cells #[.int .i64 0, .string ⟨#[]⟩, .string ⟨#[]⟩, .string ⟨#[]⟩, .slice none 0 0, .string ⟨#[]⟩, .bool false, .bool false, .string ⟨#[]⟩, .bool false, .slice none 0 0] 27)
  have HB := Below.one w (.cells #[.int .i64 0, .string ⟨#[]⟩, .string ⟨#[]⟩, .string ⟨#[]⟩, .slice none 0 0, .string ⟨#[]⟩, .bool false, .bool false, .string ⟨#[]⟩, .bool false, .slice none 0 0] 27)
  by_cases hb : 4000 < s.size
  · have zb : (4000 : Int) < (s.size : Int) := by omega
    have HE : Hid (parE24 s = 3) := by show _ = _; unfold parE24; rw [if_pos hb]
    have HF : Hid (parF s = fl0) := by show _ = _; unfold parF; rw [if_pos hb]
    clear hb HR HB
    go_enter Tryz.func16, Tryz.ntmps16
    go_wp2
    refine bodyPost_ret (res_fil2 rfl _ _ w.heap.size (.int .i64 0) (.string ⟨#[]⟩) (.string ⟨#[]⟩) (.string ⟨#[]⟩) (.slice none 0 0) (.string ⟨#[]⟩) (.bool false) (.bool false) (.string ⟨#[]⟩) (.bool false) (.slice none 0 0) rfl (heap_new w _)) rfl ?_
    exact ⟨_, by rw [unhide HE]; rfl, by rw [unhide HF]; exact (flv_zeroP (fun _ => True) _).flv, Below.one _ _⟩
  have zb : ¬ (4000 : Int) < (s.size : Int) := by omega
  have hpl : parO (nums s) = match takeL 8 0 (nums s) with
    | none => none
    | some (e4, r, _) => if r = [] ∧ chkF e4 = 0 then some e4 else none := by unfold parO; rfl
  have h1 := take_any 8 (Nat.le_refl _) s 0 0 (w.alloc (.cells #[.int .i64 0, .string ⟨#[]⟩, .string ⟨#[]⟩, .string ⟨#[]⟩, .slice none 0 0, .string ⟨#[]⟩, .bool false, .bool false, .string ⟨#[]⟩, .bool false, .slice none 0 0] 27)) (by omega) (Nat.zero_le _) (by omega)
  rw [List.drop_zero] at h1
  have CR : Hid (Calls Tryz.prog 28 #[.string s, .int .i64 0, .int .i64 1, .int .i64 0] (w.alloc (.cells #[.int .i64 0, .string ⟨#[]⟩, .string ⟨#[]⟩, .string ⟨#[]⟩, .slice none 0 0, .string ⟨#[]⟩, .bool false, .bool false, .string ⟨#[]⟩, .bool false, .slice none 0 0] 27)) fun e w' => TkPost (takeL 8 0 (nums s)) s 0 (w.alloc (.cells #[.int .i64 0, .string ⟨#[]⟩, .string ⟨#[]⟩, .string ⟨#[]⟩, .slice none 0 0, .string ⟨#[]⟩, .bool false, .bool false, .string ⟨#[]⟩, .bool false, .slice none 0 0] 27)) e w') := h1
  clear h1
  have hpE : parE24 s = if (parO (nums s)).isSome = true then 0 else 240 := by unfold parE24; rw [if_neg hb]
  have hpF : parF s = (parO (nums s)).getD fl0 := by unfold parF; rw [if_neg hb]
  cases hr : takeL 8 0 (nums s) with
  | none =>
    rw [hr] at hpl CR
    have HE : Hid (parE24 s = 240) := by show _ = _; rw [hpE, hpl]; rfl
    have HF : Hid (parF s = fl0) := by show _ = _; rw [hpF, hpl]; rfl
    clear hb hr hpl hpE hpF
    have zn : ((-1 : Int) == (s.size : Int)) = false := by rw [beq_eq_false_iff_ne]; omega
    go_enter Tryz.func16, Tryz.ntmps16
    go_upto_region 4 with (go_at_call 28; refine (unhide CR).mono ?_; rintro e w3 ⟨p2, rfl, b3⟩; have HR3 := keep_blk HR b3; have t3 := HB.trans (b3.mono HB.size))
    have HR4 := keep_blk HR3 (Below.one w3 (.cells #[.int .i64 0, .string ⟨#[]⟩, .string ⟨#[]⟩, .string ⟨#[]⟩, .slice none 0 0, .string ⟨#[]⟩, .bool false, .bool false, .string ⟨#[]⟩, .bool false, .slice none 0 0] 27))
    have t4 := t3.trans ((Below.one w3 (.cells #[.int .i64 0, .string ⟨#[]⟩, .string ⟨#[]⟩, .string ⟨#[]⟩, .slice none 0 0, .string ⟨#[]⟩, .bool false, .bool false, .string ⟨#[]⟩, .bool false, .slice none 0 0] 27)).mono t3.size)
    have hne1 : ¬ w.heap.size = w3.heap.size := by have := blk_lt24 HR3; omega
    clear HR3 HR CR t3 b3 HB
    generalize w3.alloc (.cells #[.int .i64 0, .string ⟨#[]⟩, .string ⟨#[]⟩, .string ⟨#[]⟩, .slice none 0 0, .string ⟨#[]⟩, .bool false, .bool false, .string ⟨#[]⟩, .bool false, .slice none 0 0] 27) = w4 at *
    obtain ⟨m0, m1, m2, m3, m4, m5, m6, m7, m8, m9, m10⟩ := cells11 HR4
    have frR := froz11 HR4
    go_wp2
    refine bodyPost_ret (res_fil2 rfl _ _ w.heap.size (.int .i64 0) (.string ⟨#[]⟩) (.string ⟨#[]⟩) (.string ⟨#[]⟩) (.slice none 0 0) (.string ⟨#[]⟩) (.bool false) (.bool false) (.string ⟨#[]⟩) (.bool false) (.slice none 0 0) rfl (by
      refine put11h (a0 := (.int .i64 0)) (a1 := (.string ⟨#[]⟩)) (a2 := (.string ⟨#[]⟩)) (a3 := (.string ⟨#[]⟩)) (a4 := (.slice none 0 0)) (a5 := (.string ⟨#[]⟩)) (a6 := (.bool false)) (a7 := (.bool false)) (a8 := (.string ⟨#[]⟩)) (a9 := (.bool false)) (a10 := (.slice none 0 0)) ?_
      with_reducible exact HR4)) rfl ?_
    refine ⟨_, by rw [unhide HE]; rfl, by rw [unhide HF]; exact (flv_zeroP (fun _ => True) _).flv, ?_⟩
    repeat (first | with_reducible exact t4 | refine Below.setCell ?_ (by first | omega | (dsimp only; omega)) _)
  | some y =>
    obtain ⟨e4, r, q⟩ := y
    rw [hr] at hpl CR
    dsimp only at hpl
    have hsm : smF e4 := read_sm s.size (nums s) e4 r (nums_bound s) (by rw [nums_length]; omega) (take_land 8 0 (nums s) e4 r q hr s.size (by rw [nums_length]; exact Nat.le_refl _)).1
    have CK := hide (fun (x : Value) (W : World) (hx : FlV W e4 x) => rcheck24_any e4 x W hx hsm)
    have hnl := hide (nums_length s)
    by_cases hr0 : r = []
    · by_cases hk : chkF e4 = 0
      · rw [if_pos ⟨hr0, hk⟩] at hpl
        have HE : Hid (parE24 s = 0) := by show _ = _; rw [hpE, hpl]; rfl
        have HF : Hid (parF s = e4) := by show _ = _; rw [hpF, hpl]; rfl
        rw [hk] at CK
        have HR0 := hide hr0
        clear hb hr hpl hpE hpF hk hsm hr0
        go_enter Tryz.func16, Tryz.ntmps16
        go_upto_region 4 with (go_at_call 28; refine (unhide CR).mono ?_; rintro e w3 ⟨x, t, rfl, h0t, hts, hdr, hx, b3⟩; obtain ⟨x1, y1, x2, y2, rfl, -⟩ := hx.flv.open; have HR3 := keep_blk HR b3; have t3 := HB.trans (b3.mono HB.size))
        have hte : t = s.size := by
          have h2 := hdr
          rw [unhide HR0] at h2
          have := List.drop_eq_nil_iff.1 h2
          rw [unhide hnl] at this
          omega
        subst hte
        have HR4 := keep_blk HR3 (Below.one w3 (.cells (cFl e4.kin e4.nam e4.val e4.ini x1 e4.any.length y1 e4.fin e4.hi e4.hf e4.rul e4.dn x2 e4.kids.length y2) 27))
        have HB4 := heap_new w3 (.cells (cFl e4.kin e4.nam e4.val e4.ini x1 e4.any.length y1 e4.fin e4.hi e4.hf e4.rul e4.dn x2 e4.kids.length y2) 27)
        have t4 := t3.trans ((Below.one w3 (.cells (cFl e4.kin e4.nam e4.val e4.ini x1 e4.any.length y1 e4.fin e4.hi e4.hf e4.rul e4.dn x2 e4.kids.length y2) 27)).mono t3.size)
        have hne1 : ¬ w.heap.size = w3.heap.size := by have := blk_lt24 HR3; omega
        have HXP : Hid (FlVP (fun b => w.heap.size < b ∧ b < w3.heap.size) (w3.alloc (.cells (cFl e4.kin e4.nam e4.val e4.ini x1 e4.any.length y1 e4.fin e4.hi e4.hf e4.rul e4.dn x2 e4.kids.length y2) 27)) e4 (.agg #[.int .i64 e4.kin, .string e4.nam, .string e4.val, .string e4.ini, .slice x1 e4.any.length y1, .string e4.fin, .bool e4.hi, .bool e4.hf, .string e4.rul, .bool e4.dn, .slice x2 e4.kids.length y2])) := hx.mono (fun b hb => ⟨by have z := World.size_alloc w (.cells #[.int .i64 0, .string ⟨#[]⟩, .string ⟨#[]⟩, .string ⟨#[]⟩, .slice none 0 0, .string ⟨#[]⟩, .bool false, .bool false, .string ⟨#[]⟩, .bool false, .slice none 0 0] 27); have := hb.1; omega, hb.2⟩) (fun b hb => (Below.one w3 (.cells (cFl e4.kin e4.nam e4.val e4.ini x1 e4.any.length y1 e4.fin e4.hi e4.hf e4.rul e4.dn x2 e4.kids.length y2) 27)).block b hb.2)
        have HSZ : Hid (w3.heap.size < (w3.alloc (.cells (cFl e4.kin e4.nam e4.val e4.ini x1 e4.any.length y1 e4.fin e4.hi e4.hf e4.rul e4.dn x2 e4.kids.length y2) 27)).heap.size) := by show _ < _; rw [World.size_alloc]; omega
        clear HR3 HR CR t3 b3 hx HB hdr
        generalize w3.alloc (.cells (cFl e4.kin e4.nam e4.val e4.ini x1 e4.any.length y1 e4.fin e4.hi e4.hf e4.rul e4.dn x2 e4.kids.length y2) 27) = w4 at *
        have hV4 := (unhide HXP).flv
        have CK4 := hide (unhide CK _ w4 (hV4))
        obtain ⟨k0, k1, k2, k3, k4, k5, k6, k7, k8, k9, k10⟩ := cells11 HB4
        clear CK hV4
        go_upto_region 6 with (go_at_call 10; refine (unhide CK4).mono ?_; rintro e w5 ⟨rfl, g5⟩)
        have b5 := g5.below
        have HR5 := keep_blk HR4 b5
        have HB5 := keep_blk HB4 b5
        have t5 := t4.trans (b5.mono t4.size)
        replace HXP : Hid (FlVP (fun b => w.heap.size < b ∧ b < w3.heap.size) w5 e4 (.agg #[.int .i64 e4.kin, .string e4.nam, .string e4.val, .string e4.ini, .slice x1 e4.any.length y1, .string e4.fin, .bool e4.hi, .bool e4.hf, .string e4.rul, .bool e4.dn, .slice x2 e4.kids.length y2])) := (unhide HXP).mono (fun b hb => hb) (fun b hb => b5.block b (by have z := unhide HSZ; have := hb.2; omega))
        clear HR4 HB4 t4 b5 g5
        obtain ⟨m0, m1, m2, m3, m4, m5, m6, m7, m8, m9, m10⟩ := cells11 HR5
        obtain ⟨q0, q1, q2, q3, q4, q5, q6, q7, q8, q9, q10⟩ := cells11 HB5
        have frR := froz11 HR5
        go_wp2
        refine bodyPost_ret (res_fil2 rfl _ _ w.heap.size (.int .i64 e4.kin) (.string e4.nam) (.string e4.val) (.string e4.ini) (.slice x1 e4.any.length y1) (.string e4.fin) (.bool e4.hi) (.bool e4.hf) (.string e4.rul) (.bool e4.dn) (.slice x2 e4.kids.length y2) rfl (by
          refine put11h (a0 := (.int .i64 0)) (a1 := (.string ⟨#[]⟩)) (a2 := (.string ⟨#[]⟩)) (a3 := (.string ⟨#[]⟩)) (a4 := (.slice none 0 0)) (a5 := (.string ⟨#[]⟩)) (a6 := (.bool false)) (a7 := (.bool false)) (a8 := (.string ⟨#[]⟩)) (a9 := (.bool false)) (a10 := (.slice none 0 0)) ?_
          with_reducible exact HR5)) rfl ?_
        refine ⟨_, by rw [unhide HE]; rfl, by rw [unhide HF]; exact ((unhide HXP).mono (fun b hb => hb) (fun b hb => by
          have hne : b ≠ w.heap.size := by have := hb.1; omega
          repeat (first | with_reducible rfl | refine (Below.heap_setCell _ _ _ _ hne).trans ?_))).flv, ?_⟩
        repeat (first | with_reducible exact t5 | refine Below.setCell ?_ (by first | omega | (dsimp only; omega)) _)
      · rw [if_neg (fun h => hk h.2)] at hpl
        have HE : Hid (parE24 s = 240) := by show _ = _; rw [hpE, hpl]; rfl
        have HF : Hid (parF s = fl0) := by show _ = _; rw [hpF, hpl]; rfl
        have zk : (chkF e4 == 0) = false := by rw [beq_eq_false_iff_ne]; exact hk
        have zk2 : (chkF e4 != 0) = true := by simp [bne, zk]
        have HR0 := hide hr0
        clear hb hr hpl hpE hpF hk hsm hr0
        generalize chkF e4 = ck at *
        go_enter Tryz.func16, Tryz.ntmps16
        go_upto_region 4 with (go_at_call 28; refine (unhide CR).mono ?_; rintro e w3 ⟨x, t, rfl, h0t, hts, hdr, hx, b3⟩; obtain ⟨x1, y1, x2, y2, rfl, -⟩ := hx.flv.open; have HR3 := keep_blk HR b3; have t3 := HB.trans (b3.mono HB.size))
        have hte : t = s.size := by
          have h2 := hdr
          rw [unhide HR0] at h2
          have := List.drop_eq_nil_iff.1 h2
          rw [unhide hnl] at this
          omega
        subst hte
        have HR4 := keep_blk HR3 (Below.one w3 (.cells (cFl e4.kin e4.nam e4.val e4.ini x1 e4.any.length y1 e4.fin e4.hi e4.hf e4.rul e4.dn x2 e4.kids.length y2) 27))
        have HB4 := heap_new w3 (.cells (cFl e4.kin e4.nam e4.val e4.ini x1 e4.any.length y1 e4.fin e4.hi e4.hf e4.rul e4.dn x2 e4.kids.length y2) 27)
        have t4 := t3.trans ((Below.one w3 (.cells (cFl e4.kin e4.nam e4.val e4.ini x1 e4.any.length y1 e4.fin e4.hi e4.hf e4.rul e4.dn x2 e4.kids.length y2) 27)).mono t3.size)
        have hne1 : ¬ w.heap.size = w3.heap.size := by have := blk_lt24 HR3; omega
        have HXP : Hid (FlVP (fun b => w.heap.size < b ∧ b < w3.heap.size) (w3.alloc (.cells (cFl e4.kin e4.nam e4.val e4.ini x1 e4.any.length y1 e4.fin e4.hi e4.hf e4.rul e4.dn x2 e4.kids.length y2) 27)) e4 (.agg #[.int .i64 e4.kin, .string e4.nam, .string e4.val, .string e4.ini, .slice x1 e4.any.length y1, .string e4.fin, .bool e4.hi, .bool e4.hf, .string e4.rul, .bool e4.dn, .slice x2 e4.kids.length y2])) := hx.mono (fun b hb => ⟨by have z := World.size_alloc w (.cells #[.int .i64 0, .string ⟨#[]⟩, .string ⟨#[]⟩, .string ⟨#[]⟩, .slice none 0 0, .string ⟨#[]⟩, .bool false, .bool false, .string ⟨#[]⟩, .bool false, .slice none 0 0] 27); have := hb.1; omega, hb.2⟩) (fun b hb => (Below.one w3 (.cells (cFl e4.kin e4.nam e4.val e4.ini x1 e4.any.length y1 e4.fin e4.hi e4.hf e4.rul e4.dn x2 e4.kids.length y2) 27)).block b hb.2)
        have HSZ : Hid (w3.heap.size < (w3.alloc (.cells (cFl e4.kin e4.nam e4.val e4.ini x1 e4.any.length y1 e4.fin e4.hi e4.hf e4.rul e4.dn x2 e4.kids.length y2) 27)).heap.size) := by show _ < _; rw [World.size_alloc]; omega
        clear HR3 HR CR t3 b3 hx HB hdr
        generalize w3.alloc (.cells (cFl e4.kin e4.nam e4.val e4.ini x1 e4.any.length y1 e4.fin e4.hi e4.hf e4.rul e4.dn x2 e4.kids.length y2) 27) = w4 at *
        have hV4 := (unhide HXP).flv
        have CK4 := hide (unhide CK _ w4 (hV4))
        obtain ⟨k0, k1, k2, k3, k4, k5, k6, k7, k8, k9, k10⟩ := cells11 HB4
        clear CK hV4
        go_upto_region 5 with (go_at_call 10; refine (unhide CK4).mono ?_; rintro e w5 ⟨rfl, g5⟩)
        have b5 := g5.below
        have HR5 := keep_blk HR4 b5
        have HB5 := keep_blk HB4 b5
        have t5 := t4.trans (b5.mono t4.size)
        replace HXP : Hid (FlVP (fun b => w.heap.size < b ∧ b < w3.heap.size) w5 e4 (.agg #[.int .i64 e4.kin, .string e4.nam, .string e4.val, .string e4.ini, .slice x1 e4.any.length y1, .string e4.fin, .bool e4.hi, .bool e4.hf, .string e4.rul, .bool e4.dn, .slice x2 e4.kids.length y2])) := (unhide HXP).mono (fun b hb => hb) (fun b hb => b5.block b (by have z := unhide HSZ; have := hb.2; omega))
        clear HR4 HB4 t4 b5 g5
        obtain ⟨m0, m1, m2, m3, m4, m5, m6, m7, m8, m9, m10⟩ := cells11 HR5
        obtain ⟨q0, q1, q2, q3, q4, q5, q6, q7, q8, q9, q10⟩ := cells11 HB5
        have frR := froz11 HR5
        go_wp2
        refine bodyPost_ret (res_fil2 rfl _ _ w.heap.size (.int .i64 0) (.string ⟨#[]⟩) (.string ⟨#[]⟩) (.string ⟨#[]⟩) (.slice none 0 0) (.string ⟨#[]⟩) (.bool false) (.bool false) (.string ⟨#[]⟩) (.bool false) (.slice none 0 0) rfl (by
          refine put11h (a0 := (.int .i64 0)) (a1 := (.string ⟨#[]⟩)) (a2 := (.string ⟨#[]⟩)) (a3 := (.string ⟨#[]⟩)) (a4 := (.slice none 0 0)) (a5 := (.string ⟨#[]⟩)) (a6 := (.bool false)) (a7 := (.bool false)) (a8 := (.string ⟨#[]⟩)) (a9 := (.bool false)) (a10 := (.slice none 0 0)) ?_
          with_reducible exact HR5)) rfl ?_
        refine ⟨_, by rw [unhide HE]; rfl, by rw [unhide HF]; exact (flv_zeroP (fun _ => True) _).flv, ?_⟩
        repeat (first | with_reducible exact t5 | refine Below.setCell ?_ (by first | omega | (dsimp only; omega)) _)
    · rw [if_neg (fun h => hr0 h.1)] at hpl
      have HE : Hid (parE24 s = 240) := by show _ = _; rw [hpE, hpl]; rfl
      have HF : Hid (parF s = fl0) := by show _ = _; rw [hpF, hpl]; rfl
      have HR0 := hide hr0
      clear hb hr hpl hpE hpF hsm hr0 CK
      go_enter Tryz.func16, Tryz.ntmps16
      go_upto_region 4 with (go_at_call 28; refine (unhide CR).mono ?_; rintro e w3 ⟨x, t, rfl, h0t, hts, hdr, hx, b3⟩; obtain ⟨x1, y1, x2, y2, rfl, -⟩ := hx.flv.open; have HR3 := keep_blk HR b3; have t3 := HB.trans (b3.mono HB.size))
      have hne2 : ((t : Int) == (s.size : Int)) = false := by
        rw [beq_eq_false_iff_ne]
        intro hz
        refine unhide HR0 ?_
        rw [← hdr]
        exact List.drop_eq_nil_of_le (by rw [unhide hnl]; omega)
      have hne3 : ¬ t = s.size := by
        intro hz
        rw [hz] at hne2
        simp at hne2
      have hne4 : (t == s.size) = false := by rw [beq_eq_false_iff_ne]; exact hne3
      have hne5 : (t != s.size) = true := by rw [bne, hne4]; rfl
      have hne6 : ((t : Int) != (s.size : Int)) = true := by rw [bne, hne2]; rfl
      have HR4 := keep_blk HR3 (Below.one w3 (.cells (cFl e4.kin e4.nam e4.val e4.ini x1 e4.any.length y1 e4.fin e4.hi e4.hf e4.rul e4.dn x2 e4.kids.length y2) 27))
      have t4 := t3.trans ((Below.one w3 (.cells (cFl e4.kin e4.nam e4.val e4.ini x1 e4.any.length y1 e4.fin e4.hi e4.hf e4.rul e4.dn x2 e4.kids.length y2) 27)).mono t3.size)
      have hne1 : ¬ w.heap.size = w3.heap.size := by have := blk_lt24 HR3; omega
      clear HR3 HR CR t3 b3 hx HB hdr
      generalize w3.alloc (.cells (cFl e4.kin e4.nam e4.val e4.ini x1 e4.any.length y1 e4.fin e4.hi e4.hf e4.rul e4.dn x2 e4.kids.length y2) 27) = w4 at *
      obtain ⟨m0, m1, m2, m3, m4, m5, m6, m7, m8, m9, m10⟩ := cells11 HR4
      have frR := froz11 HR4
      go_wp2
      refine bodyPost_ret (res_fil2 rfl _ _ w.heap.size (.int .i64 0) (.string ⟨#[]⟩) (.string ⟨#[]⟩) (.string ⟨#[]⟩) (.slice none 0 0) (.string ⟨#[]⟩) (.bool false) (.bool false) (.string ⟨#[]⟩) (.bool false) (.slice none 0 0) rfl (by
        refine put11h (a0 := (.int .i64 0)) (a1 := (.string ⟨#[]⟩)) (a2 := (.string ⟨#[]⟩)) (a3 := (.string ⟨#[]⟩)) (a4 := (.slice none 0 0)) (a5 := (.string ⟨#[]⟩)) (a6 := (.bool false)) (a7 := (.bool false)) (a8 := (.string ⟨#[]⟩)) (a9 := (.bool false)) (a10 := (.slice none 0 0)) ?_
        with_reducible exact HR4)) rfl ?_
      refine ⟨_, by rw [unhide HE]; rfl, by rw [unhide HF]; exact (flv_zeroP (fun _ => True) _).flv, ?_⟩
      repeat (first | with_reducible exact t4 | refine Below.setCell ?_ (by first | omega | (dsimp only; omega)) _)
end Go.Proofs.YthbldkkjjjmegaaGreatDoor
/- FilterParses, out of the landed contracts. (By gen_ps.py.) -/
namespace Go.Proofs.YthbldkkjjjmegaaGreatDoor
set_option maxRecDepth 100000
open Go.RowKit

set_option maxHeartbeats 6400000 in
theorem parses24_law (w : World) (C : K24 w) (s : ByteArray) : Calls Tryz.prog 4 #[.string s] w fun y w' => y = .returned (.bool true) ∧ Below w.heap.size w w' := by
  have AW := hide (fun W (b : Below w.heap.size w W) => awake24 C W b)
  have P1 := hide (C.par s w (Below.refl _ _))
  have P2 := hide (fun W => rparse24_any s W)
  have M1 := hide (fun W x x' (v : FlV W (parF s) x) (v' : FlV W (parF s) x') => (rsame24_any (parF s) (parF s) x x' W v v').mono fun _ _ ⟨h1, h2⟩ => (⟨h1, h2.below⟩ : _ ∧ Below W.heap.size W _))
  rw [(sameF_iff (parF s) (parF s)).2 rfl] at M1
  generalize parF s = g at *
  generalize parE24 s = k at *
  have ez : (k == k) = true := by simp
  clear C
  go_enter Tryz.func4, Tryz.ntmps4
  go_wp2_with (first
    | (go_at_call 6; refine (unhide AW _ t4).mono ?_; rintro e w5 ⟨rfl, b5⟩; have t5 := t4.trans (b5.mono t4.size))
    | (go_at_call 17; refine (unhide M1 _ _ _ V2 V3).mono ?_; rintro e w4 ⟨rfl, b4⟩; have t4 := t3.trans (b4.mono t3.size))
    | (go_at_call 16; refine (unhide P2 _).mono ?_; rintro e w3 ⟨y, rfl, v3, b3⟩; obtain ⟨x3, y3, x4, y4, rfl, -, -, -⟩ := v3.open;
        have bo := Below.one w3 (.cells (cFl g.kin g.nam g.val g.ini x3 g.any.length y3 g.fin g.hi g.hf g.rul g.dn x4 g.kids.length y4) 27); have t3a := t1.trans (b3.mono t1.size); have t3 := t3a.trans (bo.mono t3a.size); have V2 := (V1.grow b3).grow bo; have V3 := v3.grow bo;
        obtain ⟨k0, k1, k2, k3, k4, k5, k6, k7, k8, k9, k10⟩ := cells11 (keep_blk (keep_blk H1 b3) bo); obtain ⟨m0, m1, m2, m3, m4, m5, m6, m7, m8, m9, m10⟩ := cells11 (heap_new w3 (.cells (cFl g.kin g.nam g.val g.ini x3 g.any.length y3 g.fin g.hi g.hf g.rul g.dn x4 g.kids.length y4) 27)))
    | (go_at_call 15; refine (unhide P1).mono ?_; rintro e w1 ⟨x, rfl, v1, b1⟩; obtain ⟨x1, y1, x2, y2, rfl, -, -, -⟩ := v1.open;
        have bp := Below.one w1 (.cells (cFl g.kin g.nam g.val g.ini x1 g.any.length y1 g.fin g.hi g.hf g.rul g.dn x2 g.kids.length y2) 27); have t1 := b1.trans (bp.mono b1.size); have V1 := v1.grow bp; have H1 := heap_new w1 (.cells (cFl g.kin g.nam g.val g.ini x1 g.any.length y1 g.fin g.hi g.hf g.rul g.dn x2 g.kids.length y2) 27)))
  go_ret
  exact ⟨rfl, t5⟩
end Go.Proofs.YthbldkkjjjmegaaGreatDoor
