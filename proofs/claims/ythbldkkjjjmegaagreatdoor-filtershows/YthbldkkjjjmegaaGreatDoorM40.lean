/- The landed readFilter, Parse of layer 24. (By gen_rff.py.) -/
import Derived.Test.YthbldkkjjjmegaaGreatDoorM38
import Derived.Test.YthbldkkjjjmegaaGreatDoorM39
import Derived.Test.YthbldkkjjjmegaaGreatDoorM24
import Derived.Test.YthbldkkjjjmegaaGreatDoorM27
import Derived.Test.YthbldkkjjjmegaaGreatDoorM09
import Derived.Test.YthbldkkjjjmegaaGreatDoorM22
namespace Go.Proofs.YthbldkkjjjmegaaGreatDoor
set_option maxRecDepth 100000
open Go.RowKit

theorem ix_bool (c : Int) (h0 : 0 ≤ c) (h1 : c < 256) : Lib.indexByte [38, 124, 33] c.toNat.toUInt8 = boolK c := by
  have h : ∀ c : Fin 256, Lib.indexByte [38, 124, 33] (c.val : Int).toNat.toUInt8 = boolK (c.val : Int) := by decide +kernel
  have := h ⟨c.toNat, by omega⟩
  simpa [Int.toNat_of_nonneg h0] using this
theorem readN_short (k : Nat) {l : List Int} (h : l.length < 2 ∨ l.getD 0 0 ≠ 40) : readN k l = none := by
  cases k with
  | zero => rfl
  | succ m =>
    rw [readN.eq_def]
    cases l with
    | nil => rfl
    | cons c t =>
      dsimp only
      rw [if_pos]
      rcases h with h | h
      · right
        cases t with
        | nil => rfl
        | cons _ _ => simp only [List.length_cons] at h; omega
      · exact .inl h
set_option maxRecDepth 4000 in
set_option maxHeartbeats 12800000 in
theorem rfilter_land : ∀ k, RdOf k := by
  intro k
  induction k with
  | zero =>
    intro s w hL hk hs
    have hz : s.size = 0 := by omega
    have HX : Hid (readN 0 (nums s) = none) := rfl
    have z2 : (s.size : Int) < 2 := by omega
    clear hk hs hL hz
    go_enter Tryz.func27, Tryz.ntmps27
    go_wp2
    refine bodyPost_ret (res_fil3 rfl _ _ w.heap.size (.int .i64 0) (.string ⟨#[]⟩) (.string ⟨#[]⟩) (.string ⟨#[]⟩) (.slice none 0 0) (.string ⟨#[]⟩) (.bool false) (.bool false) (.string ⟨#[]⟩) (.bool false) (.slice none 0 0) rfl (heap_new w _)) rfl ?_
    exact ⟨_, ⟨#[]⟩, fl0, by rw [unhide HX]; rfl, flv_zeroP _ _, (fun f r hf => by rw [unhide HX] at hf; cases hf), Below.one _ _⟩
  | succ m IH =>
    intro s w hL hk hs
    have HR := heap_new w (.cells #[.int .i64 0, .string ⟨#[]⟩, .string ⟨#[]⟩, .string ⟨#[]⟩, .slice none 0 0, .string ⟨#[]⟩, .bool false, .bool false, .string ⟨#[]⟩, .bool false, .slice none 0 0] 27)
    have HB := Below.one w (.cells #[.int .i64 0, .string ⟨#[]⟩, .string ⟨#[]⟩, .string ⟨#[]⟩, .slice none 0 0, .string ⟨#[]⟩, .bool false, .bool false, .string ⟨#[]⟩, .bool false, .slice none 0 0] 27)
    by_cases hsh : s.size < 2
    · have HX : Hid (readN (m + 1) (nums s) = none) := readN_short _ (.inl (by rw [nums_length]; exact hsh))
      have z2 : (s.size : Int) < 2 := by omega
      clear hk hs hL hsh HR HB IH
      go_enter Tryz.func27, Tryz.ntmps27
      go_wp2
      refine bodyPost_ret (res_fil3 rfl _ _ w.heap.size (.int .i64 0) (.string ⟨#[]⟩) (.string ⟨#[]⟩) (.string ⟨#[]⟩) (.slice none 0 0) (.string ⟨#[]⟩) (.bool false) (.bool false) (.string ⟨#[]⟩) (.bool false) (.slice none 0 0) rfl (heap_new w _)) rfl ?_
      exact ⟨_, ⟨#[]⟩, fl0, by rw [unhide HX]; rfl, flv_zeroP _ _, (fun f r hf => by rw [unhide HX] at hf; cases hf), Below.one _ _⟩
    have z2 : ¬ (s.size : Int) < 2 := by omega
    have z00 : (0 : Int) < (s.size : Int) := by omega
    have z11 : (1 : Int) < (s.size : Int) := by omega
    have z12 : (1 : Int) ≤ (s.size : Int) := by omega
    have z22 : (2 : Int) ≤ (s.size : Int) := by omega
    have hs0 : 0 < s.size := by omega
    have hs1 : 1 < s.size := by omega
    obtain ⟨c, hc⟩ : ∃ c : Int, (s[0].toNat : Int) = c := ⟨_, rfl⟩
    have hat : (nums s).getD 0 0 = c := by rw [nums_at s 0 hs0]; exact hc
    obtain ⟨d, hd⟩ : ∃ d : Int, (s[1].toNat : Int) = d := ⟨_, rfl⟩
    have hdt : (nums s).getD 1 0 = d := by rw [nums_at s 1 hs1]; exact hd
    by_cases h40 : ¬ c = 40
    · have g40 : (c == 40) = false := by rw [beq_eq_false_iff_ne]; exact h40
      have HX : Hid (readN (m + 1) (nums s) = none) := readN_short _ (.inr (by rw [hat]; exact h40))
      clear hk hs hL hsh HR HB IH hat hdt h40
      go_enter Tryz.func27, Tryz.ntmps27
      go_wp2
      refine bodyPost_ret (res_fil3 rfl _ _ w.heap.size (.int .i64 0) (.string ⟨#[]⟩) (.string ⟨#[]⟩) (.string ⟨#[]⟩) (.slice none 0 0) (.string ⟨#[]⟩) (.bool false) (.bool false) (.string ⟨#[]⟩) (.bool false) (.slice none 0 0) rfl (heap_new w _)) rfl ?_
      exact ⟨_, ⟨#[]⟩, fl0, by rw [unhide HX]; rfl, flv_zeroP _ _, (fun f r hf => by rw [unhide HX] at hf; cases hf), Below.one _ _⟩
    replace h40 : c = 40 := Classical.not_not.1 h40
    have hcons : nums s = 40 :: nums (s.extract 1 s.size) := by
      rw [nums_drop]
      have h := drop_consI (nums s) 0 (by rw [nums_length]; exact hs0)
      rw [List.drop_zero, hat, h40] at h
      exact h
    have htl : (s.extract 1 s.size).size = s.size - 1 := by rw [ByteArray.size_extract]; omega
    have hdb := getD_nums s 1
    rw [hdt] at hdb
    have hd0 : (nums (s.extract 1 s.size)).getD 0 0 = d := by rw [nums_drop, getD_drop0]; exact hdt
    have hne : ¬ ((40 : Int) ≠ 40 ∨ nums (s.extract 1 s.size) = []) := by
      rintro (h | h)
      · exact h rfl
      · have := congrArg List.length h
        rw [nums_length, htl] at this
        simp at this
        omega
    have HI := hide (fun W => ixb_any ⟨#[38, 124, 33]⟩ d W)
    rw [show (⟨#[38, 124, 33]⟩ : ByteArray).data.toList = [38, 124, 33] from rfl, ix_bool d hdb.1 hdb.2] at HI
    subst h40
    by_cases hb : 0 ≤ boolK d
    · have hnb : ¬ boolK d < 0 := by omega
      have hX : readN (m + 1) (nums s) = (kidsN (readN m) (s.size - 1 + 1) [] (nums (s.extract 2 s.size))).map fun x => (kndF (boolK d) x.1, x.2) := by
        rw [hcons, readN]
        rw [if_neg hne, hd0, if_pos hb, nums_length, htl]
        congr 2
        rw [nums_drop, nums_drop, List.drop_drop]
      have CK := hide (rkids_land m IH (s.extract 2 s.size) (s.size - 1 + 1) (w.alloc (.cells #[.int .i64 0, .string ⟨#[]⟩, .string ⟨#[]⟩, .string ⟨#[]⟩, .slice none 0 0, .string ⟨#[]⟩, .bool false, .bool false, .string ⟨#[]⟩, .bool false, .slice none 0 0] 27)) (hL.keep HB) (by rw [ByteArray.size_extract]; omega) (by rw [ByteArray.size_extract]; omega) (by rw [ByteArray.size_extract]; omega))
      cases hkd : kidsN (readN m) (s.size - 1 + 1) [] (nums (s.extract 2 s.size)) with
      | none =>
        rw [hkd] at hX CK
        have HX : Hid (readN (m + 1) (nums s) = none) := hX
        clear hk hs hL hsh IH hat hdt hcons htl hdb hd0 hne hkd hX
        generalize boolK d = kd at *
        go_enter Tryz.func27, Tryz.ntmps27
        go_upto_region 7 with (first
          | (go_at_call 44; refine (unhide CK).mono ?_; rintro e w3 ⟨v3, rs, rfl, rfl, b3⟩; have HR3 := keep_blk HR b3; have t3 := HB.trans (b3.mono HB.size))
          | (go_at_call 42; refine (unhide HI _).mono ?_; rintro e w2 ⟨rfl, rfl⟩))
        obtain ⟨m0, m1, m2, m3, m4, m5, m6, m7, m8, m9, m10⟩ := cells11 HR3
        have frR := froz11 HR3
        clear HR CK HI b3
        go_wp2
        refine bodyPost_ret (res_fil3 rfl _ _ w.heap.size (.int .i64 kd) (.string ⟨#[]⟩) (.string ⟨#[]⟩) (.string ⟨#[]⟩) (.slice none 0 0) (.string ⟨#[]⟩) (.bool false) (.bool false) (.string ⟨#[]⟩) (.bool false) (.slice none 0 0) rfl (by
          refine put11h (a0 := (.int .i64 0)) (a1 := (.string ⟨#[]⟩)) (a2 := (.string ⟨#[]⟩)) (a3 := (.string ⟨#[]⟩)) (a4 := (.slice none 0 0)) (a5 := (.string ⟨#[]⟩)) (a6 := (.bool false)) (a7 := (.bool false)) (a8 := (.string ⟨#[]⟩)) (a9 := (.bool false)) (a10 := (.slice none 0 0)) ?_
          with_reducible exact HR3)) rfl ?_
        refine ⟨_, rs, kndF kd [], by rw [unhide HX]; rfl, (Ko.nil w.heap.size _).flvp (by simp) kd, (fun f r hf => by rw [unhide HX] at hf; cases hf), ?_⟩
        repeat (first | with_reducible exact t3 | refine Below.setCell ?_ (by first | omega | (dsimp only; omega)) _)
      | some y =>
        obtain ⟨l, r⟩ := y
        rw [hkd] at hX CK
        have HX : Hid (readN (m + 1) (nums s) = some (kndF (boolK d) l, r)) := hX
        clear hk hs hL hsh IH hat hdt hcons htl hdb hd0 hne hkd hX
        generalize boolK d = kd at *
        go_enter Tryz.func27, Tryz.ntmps27
        go_upto_region 7 with (first
          | (go_at_call 44; refine (unhide CK).mono ?_; rintro e w3 ⟨v3, rs, rfl, hko, hrs, hll, b3⟩; dsimp only at hko hrs hll; obtain ⟨ka, kc, rfl⟩ := hko.shape; have HR3 := keep_blk HR b3; have t3 := HB.trans (b3.mono HB.size); have HK := hide (hko.flvp (by omega) kd); have HRS := hide hrs; clear hko hrs hll)
          | (go_at_call 42; refine (unhide HI _).mono ?_; rintro e w2 ⟨rfl, rfl⟩))
        obtain ⟨m0, m1, m2, m3, m4, m5, m6, m7, m8, m9, m10⟩ := cells11 HR3
        have frR := froz11 HR3
        have HBS : Hid ((w.alloc (.cells #[.int .i64 0, .string ⟨#[]⟩, .string ⟨#[]⟩, .string ⟨#[]⟩, .slice none 0 0, .string ⟨#[]⟩, .bool false, .bool false, .string ⟨#[]⟩, .bool false, .slice none 0 0] 27)).heap.size = w.heap.size + 1) := World.size_alloc w (.cells #[.int .i64 0, .string ⟨#[]⟩, .string ⟨#[]⟩, .string ⟨#[]⟩, .slice none 0 0, .string ⟨#[]⟩, .bool false, .bool false, .string ⟨#[]⟩, .bool false, .slice none 0 0] 27)
        clear HR CK HI b3
        go_wp2
        refine bodyPost_ret (res_fil3 rfl _ _ w.heap.size (.int .i64 kd) (.string ⟨#[]⟩) (.string ⟨#[]⟩) (.string ⟨#[]⟩) (.slice none 0 0) (.string ⟨#[]⟩) (.bool false) (.bool false) (.string ⟨#[]⟩) (.bool false) (.slice ka l.length kc) rfl (by
          refine put11h (a0 := (.int .i64 0)) (a1 := (.string ⟨#[]⟩)) (a2 := (.string ⟨#[]⟩)) (a3 := (.string ⟨#[]⟩)) (a4 := (.slice none 0 0)) (a5 := (.string ⟨#[]⟩)) (a6 := (.bool false)) (a7 := (.bool false)) (a8 := (.string ⟨#[]⟩)) (a9 := (.bool false)) (a10 := (.slice none 0 0)) ?_
          with_reducible exact HR3)) rfl ?_
        refine ⟨_, rs, kndF kd l, by rw [unhide HX]; rfl, (unhide HK).mono (fun b hb => ⟨by have z := unhide HBS; have := hb.1; omega, by have := hb.2; simpa [World.setCell] using this⟩) (fun b hb => by
          have hne : b ≠ w.heap.size := by have z := unhide HBS; have := hb.1; omega
          repeat (first | with_reducible rfl | refine (Below.heap_setCell _ _ _ _ hne).trans ?_)), (fun f r' hf => by rw [unhide HX] at hf; cases hf; exact ⟨rfl, unhide HRS⟩), ?_⟩
        repeat (first | with_reducible exact t3 | refine Below.setCell ?_ (by first | omega | (dsimp only; omega)) _)
    · have hnb : boolK d < 0 := by omega
      have hX : readN (m + 1) (nums s) = rItm (s.size - 1 + 1) (nums (s.extract 1 s.size)) := by
        rw [hcons, readN]
        rw [if_neg hne, hd0, if_neg hb, nums_length, htl]
      have CT := hide (ritem_land (s.extract 1 s.size) (s.size - 1 + 1) (w.alloc (.cells #[.int .i64 0, .string ⟨#[]⟩, .string ⟨#[]⟩, .string ⟨#[]⟩, .slice none 0 0, .string ⟨#[]⟩, .bool false, .bool false, .string ⟨#[]⟩, .bool false, .slice none 0 0] 27)) (hL.keep HB) (by omega) (by omega) (by omega))
      rw [← hX] at CT
      clear hk hs hL hsh IH hat hdt hcons htl hdb hd0 hne hX hb
      generalize boolK d = kd at *
      generalize readN (m + 1) (nums s) = o at *
      go_enter Tryz.func27, Tryz.ntmps27
      go_upto_region 5 with (go_at_call 42; refine (unhide HI _).mono ?_; rintro e w2 ⟨rfl, rfl⟩)
      have HBS : Hid ((w.alloc (.cells #[.int .i64 0, .string ⟨#[]⟩, .string ⟨#[]⟩, .string ⟨#[]⟩, .slice none 0 0, .string ⟨#[]⟩, .bool false, .bool false, .string ⟨#[]⟩, .bool false, .slice none 0 0] 27)).heap.size = w.heap.size + 1) := World.size_alloc w (.cells #[.int .i64 0, .string ⟨#[]⟩, .string ⟨#[]⟩, .string ⟨#[]⟩, .slice none 0 0, .string ⟨#[]⟩, .bool false, .bool false, .string ⟨#[]⟩, .bool false, .slice none 0 0] 27)
      clear HI
      go_wp2_with (go_at_call 43; refine (unhide CT).mono ?_; rintro e w3 ⟨x, rs, e4, rfl, hx, hfe, b3⟩; obtain ⟨x1, y1, x2, y2, rfl, -⟩ := hx.flv.open; have HR3 := keep_blk HR b3; have t3 := HB.trans (b3.mono HB.size); have HXX := hide hx; have HFE := hide hfe; clear hx hfe; obtain ⟨m0, m1, m2, m3, m4, m5, m6, m7, m8, m9, m10⟩ := cells11 HR3; have frR := froz11 HR3)
      refine bodyPost_ret (res_fil3 rfl _ _ w.heap.size (.int .i64 e4.kin) (.string e4.nam) (.string e4.val) (.string e4.ini) (.slice x1 e4.any.length y1) (.string e4.fin) (.bool e4.hi) (.bool e4.hf) (.string e4.rul) (.bool e4.dn) (.slice x2 e4.kids.length y2) rfl (by
        refine put11h (a0 := (.int .i64 0)) (a1 := (.string ⟨#[]⟩)) (a2 := (.string ⟨#[]⟩)) (a3 := (.string ⟨#[]⟩)) (a4 := (.slice none 0 0)) (a5 := (.string ⟨#[]⟩)) (a6 := (.bool false)) (a7 := (.bool false)) (a8 := (.string ⟨#[]⟩)) (a9 := (.bool false)) (a10 := (.slice none 0 0)) ?_
        with_reducible exact HR3)) rfl ?_
      refine ⟨_, rs, e4, rfl, (unhide HXX).mono (fun b hb => ⟨by have z := unhide HBS; have := hb.1; omega, by have := hb.2; simpa [World.setCell] using this⟩) (fun b hb => by
        have hne : b ≠ w.heap.size := by have z := unhide HBS; have := hb.1; omega
        repeat (first | with_reducible rfl | refine (Below.heap_setCell _ _ _ _ hne).trans ?_)), unhide HFE, ?_⟩
      repeat (first | with_reducible exact t3 | refine Below.setCell ?_ (by first | omega | (dsimp only; omega)) _)
end Go.Proofs.YthbldkkjjjmegaaGreatDoor
/- The landed Check, Parse of layer 24. (By gen_ck.py.) -/
namespace Go.Proofs.YthbldkkjjjmegaaGreatDoor
set_option maxRecDepth 100000
open Go.RowKit

set_option maxHeartbeats 3200000 in
theorem fcheck_any (e : Fl) (x : Value) (w : World) (hV : FlV w e x) (hS : smF e) : Calls Tryz.prog 9 #[x] w fun y w' => y = .returned (.int .i64 (chkF e)) ∧ Gr w w' := by
  obtain ⟨a1, c1, a2, c2, hv, _⟩ := hV.open
  have H2 := hide fun (w2 : World) (g : Gr w w2) => fCount_any e x w2 (hV.grow g.below)
  have H3 := hide fun (w2 : World) (g : Gr w w2) => fits_any e x w2 (hV.grow g.below) hS
  have g0 := Gr.one w (.cells (cFl e.kin e.nam e.val e.ini a1 e.any.length c1 e.fin e.hi e.hf e.rul e.dn a2 e.kids.length c2) 27)
  clear hV hS
  subst hv
  by_cases h1 : 60 < countF e
  · have zc : (60 : Int) < (countF e : Int) := by omega
    have HE : Hid (chkF e = 240) := by show _ = _; unfold chkF; rw [if_pos (.inr (.inl h1))]
    clear H3 h1
    generalize countF e = n at *
    go_enter Tryz.func9, Tryz.ntmps9
    go_wp2_with (go_at_call 13; refine (unhide H2 _ g0).mono ?_; rintro e w2 ⟨rfl, g2⟩)
    go_ret
    exact ⟨by rw [unhide HE]; rfl, g0.trans g2⟩
  · have zc : ¬ (60 : Int) < (countF e : Int) := by omega
    have hd : ¬ 8 < deepF e 9 := fun h => h1 (by unfold countF; rw [if_pos h]; decide)
    cases ha : allF e
    · have HE : Hid (chkF e = 240) := by show _ = _; unfold chkF; rw [if_pos (.inr (.inr ha))]
      rw [ha] at H3
      clear h1 hd ha
      generalize countF e = n at *
      go_enter Tryz.func9, Tryz.ntmps9
      go_wp2_with (first
        | (go_at_call 21; refine (unhide H3 _ (g0.trans g2)).mono ?_; rintro e w3 ⟨rfl, g3⟩)
        | (go_at_call 13; refine (unhide H2 _ g0).mono ?_; rintro e w2 ⟨rfl, g2⟩; obtain ⟨m0, m1, m2, m3, m4, m5, m6, m7, m8, m9, m10⟩ := box11 g2))
      go_ret
      exact ⟨by rw [unhide HE]; rfl, (g0.trans g2).trans g3⟩
    · have HE : Hid (chkF e = 0) := by
        show _ = _
        unfold chkF
        rw [if_neg]
        rintro (h | h | h)
        · exact hd h
        · exact h1 h
        · rw [ha] at h; cases h
      rw [ha] at H3
      clear h1 hd ha
      generalize countF e = n at *
      go_enter Tryz.func9, Tryz.ntmps9
      go_wp2_with (first
        | (go_at_call 21; refine (unhide H3 _ (g0.trans g2)).mono ?_; rintro e w3 ⟨rfl, g3⟩)
        | (go_at_call 13; refine (unhide H2 _ g0).mono ?_; rintro e w2 ⟨rfl, g2⟩; obtain ⟨m0, m1, m2, m3, m4, m5, m6, m7, m8, m9, m10⟩ := box11 g2))
      go_ret
      exact ⟨by rw [unhide HE]; rfl, (g0.trans g2).trans g3⟩
/-! What is read has short rows. -/
theorem sm_itm (k : Int) (n v r : List Int) (d : Bool) : smF (itmF k n v r d) := by unfold itmF; simp [smF, smF.L]
theorem itm_sm {h : List Int} {k : Int} {vs : List (List Int)} {f : Fl} (hl : vs.length ≤ 1000000) (hi : itmL h k vs = some f) : smF f := by
  unfold itmL at hi
  split at hi
  · split at hi
    · cases hi
    · split at hi
      · cases hi; exact sm_itm _ _ _ _ _
      · cases hi
  · split at hi
    · cases hi; exact sm_itm _ _ _ _ _
    · split at hi
      · unfold starL at hi
        split at hi
        · cases hi; simp [smF, smF.L]
        · cases vs with
          | nil => cases hi
          | cons v ws =>
            cases hi
            unfold subF
            simp only [smF, smF.L, and_true]
            unfold midS
            rw [List.length_map, List.length_dropLast]
            rw [List.length_cons] at hl
            omega
      · cases hi
theorem rItm_sm {n : Nat} {s r : List Int} {f : Fl} (hn : n ≤ 1000000) (h : rItm n s = some (f, r)) : smF f := by
  unfold rItm at h
  cases hc : cutL 61 s with
  | none => rw [hc] at h; cases h
  | some p =>
    obtain ⟨g, t⟩ := p
    rw [hc] at h
    dsimp only at h
    cases hv : valsV n t with
    | none => rw [hv] at h; cases h
    | some q =>
      obtain ⟨vs, r'⟩ := q
      rw [hv] at h
      dsimp only at h
      cases hi : itmL (hdL g) (kdL g) vs with
      | none => rw [hi] at h; cases h
      | some f' =>
        rw [hi] at h
        cases h
        exact itm_sm (by have := (vals_len _ _ _ _ hv).2; omega) hi
theorem smL_app : ∀ (a b : List Fl), smF.L a → smF.L b → smF.L (a ++ b)
  | [], b, _, h => h
  | e :: t, b, h1, h2 => by
    simp only [smF.L] at h1
    simp only [List.cons_append, smF.L]
    exact ⟨h1.1, smL_app t b h1.2 h2⟩
theorem kids_sm (rd : List Int → Option (Fl × List Int)) (hrd : ∀ s f r, byt s → s.length ≤ 4000 → rd s = some (f, r) → smF f ∧ r.length < s.length ∧ byt r) :
    ∀ (n : Nat) (acc : List Fl) (s : List Int) (l : List Fl) (r : List Int), byt s → s.length ≤ 4000 → smF.L acc → kidsN rd n acc s = some (l, r) → smF.L l
  | 0, acc, s, l, r, _, _, _, h => by rw [kidsN] at h; cases h
  | n + 1, acc, s, l, r, hb, hl, ha, h => by
    rw [kidsN.eq_def] at h
    dsimp only at h
    cases s with
    | nil => cases h
    | cons c t =>
      dsimp only at h
      by_cases hc : c = 41
      · rw [if_pos hc] at h; cases h; exact ha
      · rw [if_neg hc] at h
        cases hr : rd (c :: t) with
        | none => rw [hr] at h; cases h
        | some x =>
          obtain ⟨f, r2⟩ := x
          rw [hr] at h
          dsimp only at h
          obtain ⟨h1, h2, h3⟩ := hrd _ _ _ hb hl hr
          exact kids_sm rd hrd n (acc ++ [f]) r2 l r h3 (by omega) (smL_app _ _ ha (by simp only [smF.L]; exact ⟨h1, trivial⟩)) h
theorem read_sm : ∀ (k : Nat) (s : List Int) (f : Fl) (r : List Int), byt s → s.length ≤ 4000 → readN k s = some (f, r) → smF f
  | 0, s, f, r, _, _, h => by rw [readN] at h; cases h
  | m + 1, s, f, r, hb, hl, h => by
    rw [readN.eq_def] at h
    dsimp only at h
    cases s with
    | nil => cases h
    | cons c t =>
      dsimp only at h
      rw [List.length_cons] at hl
      have hbt : byt t := fun x hx => hb x (by simp [hx])
      split at h
      · cases h
      · split at h
        · cases hk : kidsN (readN m) (t.length + 1) [] (t.drop 1) with
          | none => rw [hk] at h; cases h
          | some x =>
            rw [hk] at h
            cases h
            unfold kndF
            simp only [smF, List.length_nil, Nat.zero_le, true_and]
            exact kids_sm (readN m) (fun s f r h1 h2 h3 => ⟨read_sm m s f r h1 h2 h3, (read_doc m s f r h1 h3).1, (read_doc m s f r h1 h3).2.1⟩) _ _ _ _ _ (fun x hx => hbt x (List.mem_of_mem_drop hx)) (by rw [List.length_drop]; omega) (by simp only [smF.L]) hk
        · exact rItm_sm (by omega) h
set_option maxRecDepth 4000 in
set_option maxHeartbeats 12800000 in
theorem parse_land (s : ByteArray) (w : World) (hL : Ly w) : Calls Tryz.prog 15 #[.string s] w fun y w' => ∃ x, y = .returned (.tuple #[x, .int .i64 (parE24 s)]) ∧ FlV w' (parF s) x ∧ Below w.heap.size w w' := by
  have HR := heap_new w (.cells #[.int .i64 0, .string ⟨#[]⟩, .string ⟨#[]⟩, .string ⟨#[]⟩, .slice none 0 0, .string ⟨#[]⟩, .bool false, .bool false, .string ⟨#[]⟩, .bool false, .slice none 0 0] 27)
  have HB := Below.one w (.cells #[.int .i64 0, .string ⟨#[]⟩, .string ⟨#[]⟩, .string ⟨#[]⟩, .slice none 0 0, .string ⟨#[]⟩, .bool false, .bool false, .string ⟨#[]⟩, .bool false, .slice none 0 0] 27)
  by_cases hb : 4000 < s.size
  · have zb : (4000 : Int) < (s.size : Int) := by omega
    have HE : Hid (parE24 s = 3) := by show _ = _; unfold parE24; rw [if_pos hb]
    have HF : Hid (parF s = fl0) := by show _ = _; unfold parF; rw [if_pos hb]
    clear hL hb HR HB
    go_enter Tryz.func15, Tryz.ntmps15
    go_wp2
    refine bodyPost_ret (res_fil2 rfl _ _ w.heap.size (.int .i64 0) (.string ⟨#[]⟩) (.string ⟨#[]⟩) (.string ⟨#[]⟩) (.slice none 0 0) (.string ⟨#[]⟩) (.bool false) (.bool false) (.string ⟨#[]⟩) (.bool false) (.slice none 0 0) rfl (heap_new w _)) rfl ?_
    exact ⟨_, by rw [unhide HE]; rfl, by rw [unhide HF]; exact (flv_zeroP (fun _ => True) _).flv, Below.one _ _⟩
  have zb : ¬ (4000 : Int) < (s.size : Int) := by omega
  have hpl := par_land (nums s) (nums_bound s) s.size (by rw [nums_length]; exact Nat.le_refl _)
  have CR := hide (rfilter_land s.size s (w.alloc (.cells #[.int .i64 0, .string ⟨#[]⟩, .string ⟨#[]⟩, .string ⟨#[]⟩, .slice none 0 0, .string ⟨#[]⟩, .bool false, .bool false, .string ⟨#[]⟩, .bool false, .slice none 0 0] 27)) (hL.keep HB) (Nat.le_refl _) (by omega))
  have hpE : parE24 s = if (parO (nums s)).isSome = true then 0 else 240 := by unfold parE24; rw [if_neg hb]
  have hpF : parF s = (parO (nums s)).getD fl0 := by unfold parF; rw [if_neg hb]
  cases hr : readN s.size (nums s) with
  | none =>
    rw [hr] at hpl CR
    have HE : Hid (parE24 s = 240) := by show _ = _; rw [hpE, hpl]; rfl
    have HF : Hid (parF s = fl0) := by show _ = _; rw [hpF, hpl]; rfl
    clear hL hb hr hpl hpE hpF
    go_enter Tryz.func15, Tryz.ntmps15
    go_upto_region 4 with (go_at_call 27; refine (unhide CR).mono ?_; rintro e w3 ⟨x, rs, e4, rfl, hx, -, b3⟩; obtain ⟨x1, y1, x2, y2, rfl, -⟩ := hx.flv.open; have HR3 := keep_blk HR b3; have t3 := HB.trans (b3.mono HB.size))
    have HR4 := keep_blk HR3 (Below.one w3 (.cells (cFl e4.kin e4.nam e4.val e4.ini x1 e4.any.length y1 e4.fin e4.hi e4.hf e4.rul e4.dn x2 e4.kids.length y2) 27))
    have t4 := t3.trans ((Below.one w3 (.cells (cFl e4.kin e4.nam e4.val e4.ini x1 e4.any.length y1 e4.fin e4.hi e4.hf e4.rul e4.dn x2 e4.kids.length y2) 27)).mono t3.size)
    have hne1 : ¬ w.heap.size = w3.heap.size := by have := blk_lt24 HR3; omega
    clear HR3 HR CR t3 b3 hx HB
    generalize w3.alloc (.cells (cFl e4.kin e4.nam e4.val e4.ini x1 e4.any.length y1 e4.fin e4.hi e4.hf e4.rul e4.dn x2 e4.kids.length y2) 27) = w4 at *
    obtain ⟨m0, m1, m2, m3, m4, m5, m6, m7, m8, m9, m10⟩ := cells11 HR4
    have frR := froz11 HR4
    go_wp2
    refine bodyPost_ret (res_fil2 rfl _ _ w.heap.size (.int .i64 0) (.string ⟨#[]⟩) (.string ⟨#[]⟩) (.string ⟨#[]⟩) (.slice none 0 0) (.string ⟨#[]⟩) (.bool false) (.bool false) (.string ⟨#[]⟩) (.bool false) (.slice none 0 0) rfl (by
      refine put11h (a0 := (.int .i64 0)) (a1 := (.string ⟨#[]⟩)) (a2 := (.string ⟨#[]⟩)) (a3 := (.string ⟨#[]⟩)) (a4 := (.slice none 0 0)) (a5 := (.string ⟨#[]⟩)) (a6 := (.bool false)) (a7 := (.bool false)) (a8 := (.string ⟨#[]⟩)) (a9 := (.bool false)) (a10 := (.slice none 0 0)) ?_
      with_reducible exact HR4)) rfl ?_
    refine ⟨_, by rw [unhide HE]; rfl, by rw [unhide HF]; exact (flv_zeroP (fun _ => True) _).flv, ?_⟩
    repeat (first | with_reducible exact t4 | refine Below.setCell ?_ (by first | omega | (dsimp only; omega)) _)
  | some y =>
    obtain ⟨f, r⟩ := y
    rw [hr] at hpl CR
    dsimp only at hpl
    have hsm : smF f := read_sm s.size (nums s) f r (nums_bound s) (by rw [nums_length]; omega) hr
    have CK := hide (fun (x : Value) (W : World) (hx : FlV W f x) => fcheck_any f x W hx hsm)
    by_cases hr0 : r = []
    · by_cases hk : chkF f = 0
      · rw [if_pos ⟨hr0, hk⟩] at hpl
        have HE : Hid (parE24 s = 0) := by show _ = _; rw [hpE, hpl]; rfl
        have HF : Hid (parF s = f) := by show _ = _; rw [hpF, hpl]; rfl
        rw [hk] at CK
        have HR0 := hide hr0
        clear hL hb hr hpl hpE hpF hk hsm hr0
        go_enter Tryz.func15, Tryz.ntmps15
        go_upto_region 4 with (go_at_call 27; refine (unhide CR).mono ?_; rintro e w3 ⟨x, rs, e4, rfl, hx, hfr, b3⟩; obtain ⟨x1, y1, x2, y2, rfl, -⟩ := hx.flv.open; have HR3 := keep_blk HR b3; have t3 := HB.trans (b3.mono HB.size))
        have hem : rs.toList.isEmpty = true := by
          have h2 := (hfr _ _ rfl).2
          rw [unhide HR0] at h2
          rw [emp_sz, decide_eq_true]
          rw [← nums_length, h2]; rfl
        have HFE := hide (hfr _ _ rfl).1
        have HR4 := keep_blk HR3 (Below.one w3 (.cells (cFl e4.kin e4.nam e4.val e4.ini x1 e4.any.length y1 e4.fin e4.hi e4.hf e4.rul e4.dn x2 e4.kids.length y2) 27))
        have HB4 := heap_new w3 (.cells (cFl e4.kin e4.nam e4.val e4.ini x1 e4.any.length y1 e4.fin e4.hi e4.hf e4.rul e4.dn x2 e4.kids.length y2) 27)
        have t4 := t3.trans ((Below.one w3 (.cells (cFl e4.kin e4.nam e4.val e4.ini x1 e4.any.length y1 e4.fin e4.hi e4.hf e4.rul e4.dn x2 e4.kids.length y2) 27)).mono t3.size)
        have hne1 : ¬ w.heap.size = w3.heap.size := by have := blk_lt24 HR3; omega
        have HXP : Hid (FlVP (fun b => w.heap.size < b ∧ b < w3.heap.size) (w3.alloc (.cells (cFl e4.kin e4.nam e4.val e4.ini x1 e4.any.length y1 e4.fin e4.hi e4.hf e4.rul e4.dn x2 e4.kids.length y2) 27)) e4 (.agg #[.int .i64 e4.kin, .string e4.nam, .string e4.val, .string e4.ini, .slice x1 e4.any.length y1, .string e4.fin, .bool e4.hi, .bool e4.hf, .string e4.rul, .bool e4.dn, .slice x2 e4.kids.length y2])) := hx.mono (fun b hb => ⟨by have z := World.size_alloc w (.cells #[.int .i64 0, .string ⟨#[]⟩, .string ⟨#[]⟩, .string ⟨#[]⟩, .slice none 0 0, .string ⟨#[]⟩, .bool false, .bool false, .string ⟨#[]⟩, .bool false, .slice none 0 0] 27); have := hb.1; omega, hb.2⟩) (fun b hb => (Below.one w3 (.cells (cFl e4.kin e4.nam e4.val e4.ini x1 e4.any.length y1 e4.fin e4.hi e4.hf e4.rul e4.dn x2 e4.kids.length y2) 27)).block b hb.2)
        have HSZ : Hid (w3.heap.size < (w3.alloc (.cells (cFl e4.kin e4.nam e4.val e4.ini x1 e4.any.length y1 e4.fin e4.hi e4.hf e4.rul e4.dn x2 e4.kids.length y2) 27)).heap.size) := by show _ < _; rw [World.size_alloc]; omega
        clear HR3 HR CR t3 b3 hx HB hfr
        generalize w3.alloc (.cells (cFl e4.kin e4.nam e4.val e4.ini x1 e4.any.length y1 e4.fin e4.hi e4.hf e4.rul e4.dn x2 e4.kids.length y2) 27) = w4 at *
        have hV4 := (unhide HXP).flv
        have CK4 := hide (unhide CK _ w4 (by rw [unhide HFE]; exact hV4))
        obtain ⟨k0, k1, k2, k3, k4, k5, k6, k7, k8, k9, k10⟩ := cells11 HB4
        clear CK hV4
        go_upto_region 6 with (go_at_call 9; refine (unhide CK4).mono ?_; rintro e w5 ⟨rfl, g5⟩)
        have b5 := g5.below
        have HR5 := keep_blk HR4 b5
        have HB5 := keep_blk HB4 b5
        have t5 := t4.trans (b5.mono t4.size)
        replace HXP : Hid (FlVP (fun b => w.heap.size < b ∧ b < w3.heap.size) w5 e4 (.agg #[.int .i64 e4.kin, .string e4.nam, .string e4.val, .string e4.ini, .slice x1 e4.any.length y1, .string e4.fin, .bool e4.hi, .bool e4.hf, .string e4.rul, .bool e4.dn, .slice x2 e4.kids.length y2])) := (unhide HXP).mono (fun b hb => hb) (fun b hb => b5.block b (by have z := unhide HSZ; have := hb.2; omega))
        clear HR4 HB4 t4 b5 g5
        obtain ⟨m0, m1, m2, m3, m4, m5, m6, m7, m8, m9, m10⟩ := cells11 HR5
        obtain ⟨q0, q1, q2, q3, q4, q5, q6, q7, q8, q9, q10⟩ := cells11 HB5
        have frR := froz11 HR5
        go_wp2
        refine bodyPost_ret (res_fil2 rfl _ _ w.heap.size (.int .i64 e4.kin) (.string e4.nam) (.string e4.val) (.string e4.ini) (.slice x1 e4.any.length y1) (.string e4.fin) (.bool e4.hi) (.bool e4.hf) (.string e4.rul) (.bool e4.dn) (.slice x2 e4.kids.length y2) rfl (by
          refine put11h (a0 := (.int .i64 0)) (a1 := (.string ⟨#[]⟩)) (a2 := (.string ⟨#[]⟩)) (a3 := (.string ⟨#[]⟩)) (a4 := (.slice none 0 0)) (a5 := (.string ⟨#[]⟩)) (a6 := (.bool false)) (a7 := (.bool false)) (a8 := (.string ⟨#[]⟩)) (a9 := (.bool false)) (a10 := (.slice none 0 0)) ?_
          with_reducible exact HR5)) rfl ?_
        refine ⟨_, by rw [unhide HE]; rfl, by rw [unhide HF, unhide HFE]; exact ((unhide HXP).mono (fun b hb => hb) (fun b hb => by
          have hne : b ≠ w.heap.size := by have := hb.1; omega
          repeat (first | with_reducible rfl | refine (Below.heap_setCell _ _ _ _ hne).trans ?_))).flv, ?_⟩
        repeat (first | with_reducible exact t5 | refine Below.setCell ?_ (by first | omega | (dsimp only; omega)) _)
      · rw [if_neg (fun h => hk h.2)] at hpl
        have HE : Hid (parE24 s = 240) := by show _ = _; rw [hpE, hpl]; rfl
        have HF : Hid (parF s = fl0) := by show _ = _; rw [hpF, hpl]; rfl
        have zk : (chkF f == 0) = false := by rw [beq_eq_false_iff_ne]; exact hk
        have zk2 : (chkF f != 0) = true := by simp [bne, zk]
        have HR0 := hide hr0
        clear hL hb hr hpl hpE hpF hk hsm hr0
        generalize chkF f = ck at *
        go_enter Tryz.func15, Tryz.ntmps15
        go_upto_region 4 with (go_at_call 27; refine (unhide CR).mono ?_; rintro e w3 ⟨x, rs, e4, rfl, hx, hfr, b3⟩; obtain ⟨x1, y1, x2, y2, rfl, -⟩ := hx.flv.open; have HR3 := keep_blk HR b3; have t3 := HB.trans (b3.mono HB.size))
        have hem : rs.toList.isEmpty = true := by
          have h2 := (hfr _ _ rfl).2
          rw [unhide HR0] at h2
          rw [emp_sz, decide_eq_true]
          rw [← nums_length, h2]; rfl
        have HFE := hide (hfr _ _ rfl).1
        have HR4 := keep_blk HR3 (Below.one w3 (.cells (cFl e4.kin e4.nam e4.val e4.ini x1 e4.any.length y1 e4.fin e4.hi e4.hf e4.rul e4.dn x2 e4.kids.length y2) 27))
        have HB4 := heap_new w3 (.cells (cFl e4.kin e4.nam e4.val e4.ini x1 e4.any.length y1 e4.fin e4.hi e4.hf e4.rul e4.dn x2 e4.kids.length y2) 27)
        have t4 := t3.trans ((Below.one w3 (.cells (cFl e4.kin e4.nam e4.val e4.ini x1 e4.any.length y1 e4.fin e4.hi e4.hf e4.rul e4.dn x2 e4.kids.length y2) 27)).mono t3.size)
        have hne1 : ¬ w.heap.size = w3.heap.size := by have := blk_lt24 HR3; omega
        have HXP : Hid (FlVP (fun b => w.heap.size < b ∧ b < w3.heap.size) (w3.alloc (.cells (cFl e4.kin e4.nam e4.val e4.ini x1 e4.any.length y1 e4.fin e4.hi e4.hf e4.rul e4.dn x2 e4.kids.length y2) 27)) e4 (.agg #[.int .i64 e4.kin, .string e4.nam, .string e4.val, .string e4.ini, .slice x1 e4.any.length y1, .string e4.fin, .bool e4.hi, .bool e4.hf, .string e4.rul, .bool e4.dn, .slice x2 e4.kids.length y2])) := hx.mono (fun b hb => ⟨by have z := World.size_alloc w (.cells #[.int .i64 0, .string ⟨#[]⟩, .string ⟨#[]⟩, .string ⟨#[]⟩, .slice none 0 0, .string ⟨#[]⟩, .bool false, .bool false, .string ⟨#[]⟩, .bool false, .slice none 0 0] 27); have := hb.1; omega, hb.2⟩) (fun b hb => (Below.one w3 (.cells (cFl e4.kin e4.nam e4.val e4.ini x1 e4.any.length y1 e4.fin e4.hi e4.hf e4.rul e4.dn x2 e4.kids.length y2) 27)).block b hb.2)
        have HSZ : Hid (w3.heap.size < (w3.alloc (.cells (cFl e4.kin e4.nam e4.val e4.ini x1 e4.any.length y1 e4.fin e4.hi e4.hf e4.rul e4.dn x2 e4.kids.length y2) 27)).heap.size) := by show _ < _; rw [World.size_alloc]; omega
        clear HR3 HR CR t3 b3 hx HB hfr
        generalize w3.alloc (.cells (cFl e4.kin e4.nam e4.val e4.ini x1 e4.any.length y1 e4.fin e4.hi e4.hf e4.rul e4.dn x2 e4.kids.length y2) 27) = w4 at *
        have hV4 := (unhide HXP).flv
        have CK4 := hide (unhide CK _ w4 (by rw [unhide HFE]; exact hV4))
        obtain ⟨k0, k1, k2, k3, k4, k5, k6, k7, k8, k9, k10⟩ := cells11 HB4
        clear CK hV4
        go_upto_region 5 with (go_at_call 9; refine (unhide CK4).mono ?_; rintro e w5 ⟨rfl, g5⟩)
        have b5 := g5.below
        have HR5 := keep_blk HR4 b5
        have HB5 := keep_blk HB4 b5
        have t5 := t4.trans (b5.mono t4.size)
        replace HXP : Hid (FlVP (fun b => w.heap.size < b ∧ b < w3.heap.size) w5 e4 (.agg #[.int .i64 e4.kin, .string e4.nam, .string e4.val, .string e4.ini, .slice x1 e4.any.length y1, .string e4.fin, .bool e4.hi, .bool e4.hf, .string e4.rul, .bool e4.dn, .slice x2 e4.kids.length y2])) := (unhide HXP).mono (fun b hb => hb) (fun b hb => b5.block b (by have z := unhide HSZ; have := hb.2; omega))
        clear HR4 HB4 t4 b5 g5
        obtain ⟨m0, m1, m2, m3, m4, m5, m6, m7, m8, m9, m10⟩ := cells11 HR5
        obtain ⟨q0, q1, q2, q3, q4, q5, q6, q7, q8, q9, q10⟩ := cells11 HB5
        have frR := froz11 HR5
        go_wp2
        refine bodyPost_ret (res_fil2 rfl _ _ w.heap.size (.int .i64 0) (.string ⟨#[]⟩) (.string ⟨#[]⟩) (.string ⟨#[]⟩) (.slice none 0 0) (.string ⟨#[]⟩) (.bool false) (.bool false) (.string ⟨#[]⟩) (.bool false) (.slice none 0 0) rfl (by
          refine put11h (a0 := (.int .i64 0)) (a1 := (.string ⟨#[]⟩)) (a2 := (.string ⟨#[]⟩)) (a3 := (.string ⟨#[]⟩)) (a4 := (.slice none 0 0)) (a5 := (.string ⟨#[]⟩)) (a6 := (.bool false)) (a7 := (.bool false)) (a8 := (.string ⟨#[]⟩)) (a9 := (.bool false)) (a10 := (.slice none 0 0)) ?_
          with_reducible exact HR5)) rfl ?_
        refine ⟨_, by rw [unhide HE]; rfl, by rw [unhide HF]; exact (flv_zeroP (fun _ => True) _).flv, ?_⟩
        repeat (first | with_reducible exact t5 | refine Below.setCell ?_ (by first | omega | (dsimp only; omega)) _)
    · rw [if_neg (fun h => hr0 h.1)] at hpl
      have HE : Hid (parE24 s = 240) := by show _ = _; rw [hpE, hpl]; rfl
      have HF : Hid (parF s = fl0) := by show _ = _; rw [hpF, hpl]; rfl
      have HR0 := hide hr0
      clear hL hb hr hpl hpE hpF hsm hr0 CK
      go_enter Tryz.func15, Tryz.ntmps15
      go_upto_region 4 with (go_at_call 27; refine (unhide CR).mono ?_; rintro e w3 ⟨x, rs, e4, rfl, hx, hfr, b3⟩; obtain ⟨x1, y1, x2, y2, rfl, -⟩ := hx.flv.open; have HR3 := keep_blk HR b3; have t3 := HB.trans (b3.mono HB.size))
      have hem : rs.toList.isEmpty = false := by
        rw [emp_sz, decide_eq_false]
        intro hz
        have h2 := (hfr _ _ rfl).2
        exact unhide HR0 (by rw [← h2]; exact List.length_eq_zero_iff.1 (by rw [nums_length]; exact hz))
      have HR4 := keep_blk HR3 (Below.one w3 (.cells (cFl e4.kin e4.nam e4.val e4.ini x1 e4.any.length y1 e4.fin e4.hi e4.hf e4.rul e4.dn x2 e4.kids.length y2) 27))
      have t4 := t3.trans ((Below.one w3 (.cells (cFl e4.kin e4.nam e4.val e4.ini x1 e4.any.length y1 e4.fin e4.hi e4.hf e4.rul e4.dn x2 e4.kids.length y2) 27)).mono t3.size)
      have hne1 : ¬ w.heap.size = w3.heap.size := by have := blk_lt24 HR3; omega
      clear HR3 HR CR t3 b3 hx HB hfr
      generalize w3.alloc (.cells (cFl e4.kin e4.nam e4.val e4.ini x1 e4.any.length y1 e4.fin e4.hi e4.hf e4.rul e4.dn x2 e4.kids.length y2) 27) = w4 at *
      obtain ⟨m0, m1, m2, m3, m4, m5, m6, m7, m8, m9, m10⟩ := cells11 HR4
      have frR := froz11 HR4
      go_wp2
      refine bodyPost_ret (res_fil2 rfl _ _ w.heap.size (.int .i64 0) (.string ⟨#[]⟩) (.string ⟨#[]⟩) (.string ⟨#[]⟩) (.slice none 0 0) (.string ⟨#[]⟩) (.bool false) (.bool false) (.string ⟨#[]⟩) (.bool false) (.slice none 0 0) rfl (by
        refine put11h (a0 := (.int .i64 0)) (a1 := (.string ⟨#[]⟩)) (a2 := (.string ⟨#[]⟩)) (a3 := (.string ⟨#[]⟩)) (a4 := (.slice none 0 0)) (a5 := (.string ⟨#[]⟩)) (a6 := (.bool false)) (a7 := (.bool false)) (a8 := (.string ⟨#[]⟩)) (a9 := (.bool false)) (a10 := (.slice none 0 0)) ?_
        with_reducible exact HR4)) rfl ?_
      refine ⟨_, by rw [unhide HE]; rfl, by rw [unhide HF]; exact (flv_zeroP (fun _ => True) _).flv, ?_⟩
      repeat (first | with_reducible exact t4 | refine Below.setCell ?_ (by first | omega | (dsimp only; omega)) _)
end Go.Proofs.YthbldkkjjjmegaaGreatDoor
/- The landed appendFilter, Show of layer 24. (By gen_af.py.) -/
namespace Go.Proofs.YthbldkkjjjmegaaGreatDoor
set_option maxRecDepth 100000
open Go.RowKit

theorem sum_le (a : List ByteArray) (h : ∀ t ∈ a, t.size ≤ 400) : (a.map ByteArray.size).sum ≤ 400 * a.length := by
  induction a with
  | nil => simp
  | cons x t ih =>
    have := ih fun y hy => h y (by simp [hy])
    have := h x (by simp)
    rw [List.map_cons, List.sum_cons, List.length_cons]
    omega
/-- What may be, without kids, is told by its item. -/
theorem one_item {k : Int} {n v i : ByteArray} {a : List ByteArray} {f : ByteArray} {hi hf : Bool} {r : ByteArray} {d : Bool} {m : Nat} (h : oneF k n v i a f hi hf r d m = true) (h0 : ¬ k = 0) (h1 : ¬ k = 1) (h2 : ¬ k = 2) :
    m = 0 ∧ 3 ≤ k ∧ headF k n i a f r d ++ vTxt (nums v) = itemT k n v i a f r d ∧ n.size + r.size + 3 * v.size + 3 * (i.size + f.size) + 3 * (a.map ByteArray.size).sum + a.length + 10 ≤ 13000 := by
  have hz : ByteArray.empty.size = 0 := rfl
  have hEE : ByteArray.empty = ⟨#[]⟩ := rfl
  unfold oneF oneQ at h
  rw [if_neg (by omega), if_neg h2] at h
  by_cases hm : m ≠ 0 ∨ decide (400 < v.size) = true
  · rw [if_pos hm] at h; cases h
  rw [if_neg hm] at h
  have hm0 : m = 0 := Classical.not_not.1 fun x => hm (.inl x)
  have hv : v.size ≤ 400 := by
    have : ¬ decide (400 < v.size) = true := fun x => hm (.inr x)
    simpa using this
  have hh : headF k n i a f r d = nums n ++ (if k = 3 then [61] else if k = 5 then [62, 61] else if k = 6 then [60, 61] else if k = 8 then [126, 61] else if k = 7 then [61, 42] else if k = 4 then 61 :: starT i a f else extT r d) := by
    unfold headF
    rw [if_neg h0, if_neg h1, if_neg h2]
  rw [hh]
  unfold itemT
  by_cases h3 : k = 3 ∨ k = 5 ∨ k = 6 ∨ k = 8
  · rw [if_pos h3, Bool.and_eq_true] at h
    have hw := wrd_size h.2
    obtain ⟨-, -, hr, hp⟩ := bar_parts h.1
    obtain ⟨hr, hd⟩ := hr rfl
    obtain ⟨h4, h5, h6, -, -⟩ := hp rfl
    subst hr hd h4 h5 h6
    refine ⟨hm0, by omega, ?_, by simp only [hz, List.map_nil, List.sum_nil, List.length_nil]; omega⟩
    rcases h3 with rfl | rfl | rfl | rfl <;> simp [sgO, nums, hEE]
  rw [if_neg h3] at h
  rw [if_neg (by omega), if_neg (by omega), if_neg (by omega), if_neg (by omega)]
  by_cases h7 : k = 7
  · rw [if_pos h7, Bool.and_eq_true] at h
    have hw := wrd_size h.2
    obtain ⟨-, hv0, hr, hp⟩ := bar_parts h.1
    obtain ⟨hr, hd⟩ := hr rfl
    obtain ⟨h4, h5, h6, -, -⟩ := hp rfl
    have hv1 := hv0 rfl
    subst hr hd h4 h5 h6 hv1
    refine ⟨hm0, by omega, ?_, by simp only [hz, List.map_nil, List.sum_nil, List.length_nil]; omega⟩
    subst h7
    simp [sgO, nums, vTxt, hEE]
  rw [if_neg h7] at h
  rw [if_neg h7, if_neg h7]
  by_cases h4 : k = 4
  · rw [if_pos h4, Bool.and_eq_true, Bool.and_eq_true] at h
    have hw := wrd_size h.2.1
    have hp := h.2.2
    unfold finPc at hp
    simp only [Bool.and_eq_true, decide_eq_true_eq, List.all_eq_true] at hp
    obtain ⟨hp1, ⟨hp2, hp3⟩, hp4⟩ := hp
    have ha : a.length ≤ 6 := by
      unfold okPc at hp1
      simp only [Bool.and_eq_true, decide_eq_true_eq] at hp1
      exact hp1.1.1
    have hs := sum_le a hp4
    obtain ⟨-, hv0, hr, -⟩ := bar_parts h.1
    obtain ⟨hr, hd⟩ := hr rfl
    have hv1 := hv0 rfl
    subst hr hd hv1
    refine ⟨hm0, by omega, ?_, by simp only [hz]; omega⟩
    subst h4
    simp [sgO, nums, vTxt, hEE]
  rw [if_neg h4] at h
  rw [if_neg h4, if_neg h4]
  by_cases h9 : k = 9
  · rw [if_pos h9] at h
    rw [Bool.and_eq_true] at h
    obtain ⟨hbar, h⟩ := h
    simp only [Bool.and_eq_true, Bool.or_eq_true, Bool.not_eq_true', decide_eq_true_eq] at h
    obtain ⟨hn, hr, _⟩ := h
    obtain ⟨-, -, -, hp⟩ := bar_parts hbar
    obtain ⟨h4, h5, h6, -, -⟩ := hp rfl
    have hn2 : n.size ≤ 16 := by
      rcases hn with hn | hn
      · exact wrd_size hn
      · rw [hn]; decide
    have hr2 : r.size ≤ 16 := by
      rcases hr with hr | hr
      · exact wrd_size hr.1
      · rw [hr]; decide
    subst h4 h5 h6
    refine ⟨hm0, by omega, ?_, by simp only [hz, List.map_nil, List.sum_nil, List.length_nil]; omega⟩
    subst h9
    unfold extT
    simp [sgO, nums]
  · rw [if_neg h9] at h; cases h
theorem textL_app : ∀ (l m : List Fl), textF.L (l ++ m) = textF.L l ++ textF.L m
  | [], _ => by simp only [List.nil_append, textF.L]
  | e :: t, m => by
    rw [List.cons_append]
    simp only [textF.L]
    rw [textL_app t m, List.append_assoc]
theorem totL_app : ∀ (l m : List Fl), totF.L (l ++ m) = totF.L l + totF.L m
  | [], _ => by simp only [List.nil_append, totF.L]; omega
  | e :: t, m => by
    rw [List.cons_append]
    simp only [totF.L]
    rw [totL_app t m]
    omega
theorem takeF (l : List Fl) (j : Nat) (h : j < l.length) : l.take (j + 1) = l.take j ++ [l.getD j fl0] := by
  rw [List.take_succ_eq_append_getElem h]
  simp [List.getD, h]
theorem textL_le (l : List Fl) (h : allF.L l = true) : (textF.L l).length ≤ 12000 * totF.L l := by
  induction l with
  | nil => simp [textF.L, totF.L]
  | cons e t ih =>
    simp only [allF.L, Bool.and_eq_true] at h
    have h1 := ih h.2
    have h2 := text_len e h.1
    simp only [textF.L, totF.L, List.length_append]
    omega
theorem allL_take (l : List Fl) (h : allF.L l = true) (j : Nat) : allF.L (l.take j) = true := by
  induction l generalizing j with
  | nil => simp [allF.L]
  | cons e t ih =>
    cases j with
    | zero => simp only [List.take_zero, allF.L]
    | succ j =>
      simp only [allF.L, Bool.and_eq_true] at h
      rw [List.take_succ_cons]
      simp only [allF.L, Bool.and_eq_true]
      exact ⟨h.1, ih h.2 j⟩
theorem grp_item {k : Int} {n v i : ByteArray} {a : List ByteArray} {f : ByteArray} {hi hf : Bool} {r : ByteArray} {d : Bool} {m : Nat} (h : oneF k n v i a f hi hf r d m = true) (hk : k = 0 ∨ k = 1 ∨ k = 2) : v = ByteArray.empty := by
  have hb : barF n v i a f hi hf r d true true true true = true := by
    unfold oneF oneQ at h
    rcases hk with rfl | rfl | rfl
    · rw [if_pos (.inl rfl)] at h; exact h
    · rw [if_pos (.inr rfl)] at h; exact h
    · rw [if_neg (by decide), if_pos rfl, Bool.and_eq_true] at h; exact h.1
  exact (bar_parts hb).2.1 rfl
/-- The sign of a group. -/
def grpC (k : Int) : Int := if k = 0 then 38 else if k = 1 then 124 else 33
set_option maxRecDepth 4000 in
set_option maxHeartbeats 12800000 in
theorem afilter_any (w0 : World) (hL : Ly w0) (e : Fl) : allF e = true → ∀ (Y : List Int) (v0 : Value) (x : Value) (w : World), FlV w0 e x → Below w0.heap.size w0 w → Ob w0.heap.size v0 Y w → Y.length + 14000 * totF e ≤ 900000 →
    Calls Tryz.prog 19 #[v0, x] w fun y w' => ∃ v2, y = .returned v2 ∧ Ap w0.heap.size w v2 (Y ++ textF e) w' := by
  induction e using Fl.ind with
  | h k n v i a f hi' hf' r d kids ih =>
    intro hA Y v0 x w hV hb hO hl
    obtain ⟨i0, hi, hz0, hz1, hz2⟩ := info_parts u8_info
    have hVV := hV
    simp only [FlV] at hV
    obtain ⟨a1, c1, a2, c2, rfl, hT, hkn, hkc⟩ := hV
    simp only [allF, Bool.and_eq_true] at hA
    obtain ⟨hAL, hone⟩ := hA
    simp only [totF] at hl
    have hB : w0.heap.size ≤ w.heap.size := hb.size
    have B1 := Below.one w (.cells (cFl k n v i a1 a.length c1 f hi' hf' r d a2 kids.length c2) 27)
    have HBX := heap_new w (.cells (cFl k n v i a1 a.length c1 f hi' hf' r d a2 kids.length c2) 27)
    have hB1 := Nat.le_trans hB B1.size
    have tb := hb.trans (B1.mono hB)
    have L0 := hide (Ap.start (hO.below B1))
    have HL0 := hide hl
    obtain ⟨m0, m1, m2, m3, m4, m5, m6, m7, m8, m9, m10⟩ := cells11 HBX
    have htx : textF (Fl.mk k n v i a f hi' hf' r d kids) = 40 :: (headF k n i a f r d ++ (textF.L kids ++ (vTxt (nums v) ++ [41]))) := by simp only [textF]
    obtain ⟨N0, hN0⟩ : ∃ N, N = Y.length := ⟨_, rfl⟩
    have HN0 := hide hN0
    have q01 : N0 + 1 ≤ maxLen := by rw [hN0]; unfold maxLen; omega
    have q02 : (N0 + 1) * 1 ≤ 140737488355328 := by rw [hN0]; omega
    clear hN0 hO hT
    by_cases hk : k = 0 ∨ k = 1 ∨ k = 2
    · have hve := grp_item hone hk
      have hhd : headF k n i a f r d = [grpC k] := by
        unfold headF grpC
        rcases hk with rfl | rfl | rfl <;> rfl
      have HTX : Hid (textF (Fl.mk k n v i a f hi' hf' r d kids) = [40] ++ ([grpC k] ++ (textF.L kids ++ [41]))) := by
        show _ = _
        rw [htx, hhd, hve]
        rfl
      have HIH := hide ih
      have HKC := hide hkc
      have HAL := hide hAL
      have zk3 : k < 3 := by omega
      have zk0 : 0 ≤ k := by omega
      obtain ⟨kn, rfl⟩ : ∃ kn : Nat, k = (kn : Int) := ⟨k.toNat, by omega⟩
      have hkn3 : kn < 3 := by omega
      have hgr : ((⟨#[38, 124, 33]⟩ : ByteArray)[kn]'(by exact hkn3)).toNat = (grpC (kn : Int)).toNat := by
        rcases (by omega : kn = 0 ∨ kn = 1 ∨ kn = 2) with rfl | rfl | rfl <;> rfl
      have hg0 : 0 ≤ grpC (kn : Int) := by unfold grpC; split; omega; split <;> omega
      have hgc : (((⟨#[38, 124, 33]⟩ : ByteArray)[kn]'(by exact hkn3)).toNat : Int) = grpC (kn : Int) := by rw [hgr]; omega
      generalize grpC (kn : Int) = gc at *
      obtain ⟨N1, hN1⟩ : ∃ N, N = (Y ++ [40]).length := ⟨_, rfl⟩
      have HN1 := hide hN1
      have q11 : N1 + 1 ≤ maxLen := by rw [hN1, List.length_append, List.length_singleton]; unfold maxLen; omega
      have q12 : (N1 + 1) * 1 ≤ 140737488355328 := by rw [hN1, List.length_append, List.length_singleton]; omega
      clear ih hAL hone htx hhd hve hk hl hN1 hgr hg0 hVV hkc
      go_enter Tryz.func19, Tryz.ntmps19
      go_upto_region 4 with (first
        | (at_builtin; refine wpList_append_lies _ rfl _ _ 44 rfl w0.heap.size 5 i0 _ 1 1 Tryz.underlying44 hi hz0 hz1 hz2 rfl (by omega) _ N1 _ rfl (World.ownsRow.alloc (Ob.own (unhide HN1) (unhide L1).own) _) ⟨w1.heap.size, 0, none⟩ 1 1 [.int .u8 gc] rfl rfl (World.news_of_block (cs := #[.int .u8 gc]) (t := 5) (fr := (0, 0)) (heap_new w1 _)) (by simp [Value.oneCell']) (by omega) q11 q12 (by have z := ((unhide L1).big hB1); simp at z ⊢; omega) (w1.heap.size + 1) (by simp) ?_; intro g2 cap2 w2 hown hgrow hat hlt; have L2 := hide ((unhide L1).step hB1 (grown_new hgrow) (Ob.push (unhide HN1) (Z := [gc]) rfl hown)); clear hown hgrow hat hlt; obtain ⟨m0, m1, m2, m3, m4, m5, m6, m7, m8, m9, m10⟩ := cells11 ((unhide L2).kp _ _ _ HBX (by decide)))
        | (at_builtin; refine wpList_append_lies _ rfl _ _ 44 rfl w0.heap.size 5 i0 _ 1 1 Tryz.underlying44 hi hz0 hz1 hz2 rfl (by omega) _ N0 _ rfl (World.ownsRow.alloc (Ob.own (unhide HN0) (unhide L0).own) _) ⟨w.heap.size + 1, 0, none⟩ 1 1 [.int .u8 40] rfl rfl (World.news_of_block (cs := #[.int .u8 40]) (t := 5) (fr := (0, 0)) (by have := heap_new (w.alloc (.cells (cFl (kn : Int) n v i a1 a.length c1 f hi' hf' r d a2 kids.length c2) 27)) (.cells #[.int .u8 40] 5); simpa using this)) (by simp [Value.oneCell']) (by omega) q01 q02 (by have z := (hB1); simp at z ⊢; omega) (w.heap.size + 1 + 1) (by simp) ?_; intro g1 cap1 w1 hown hgrow hat hlt; have L1 := hide ((unhide L0).step hB1 (grown_new hgrow) (Ob.push (unhide HN0) (Z := [40]) rfl hown)); clear hown hgrow hat hlt; obtain ⟨m0, m1, m2, m3, m4, m5, m6, m7, m8, m9, m10⟩ := cells11 ((unhide L1).kp _ _ _ HBX (by decide))))
      obtain ⟨m0, m1, m2, m3, m4, m5, m6, m7, m8, m9, m10⟩ := cells11 ((unhide L2).kp _ _ _ HBX (by decide))
      go_wp2
      go_loopw [0, 22] (fun vo vi wr => ∃ j : Nat, j ≤ kids.length ∧ vi = .int .i64 (j : Int) ∧ Ap w0.heap.size (w.alloc (.cells (cFl (kn : Int) n v i a1 a.length c1 f hi' hf' r d a2 kids.length c2) 27)) vo ((Y ++ [40] ++ [gc]) ++ textF.L (kids.take j)) wr) (fun _ i _ => kids.length - (intOf i).toNat)
      case atStart => exact ⟨0, Nat.zero_le _, rfl, by rw [List.take_zero]; simp only [textF.L]; rw [List.append_nil]; exact unhide L2⟩
      case round =>
        obtain ⟨j, hj, rfl, hLj⟩ := hrel
        have LL := hide hLj
        have hBr := hLj.big hB1
        have tr : Below w0.heap.size w0 wr := tb.trans hLj.bel
        clear hLj L2
        have htl := textL_le _ (allL_take kids (unhide HAL) j)
        by_cases hlt : j < kids.length
        · have zj0 : (0 : Int) ≤ (j : Int) := by omega
          have zjl : (j : Int) < (kids.length : Int) := by omega
          obtain ⟨g, off, rfl, hlk⟩ := (unhide HKC).resolve_left (by omega)
          obtain ⟨b1, d1, b2, d2, q0, q1, q2, q3, q4, q5, q6, q7, q8, q9, q10, hv⟩ := flat_at hlk j hlt
          replace q0 := (tr.cell (cell_lt q0)).trans q0
          replace q1 := (tr.cell (cell_lt q1)).trans q1
          replace q2 := (tr.cell (cell_lt q2)).trans q2
          replace q3 := (tr.cell (cell_lt q3)).trans q3
          replace q4 := (tr.cell (cell_lt q4)).trans q4
          replace q5 := (tr.cell (cell_lt q5)).trans q5
          replace q6 := (tr.cell (cell_lt q6)).trans q6
          replace q7 := (tr.cell (cell_lt q7)).trans q7
          replace q8 := (tr.cell (cell_lt q8)).trans q8
          replace q9 := (tr.cell (cell_lt q9)).trans q9
          replace q10 := (tr.cell (cell_lt q10)).trans q10
          have hmem := getD_memF kids j hlt
          have hae := allL_mem kids (unhide HAL) _ hmem
          have htk : totF.L (kids.take j) + totF (kids.getD j fl0) ≤ totF.L kids := by
            have h1 := congrArg totF.L (List.take_append_drop (j + 1) kids)
            rw [totL_app, takeF kids j hlt, totL_app] at h1
            simp only [totF.L] at h1
            omega
          have hl0 := unhide HL0
          have hKB := Below.one wr (.cells (cFl (kids.getD j fl0).kin (kids.getD j fl0).nam (kids.getD j fl0).val (kids.getD j fl0).ini b1 (kids.getD j fl0).any.length d1 (kids.getD j fl0).fin (kids.getD j fl0).hi (kids.getD j fl0).hf (kids.getD j fl0).rul (kids.getD j fl0).dn b2 (kids.getD j fl0).kids.length d2) 27)
          have CK := hide (unhide HIH _ hmem hae ((Y ++ [40] ++ [gc]) ++ textF.L (kids.take j)) u0 _ (wr.alloc (.cells (cFl (kids.getD j fl0).kin (kids.getD j fl0).nam (kids.getD j fl0).val (kids.getD j fl0).ini b1 (kids.getD j fl0).any.length d1 (kids.getD j fl0).fin (kids.getD j fl0).hi (kids.getD j fl0).hf (kids.getD j fl0).rul (kids.getD j fl0).dn b2 (kids.getD j fl0).kids.length d2) 27)) hv (tr.trans (hKB.mono hBr)) ((unhide LL).own.below hKB) (by
            simp only [List.length_append, List.length_singleton]
            omega))
          have LK := hide ((unhide LL).grow hB1 hKB)
          have HTK : Hid (textF.L (kids.take (j + 1)) = textF.L (kids.take j) ++ textF (kids.getD j fl0)) := by
            show _ = _
            rw [takeF kids j hlt, textL_app]
            simp only [textF.L, List.append_nil]
          clear hv hlk hmem hae htk hl0 htl hKB
          generalize kids.getD j fl0 = e at *
          go_wp2_with (go_at_call 19; refine (unhide CK).mono ?_; rintro y w3 ⟨v3, rfl, hA3⟩; have L3 := hide ((unhide LK).trans hA3); clear hA3)
          go_roundw
          case rel => exact ⟨j + 1, by omega, by go_num, by
            rw [unhide HTK]
            have z := unhide L3
            simp only [List.append_assoc] at z ⊢
            exact z⟩
          case measure => simp [intOf]; omega
        · have zjl : ¬ (j : Int) < (kids.length : Int) := by omega
          obtain ⟨N5, hN5⟩ : ∃ N, N = ((Y ++ [40] ++ [gc]) ++ textF.L (kids.take j)).length := ⟨_, rfl⟩
          have HN5 := hide hN5
          have hl0 := unhide HL0
          have ht : kids.take j = kids := List.take_of_length_le (by omega)
          have q51 : N5 + 1 ≤ maxLen := by
            rw [hN5]; simp only [List.length_append, List.length_singleton]; rw [ht] at htl ⊢; unfold maxLen; omega
          have q52 : (N5 + 1) * 1 ≤ 140737488355328 := by
            rw [hN5]; simp only [List.length_append, List.length_singleton]; rw [ht] at htl ⊢; omega
          have HTT := hide ht
          clear hN5 hl0 htl ht
          go_wp2_with (at_builtin; refine wpList_append_lies _ rfl _ _ 44 rfl w0.heap.size 5 i0 _ 1 1 Tryz.underlying44 hi hz0 hz1 hz2 rfl (by omega) _ N5 _ rfl (World.ownsRow.alloc (Ob.own (unhide HN5) (unhide LL).own) _) ⟨wr.heap.size, 0, none⟩ 1 1 [.int .u8 41] rfl rfl (World.news_of_block (cs := #[.int .u8 41]) (t := 5) (fr := (0, 0)) (heap_new wr _)) (by simp [Value.oneCell']) (by omega) q51 q52 (by have z := (hBr); simp at z ⊢; omega) (wr.heap.size + 1) (by simp) ?_; intro g6 cap6 w6 hown hgrow hat hlt; have L6 := hide ((unhide LL).step hB1 (grown_new hgrow) (Ob.push (unhide HN5) (Z := [41]) rfl hown)); clear hown hgrow hat hlt; obtain ⟨m0, m1, m2, m3, m4, m5, m6, m7, m8, m9, m10⟩ := cells11 ((unhide L6).kp _ _ _ HBX (by decide)))
          go_ret
          refine ⟨_, rfl, ?_⟩
          have z := (unhide L6).off (B := w0.heap.size) (w := w) hB B1
          rw [unhide HTT] at z
          rw [unhide HTX]
          simp only [List.append_assoc] at z ⊢
          exact z
    · obtain ⟨hm0, hk3, hit, hbd⟩ := one_item hone (fun h => hk (.inl h)) (fun h => hk (.inr (.inl h))) (fun h => hk (.inr (.inr h)))
      have hke : kids = [] := List.length_eq_zero_iff.1 hm0
      have HTX : Hid (textF (Fl.mk k n v i a f hi' hf' r d kids) = [40] ++ (itemT k n v i a f r d ++ [41])) := by
        show _ = _
        rw [htx, hke, ← hit]
        simp [textF.L]
      have zk3 : ¬ k < 3 := by omega
      have hit2 : (itemT k n v i a f r d).length ≤ 14000 := by
        have h1 := head_len hone
        have h2 := val_le v
        rw [← hit, List.length_append]
        have := h1.1
        have := h1.2
        omega
      obtain ⟨N5, hN5⟩ : ∃ N, N = (Y ++ [40] ++ itemT k n v i a f r d).length := ⟨_, rfl⟩
      have HN5 := hide hN5
      have q51 : N5 + 1 ≤ maxLen := by rw [hN5]; simp only [List.length_append, List.length_singleton]; unfold maxLen; omega
      have q52 : (N5 + 1) * 1 ≤ 140737488355328 := by rw [hN5]; simp only [List.length_append, List.length_singleton]; omega
      have CI := hide (fun (u : Value) (W : World) (hO : Ob w0.heap.size u (Y ++ [40]) W) (h1 : Below w0.heap.size w0 W) => aitem_any w0 hL (Y ++ [40]) u k n v i a f hi' hf' r d kids _ W hVV h1 hO (by rw [List.length_append, List.length_singleton]; omega))
      clear ih hAL hone htx hit hbd hk hl hN5 hit2 hVV hkc hm0 hke hk3
      go_enter Tryz.func19, Tryz.ntmps19
      go_wp2_with (first
        | (at_builtin; refine wpList_append_lies _ rfl _ _ 44 rfl w0.heap.size 5 i0 _ 1 1 Tryz.underlying44 hi hz0 hz1 hz2 rfl (by omega) _ N5 _ rfl (World.ownsRow.alloc (Ob.own (unhide HN5) (unhide L5).own) _) ⟨w5.heap.size, 0, none⟩ 1 1 [.int .u8 41] rfl rfl (World.news_of_block (cs := #[.int .u8 41]) (t := 5) (fr := (0, 0)) (heap_new w5 _)) (by simp [Value.oneCell']) (by omega) q51 q52 (by have z := ((unhide L5).big hB1); simp at z ⊢; omega) (w5.heap.size + 1) (by simp) ?_; intro g6 cap6 w6 hown hgrow hat hlt; have L6 := hide ((unhide L5).step hB1 (grown_new hgrow) (Ob.push (unhide HN5) (Z := [41]) rfl hown)); clear hown hgrow hat hlt; obtain ⟨m0, m1, m2, m3, m4, m5, m6, m7, m8, m9, m10⟩ := cells11 ((unhide L6).kp _ _ _ HBX (by decide)))
        | (go_at_call 32; refine (unhide CI _ _ (unhide L1).own (tb.trans (unhide L1).bel)).mono ?_; rintro y w5 ⟨v5, rfl, hA5⟩; have L5 := hide ((unhide L1).trans hA5); clear hA5)
        | (at_builtin; refine wpList_append_lies _ rfl _ _ 44 rfl w0.heap.size 5 i0 _ 1 1 Tryz.underlying44 hi hz0 hz1 hz2 rfl (by omega) _ N0 _ rfl (World.ownsRow.alloc (Ob.own (unhide HN0) (unhide L0).own) _) ⟨w.heap.size + 1, 0, none⟩ 1 1 [.int .u8 40] rfl rfl (World.news_of_block (cs := #[.int .u8 40]) (t := 5) (fr := (0, 0)) (by have := heap_new (w.alloc (.cells (cFl k n v i a1 a.length c1 f hi' hf' r d a2 kids.length c2) 27)) (.cells #[.int .u8 40] 5); simpa using this)) (by simp [Value.oneCell']) (by omega) q01 q02 (by have z := (hB1); simp at z ⊢; omega) (w.heap.size + 1 + 1) (by simp) ?_; intro g1 cap1 w1 hown hgrow hat hlt; have L1 := hide ((unhide L0).step hB1 (grown_new hgrow) (Ob.push (unhide HN0) (Z := [40]) rfl hown)); clear hown hgrow hat hlt; obtain ⟨m0, m1, m2, m3, m4, m5, m6, m7, m8, m9, m10⟩ := cells11 ((unhide L1).kp _ _ _ HBX (by decide))))
      go_ret
      refine ⟨_, rfl, ?_⟩
      have z := (unhide L6).off (B := w0.heap.size) (w := w) hB B1
      rw [unhide HTX]
      simp only [List.append_assoc] at z ⊢
      exact z
set_option maxHeartbeats 6400000 in
theorem show_land (e : Fl) (x : Value) (w : World) (hL : Ly w) (hV : FlV w e x) (hS : smF e) : Calls Tryz.prog 7 #[x] w fun y w' => y = .returned (.tuple #[.string (shoF e), .int .i64 (chkF e)]) ∧ Below w.heap.size w w' := by
  obtain ⟨a1, c1, a2, c2, hv, _⟩ := hV.open
  have B1 := Below.one w (.cells (cFl e.kin e.nam e.val e.ini a1 e.any.length c1 e.fin e.hi e.hf e.rul e.dn a2 e.kids.length c2) 27)
  have HBX := heap_new w (.cells (cFl e.kin e.nam e.val e.ini a1 e.any.length c1 e.fin e.hi e.hf e.rul e.dn a2 e.kids.length c2) 27)
  have CK := hide (fcheck_any e x _ (hV.grow B1) hS)
  by_cases hk : chkF e = 0
  · obtain ⟨hA, -, htot⟩ := chk_parts hk
    have HS : Hid (shoF e = strOfNums (textF e)) := by show _ = _; unfold shoF; rw [if_pos hk]
    have HC := hide hk
    rw [hk] at CK
    have CF := hide (fun (W : World) (g : Below w.heap.size w W) => afilter_any w hL e hA [] (.slice none 0 0) x W hV g (Ob.nil24 _ _) (by simp only [List.length_nil]; omega))
    clear hk hA htot hV
    subst hv
    go_enter Tryz.func7, Tryz.ntmps7
    go_wp2_with (first
      | (go_at_call 19; refine (unhide CF _ (B1.trans (g2.below.mono B1.size))).mono ?_; rintro y w3 ⟨v3, rfl, hA3⟩; have hcv := hA3.own.conv; rw [List.nil_append] at hcv; have b3 := hA3.bel; clear hA3)
      | (go_at_call 9; refine (unhide CK).mono ?_; rintro y w2 ⟨rfl, g2⟩; obtain ⟨m0, m1, m2, m3, m4, m5, m6, m7, m8, m9, m10⟩ := cells11 (keep_blk HBX g2.below)))
    go_ret2
    exact ⟨by rw [unhide HS, unhide HC]; rfl, (B1.trans (g2.below.mono B1.size)).trans b3⟩
  · have HS : Hid (shoF e = ⟨#[]⟩) := by show _ = _; unfold shoF; rw [if_neg hk]
    have zk : (chkF e == 0) = false := by rw [beq_eq_false_iff_ne]; exact hk
    have zk2 : (chkF e != 0) = true := by simp [bne, zk]
    clear hk hV
    subst hv
    generalize chkF e = ck at *
    generalize shoF e = so at *
    go_enter Tryz.func7, Tryz.ntmps7
    go_wp2_with (go_at_call 9; refine (unhide CK).mono ?_; rintro y w2 ⟨rfl, g2⟩)
    go_ret2
    exact ⟨by rw [unhide HS]; rfl, B1.trans (g2.below.mono B1.size)⟩
end Go.Proofs.YthbldkkjjjmegaaGreatDoor
/- The landed contracts of layer 24, all. -/
namespace Go.Proofs.YthbldkkjjjmegaaGreatDoor
set_option maxRecDepth 100000
open Go.RowKit

theorem k24 (w0 : World) (hL : Ly w0) : K24 w0 where
  chk := fun e x w hV hS => (fcheck_any e x w hV hS).mono fun _ _ ⟨h1, h2⟩ => ⟨h1, h2.below⟩
  dep := fun e x w hV _ => (fDeep_any e x w hV).mono fun _ _ ⟨h1, h2⟩ => ⟨h1, h2.below⟩
  cnt := fun e x w hV _ => (fCount_any e x w hV).mono fun _ _ ⟨h1, h2⟩ => ⟨h1, h2.below⟩
  sho := fun e x w hb hV hS => show_land e x w (hL.keep hb) hV hS
  par := fun s w hb => parse_land s w (hL.keep hb)
  sam := fun e e' x x' w hV hV' _ _ => (fsame_any e e' x x' w hV hV').mono fun _ _ ⟨h1, h2⟩ => ⟨h1, h2.below⟩
end Go.Proofs.YthbldkkjjjmegaaGreatDoor
