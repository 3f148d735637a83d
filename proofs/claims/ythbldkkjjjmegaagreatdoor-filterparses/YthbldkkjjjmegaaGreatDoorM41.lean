/- The landed appendFilter, Show of layer 24. (By gen_af.py.) -/
import Derived.Test.YthbldkkjjjmegaaGreatDoorM40
import Derived.Test.YthbldkkjjjmegaaGreatDoorM34
import Derived.Test.YthbldkkjjjmegaaGreatDoorM09
import Derived.Test.YthbldkkjjjmegaaGreatDoorM19
import Derived.Test.YthbldkkjjjmegaaGreatDoorM17
namespace Go.Proofs.YthbldkkjjjmegaaGreatDoor
set_option maxRecDepth 100000
open Go.RowKit

theorem sum_le (a : List ByteArray) (h : ∀ t ∈ a, t.size ≤ 400) : (a.map ByteArray.size).sum ≤ 400 * a.length := by
  induction a with
  | nil => simp
  | cons x t ih =>
    have := ih fun y hy => h y (by simp [hy])
    have := h x (by simp)
    rw [List.map_cons, List.sum_cons, List.length_cons]
    omega
/-- What may be, without kids, is told by its item. -/
theorem one_item {k : Int} {n v i : ByteArray} {a : List ByteArray} {f : ByteArray} {hi hf : Bool} {r : ByteArray} {d : Bool} {m : Nat} (h : oneF k n v i a f hi hf r d m = true) (h0 : ¬ k = 0) (h1 : ¬ k = 1) (h2 : ¬ k = 2) :
    m = 0 ∧ 3 ≤ k ∧ headF k n i a f r d ++ vTxt (nums v) = itemT k n v i a f r d ∧ n.size + r.size + 3 * v.size + 3 * (i.size + f.size) + 3 * (a.map ByteArray.size).sum + a.length + 10 ≤ 13000 := by
  have hz : ByteArray.empty.size = 0 := rfl
  have hEE : ByteArray.empty = ⟨#[]⟩ := rfl
  unfold oneF oneQ at h
  rw [if_neg (by omega), if_neg h2] at h
  by_cases hm : m ≠ 0 ∨ decide (400 < v.size) = true
  · rw [if_pos hm] at h; cases h
  rw [if_neg hm] at h
  have hm0 : m = 0 := Classical.not_not.1 fun x => hm (.inl x)
  have hv : v.size ≤ 400 := by
    have : ¬ decide (400 < v.size) = true := fun x => hm (.inr x)
    simpa using this
  have hh : headF k n i a f r d = nums n ++ (if k = 3 then [61] else if k = 5 then [62, 61] else if k = 6 then [60, 61] else if k = 8 then [126, 61] else if k = 7 then [61, 42] else if k = 4 then 61 :: starT i a f else extT r d) := by
    unfold headF
    rw [if_neg h0, if_neg h1, if_neg h2]
  rw [hh]
  unfold itemT
  by_cases h3 : k = 3 ∨ k = 5 ∨ k = 6 ∨ k = 8
  · rw [if_pos h3, Bool.and_eq_true] at h
    have hw := wrd_size h.2
    obtain ⟨-, -, hr, hp⟩ := bar_parts h.1
    obtain ⟨hr, hd⟩ := hr rfl
    obtain ⟨h4, h5, h6, -, -⟩ := hp rfl
    subst hr hd h4 h5 h6
    refine ⟨hm0, by omega, ?_, by simp only [hz, List.map_nil, List.sum_nil, List.length_nil]; omega⟩
    rcases h3 with rfl | rfl | rfl | rfl <;> simp [sgO, nums, hEE]
  rw [if_neg h3] at h
  rw [if_neg (by omega), if_neg (by omega), if_neg (by omega), if_neg (by omega)]
  by_cases h7 : k = 7
  · rw [if_pos h7, Bool.and_eq_true] at h
    have hw := wrd_size h.2
    obtain ⟨-, hv0, hr, hp⟩ := bar_parts h.1
    obtain ⟨hr, hd⟩ := hr rfl
    obtain ⟨h4, h5, h6, -, -⟩ := hp rfl
    have hv1 := hv0 rfl
    subst hr hd h4 h5 h6 hv1
    refine ⟨hm0, by omega, ?_, by simp only [hz, List.map_nil, List.sum_nil, List.length_nil]; omega⟩
    subst h7
    simp [sgO, nums, vTxt, hEE]
  rw [if_neg h7] at h
  rw [if_neg h7, if_neg h7]
  by_cases h4 : k = 4
  · rw [if_pos h4, Bool.and_eq_true, Bool.and_eq_true] at h
    have hw := wrd_size h.2.1
    have hp := h.2.2
    unfold finPc at hp
    simp only [Bool.and_eq_true, decide_eq_true_eq, List.all_eq_true] at hp
    obtain ⟨hp1, ⟨hp2, hp3⟩, hp4⟩ := hp
    have ha : a.length ≤ 6 := by
      unfold okPc at hp1
      simp only [Bool.and_eq_true, decide_eq_true_eq] at hp1
      exact hp1.1.1
    have hs := sum_le a hp4
    obtain ⟨-, hv0, hr, -⟩ := bar_parts h.1
    obtain ⟨hr, hd⟩ := hr rfl
    have hv1 := hv0 rfl
    subst hr hd hv1
    refine ⟨hm0, by omega, ?_, by simp only [hz]; omega⟩
    subst h4
    simp [sgO, nums, vTxt, hEE]
  rw [if_neg h4] at h
  rw [if_neg h4, if_neg h4]
  by_cases h9 : k = 9
  · rw [if_pos h9] at h
    rw [Bool.and_eq_true] at h
    obtain ⟨hbar, h⟩ := h
    simp only [Bool.and_eq_true, Bool.or_eq_true, Bool.not_eq_true', decide_eq_true_eq] at h
    obtain ⟨hn, hr, _⟩ := h
    obtain ⟨-, -, -, hp⟩ := bar_parts hbar
    obtain ⟨h4, h5, h6, -, -⟩ := hp rfl
    have hn2 : n.size ≤ 16 := by
      rcases hn with hn | hn
      · exact wrd_size hn
      · rw [hn]; decide
    have hr2 : r.size ≤ 16 := by
      rcases hr with hr | hr
      · exact wrd_size hr.1
      · rw [hr]; decide
    subst h4 h5 h6
    refine ⟨hm0, by omega, ?_, by simp only [hz, List.map_nil, List.sum_nil, List.length_nil]; omega⟩
    subst h9
    unfold extT
    simp [sgO, nums]
  · rw [if_neg h9] at h; cases h
theorem textL_app : ∀ (l m : List Fl), textF.L (l ++ m) = textF.L l ++ textF.L m
  | [], _ => by simp only [List.nil_append, textF.L]
  | e :: t, m => by
    rw [List.cons_append]
    simp only [textF.L]
    rw [textL_app t m, List.append_assoc]
theorem totL_app : ∀ (l m : List Fl), totF.L (l ++ m) = totF.L l + totF.L m
  | [], _ => by simp only [List.nil_append, totF.L]; omega
  | e :: t, m => by
    rw [List.cons_append]
    simp only [totF.L]
    rw [totL_app t m]
    omega
theorem takeF (l : List Fl) (j : Nat) (h : j < l.length) : l.take (j + 1) = l.take j ++ [l.getD j fl0] := by
  rw [List.take_succ_eq_append_getElem h]
  simp [List.getD, h]
theorem textL_le (l : List Fl) (h : allF.L l = true) : (textF.L l).length ≤ 12000 * totF.L l := by
  induction l with
  | nil => simp [textF.L, totF.L]
  | cons e t ih =>
    simp only [allF.L, Bool.and_eq_true] at h
    have h1 := ih h.2
    have h2 := text_len e h.1
    simp only [textF.L, totF.L, List.length_append]
    omega
theorem allL_take (l : List Fl) (h : allF.L l = true) (j : Nat) : allF.L (l.take j) = true := by
  induction l generalizing j with
  | nil => simp [allF.L]
  | cons e t ih =>
    cases j with
    | zero => simp only [List.take_zero, allF.L]
    | succ j =>
      simp only [allF.L, Bool.and_eq_true] at h
      rw [List.take_succ_cons]
      simp only [allF.L, Bool.and_eq_true]
      exact ⟨h.1, ih h.2 j⟩
theorem grp_item {k : Int} {n v i : ByteArray} {a : List ByteArray} {f : ByteArray} {hi hf : Bool} {r : ByteArray} {d : Bool} {m : Nat} (h : oneF k n v i a f hi hf r d m = true) (hk : k = 0 ∨ k = 1 ∨ k = 2) : v = ByteArray.empty := by
  have hb : barF n v i a f hi hf r d true true true true = true := by
    unfold oneF oneQ at h
    rcases hk with rfl | rfl | rfl
    · rw [if_pos (.inl rfl)] at h; exact h
    · rw [if_pos (.inr rfl)] at h; exact h
    · rw [if_neg (by decide), if_pos rfl, Bool.and_eq_true] at h; exact h.1
  exact (bar_parts hb).2.1 rfl
/-- The sign of a group. -/
def grpC (k : Int) : Int := if k = 0 then 38 else if k = 1 then 124 else 33
set_option maxRecDepth 4000 in
set_option maxHeartbeats 12800000 in
theorem afilter_any (w0 : World) (hL : Ly w0) (e : Fl) : allF e = true → ∀ (Y : List Int) (v0 : Value) (x : Value) (w : World), FlV w0 e x → Below w0.heap.size w0 w → Ob w0.heap.size v0 Y w → Y.length + 14000 * totF e ≤ 900000 →
    Calls Tryz.prog 19 #[v0, x] w fun y w' => ∃ v2, y = .returned v2 ∧ Ap w0.heap.size w v2 (Y ++ textF e) w' := by
  induction e using Fl.ind with
  | h k n v i a f hi' hf' r d kids ih =>
    intro hA Y v0 x w hV hb hO hl
    obtain ⟨i0, hi, hz0, hz1, hz2⟩ := info_parts u8_info
    have hVV := hV
    simp only [FlV] at hV
    obtain ⟨a1, c1, a2, c2, rfl, hT, hkn, hkc⟩ := hV
    simp only [allF, Bool.and_eq_true] at hA
    obtain ⟨hAL, hone⟩ := hA
    simp only [totF] at hl
    have hB : w0.heap.size ≤ w.heap.size := hb.size
    have B1 := Below.one w (.cells (cFl k n v i a1 a.length c1 f hi' hf' r d a2 kids.length c2) 27)
    have HBX := heap_new w (.cells (cFl k n v i a1 a.length c1 f hi' hf' r d a2 kids.length c2) 27)
    have hB1 := Nat.le_trans hB B1.size
    have tb := hb.trans (B1.mono hB)
    have L0 := hide (Ap.start (hO.below B1))
    have HL0 := hide hl
    obtain ⟨m0, m1, m2, m3, m4, m5, m6, m7, m8, m9, m10⟩ := cells11 HBX
    have htx : textF (Fl.mk k n v i a f hi' hf' r d kids) = 40 :: (headF k n i a f r d ++ (textF.L kids ++ (vTxt (nums v) ++ [41]))) := by simp only [textF]
    obtain ⟨N0, hN0⟩ : ∃ N, N = Y.length := ⟨_, rfl⟩
    have HN0 := hide hN0
    have q01 : N0 + 1 ≤ maxLen := by rw [hN0]; unfold maxLen; omega
    have q02 : (N0 + 1) * 1 ≤ 140737488355328 := by rw [hN0]; omega
    clear hN0 hO hT
    by_cases hk : k = 0 ∨ k = 1 ∨ k = 2
    · have hve := grp_item hone hk
      have hhd : headF k n i a f r d = [grpC k] := by
        unfold headF grpC
        rcases hk with rfl | rfl | rfl <;> rfl
      have HTX : Hid (textF (Fl.mk k n v i a f hi' hf' r d kids) = [40] ++ ([grpC k] ++ (textF.L kids ++ [41]))) := by
        show _ = _
        rw [htx, hhd, hve]
        rfl
      have HIH := hide ih
      have HKC := hide hkc
      have HAL := hide hAL
      have zk3 : k < 3 := by omega
      have zk0 : 0 ≤ k := by omega
      obtain ⟨kn, rfl⟩ : ∃ kn : Nat, k = (kn : Int) := ⟨k.toNat, by omega⟩
      have hkn3 : kn < 3 := by omega
      have hgr : ((⟨#[38, 124, 33]⟩ : ByteArray)[kn]'(by exact hkn3)).toNat = (grpC (kn : Int)).toNat := by
        rcases (by omega : kn = 0 ∨ kn = 1 ∨ kn = 2) with rfl | rfl | rfl <;> rfl
      have hg0 : 0 ≤ grpC (kn : Int) := by unfold grpC; split; omega; split <;> omega
      have hgc : (((⟨#[38, 124, 33]⟩ : ByteArray)[kn]'(by exact hkn3)).toNat : Int) = grpC (kn : Int) := by rw [hgr]; omega
      generalize grpC (kn : Int) = gc at *
      obtain ⟨N1, hN1⟩ : ∃ N, N = (Y ++ [40]).length := ⟨_, rfl⟩
      have HN1 := hide hN1
      have q11 : N1 + 1 ≤ maxLen := by rw [hN1, List.length_append, List.length_singleton]; unfold maxLen; omega
      have q12 : (N1 + 1) * 1 ≤ 140737488355328 := by rw [hN1, List.length_append, List.length_singleton]; omega
      clear ih hAL hone htx hhd hve hk hl hN1 hgr hg0 hVV hkc
      go_enter Tryz.func19, Tryz.ntmps19
      go_upto_region 4 with (first
        | (at_builtin; refine wpList_append_lies _ rfl _ _ 44 rfl w0.heap.size 5 i0 _ 1 1 Tryz.underlying44 hi hz0 hz1 hz2 rfl (by omega) _ N1 _ rfl (World.ownsRow.alloc (Ob.own (unhide HN1) (unhide L1).own) _) ⟨w1.heap.size, 0, none⟩ 1 1 [.int .u8 gc] rfl rfl (World.news_of_block (cs := #[.int .u8 gc]) (t := 5) (fr := (0, 0)) (heap_new w1 _)) (by simp [Value.oneCell']) (by omega) q11 q12 (by have z := ((unhide L1).big hB1); simp at z ⊢; omega) (w1.heap.size + 1) (by simp) ?_; intro g2 cap2 w2 hown hgrow hat hlt; have L2 := hide ((unhide L1).step hB1 (grown_new hgrow) (Ob.push (unhide HN1) (Z := [gc]) rfl hown)); clear hown hgrow hat hlt; obtain ⟨m0, m1, m2, m3, m4, m5, m6, m7, m8, m9, m10⟩ := cells11 ((unhide L2).kp _ _ _ HBX (by decide)))
        | (at_builtin; refine wpList_append_lies _ rfl _ _ 44 rfl w0.heap.size 5 i0 _ 1 1 Tryz.underlying44 hi hz0 hz1 hz2 rfl (by omega) _ N0 _ rfl (World.ownsRow.alloc (Ob.own (unhide HN0) (unhide L0).own) _) ⟨w.heap.size + 1, 0, none⟩ 1 1 [.int .u8 40] rfl rfl (World.news_of_block (cs := #[.int .u8 40]) (t := 5) (fr := (0, 0)) (by have := heap_new (w.alloc (.cells (cFl (kn : Int) n v i a1 a.length c1 f hi' hf' r d a2 kids.length c2) 27)) (.cells #[.int .u8 40] 5); simpa using this)) (by simp [Value.oneCell']) (by omega) q01 q02 (by have z := (hB1); simp at z ⊢; omega) (w.heap.size + 1 + 1) (by simp) ?_; intro g1 cap1 w1 hown hgrow hat hlt; have L1 := hide ((unhide L0).step hB1 (grown_new hgrow) (Ob.push (unhide HN0) (Z := [40]) rfl hown)); clear hown hgrow hat hlt; obtain ⟨m0, m1, m2, m3, m4, m5, m6, m7, m8, m9, m10⟩ := cells11 ((unhide L1).kp _ _ _ HBX (by decide))))
      obtain ⟨m0, m1, m2, m3, m4, m5, m6, m7, m8, m9, m10⟩ := cells11 ((unhide L2).kp _ _ _ HBX (by decide))
      go_wp2
      go_loopw [0, 22] (fun vo vi wr => ∃ j : Nat, j ≤ kids.length ∧ vi = .int .i64 (j : Int) ∧ Ap w0.heap.size (w.alloc (.cells (cFl (kn : Int) n v i a1 a.length c1 f hi' hf' r d a2 kids.length c2) 27)) vo ((Y ++ [40] ++ [gc]) ++ textF.L (kids.take j)) wr) (fun _ i _ => kids.length - (intOf i).toNat)
      case atStart => exact ⟨0, Nat.zero_le _, rfl, by rw [List.take_zero]; simp only [textF.L]; rw [List.append_nil]; exact unhide L2⟩
      case round =>
        obtain ⟨j, hj, rfl, hLj⟩ := hrel
        have LL := hide hLj
        have hBr := hLj.big hB1
        have tr : Below w0.heap.size w0 wr := tb.trans hLj.bel
        clear hLj L2
        have htl := textL_le _ (allL_take kids (unhide HAL) j)
        by_cases hlt : j < kids.length
        · have zj0 : (0 : Int) ≤ (j : Int) := by omega
          have zjl : (j : Int) < (kids.length : Int) := by omega
          obtain ⟨g, off, rfl, hlk⟩ := (unhide HKC).resolve_left (by omega)
          obtain ⟨b1, d1, b2, d2, q0, q1, q2, q3, q4, q5, q6, q7, q8, q9, q10, hv⟩ := flat_at hlk j hlt
          replace q0 := (tr.cell (cell_lt q0)).trans q0
          replace q1 := (tr.cell (cell_lt q1)).trans q1
          replace q2 := (tr.cell (cell_lt q2)).trans q2
          replace q3 := (tr.cell (cell_lt q3)).trans q3
          replace q4 := (tr.cell (cell_lt q4)).trans q4
          replace q5 := (tr.cell (cell_lt q5)).trans q5
          replace q6 := (tr.cell (cell_lt q6)).trans q6
          replace q7 := (tr.cell (cell_lt q7)).trans q7
          replace q8 := (tr.cell (cell_lt q8)).trans q8
          replace q9 := (tr.cell (cell_lt q9)).trans q9
          replace q10 := (tr.cell (cell_lt q10)).trans q10
          have hmem := getD_memF kids j hlt
          have hae := allL_mem kids (unhide HAL) _ hmem
          have htk : totF.L (kids.take j) + totF (kids.getD j fl0) ≤ totF.L kids := by
            have h1 := congrArg totF.L (List.take_append_drop (j + 1) kids)
            rw [totL_app, takeF kids j hlt, totL_app] at h1
            simp only [totF.L] at h1
            omega
          have hl0 := unhide HL0
          have hKB := Below.one wr (.cells (cFl (kids.getD j fl0).kin (kids.getD j fl0).nam (kids.getD j fl0).val (kids.getD j fl0).ini b1 (kids.getD j fl0).any.length d1 (kids.getD j fl0).fin (kids.getD j fl0).hi (kids.getD j fl0).hf (kids.getD j fl0).rul (kids.getD j fl0).dn b2 (kids.getD j fl0).kids.length d2) 27)
          have CK := hide (unhide HIH _ hmem hae ((Y ++ [40] ++ [gc]) ++ textF.L (kids.take j)) u0 _ (wr.alloc (.cells (cFl (kids.getD j fl0).kin (kids.getD j fl0).nam (kids.getD j fl0).val (kids.getD j fl0).ini b1 (kids.getD j fl0).any.length d1 (kids.getD j fl0).fin (kids.getD j fl0).hi (kids.getD j fl0).hf (kids.getD j fl0).rul (kids.getD j fl0).dn b2 (kids.getD j fl0).kids.length d2) 27)) hv (tr.trans (hKB.mono hBr)) ((unhide LL).own.below hKB) (by
            simp only [List.length_append, List.length_singleton]
            omega))
          have LK := hide ((unhide LL).grow hB1 hKB)
          have HTK : Hid (textF.L (kids.take (j + 1)) = textF.L (kids.take j) ++ textF (kids.getD j fl0)) := by
            show _ = _
            rw [takeF kids j hlt, textL_app]
            simp only [textF.L, List.append_nil]
          clear hv hlk hmem hae htk hl0 htl hKB
          generalize kids.getD j fl0 = e at *
          go_wp2_with (go_at_call 19; refine (unhide CK).mono ?_; rintro y w3 ⟨v3, rfl, hA3⟩; have L3 := hide ((unhide LK).trans hA3); clear hA3)
          go_roundw
          case rel => exact ⟨j + 1, by omega, by go_num, by
            rw [unhide HTK]
            have z := unhide L3
            simp only [List.append_assoc] at z ⊢
            exact z⟩
          case measure => simp [intOf]; omega
        · have zjl : ¬ (j : Int) < (kids.length : Int) := by omega
          obtain ⟨N5, hN5⟩ : ∃ N, N = ((Y ++ [40] ++ [gc]) ++ textF.L (kids.take j)).length := ⟨_, rfl⟩
          have HN5 := hide hN5
          have hl0 := unhide HL0
          have ht : kids.take j = kids := List.take_of_length_le (by omega)
          have q51 : N5 + 1 ≤ maxLen := by
            rw [hN5]; simp only [List.length_append, List.length_singleton]; rw [ht] at htl ⊢; unfold maxLen; omega
          have q52 : (N5 + 1) * 1 ≤ 140737488355328 := by
            rw [hN5]; simp only [List.length_append, List.length_singleton]; rw [ht] at htl ⊢; omega
          have HTT := hide ht
          clear hN5 hl0 htl ht
          go_wp2_with (at_builtin; refine wpList_append_lies _ rfl _ _ 44 rfl w0.heap.size 5 i0 _ 1 1 Tryz.underlying44 hi hz0 hz1 hz2 rfl (by omega) _ N5 _ rfl (World.ownsRow.alloc (Ob.own (unhide HN5) (unhide LL).own) _) ⟨wr.heap.size, 0, none⟩ 1 1 [.int .u8 41] rfl rfl (World.news_of_block (cs := #[.int .u8 41]) (t := 5) (fr := (0, 0)) (heap_new wr _)) (by simp [Value.oneCell']) (by omega) q51 q52 (by have z := (hBr); simp at z ⊢; omega) (wr.heap.size + 1) (by simp) ?_; intro g6 cap6 w6 hown hgrow hat hlt; have L6 := hide ((unhide LL).step hB1 (grown_new hgrow) (Ob.push (unhide HN5) (Z := [41]) rfl hown)); clear hown hgrow hat hlt; obtain ⟨m0, m1, m2, m3, m4, m5, m6, m7, m8, m9, m10⟩ := cells11 ((unhide L6).kp _ _ _ HBX (by decide)))
          go_ret
          refine ⟨_, rfl, ?_⟩
          have z := (unhide L6).off (B := w0.heap.size) (w := w) hB B1
          rw [unhide HTT] at z
          rw [unhide HTX]
          simp only [List.append_assoc] at z ⊢
          exact z
    · obtain ⟨hm0, hk3, hit, hbd⟩ := one_item hone (fun h => hk (.inl h)) (fun h => hk (.inr (.inl h))) (fun h => hk (.inr (.inr h)))
      have hke : kids = [] := List.length_eq_zero_iff.1 hm0
      have HTX : Hid (textF (Fl.mk k n v i a f hi' hf' r d kids) = [40] ++ (itemT k n v i a f r d ++ [41])) := by
        show _ = _
        rw [htx, hke, ← hit]
        simp [textF.L]
      have zk3 : ¬ k < 3 := by omega
      have hit2 : (itemT k n v i a f r d).length ≤ 14000 := by
        have h1 := head_len hone
        have h2 := val_le v
        rw [← hit, List.length_append]
        have := h1.1
        have := h1.2
        omega
      obtain ⟨N5, hN5⟩ : ∃ N, N = (Y ++ [40] ++ itemT k n v i a f r d).length := ⟨_, rfl⟩
      have HN5 := hide hN5
      have q51 : N5 + 1 ≤ maxLen := by rw [hN5]; simp only [List.length_append, List.length_singleton]; unfold maxLen; omega
      have q52 : (N5 + 1) * 1 ≤ 140737488355328 := by rw [hN5]; simp only [List.length_append, List.length_singleton]; omega
      have CI := hide (fun (u : Value) (W : World) (hO : Ob w0.heap.size u (Y ++ [40]) W) (h1 : Below w0.heap.size w0 W) => aitem_any w0 hL (Y ++ [40]) u k n v i a f hi' hf' r d kids _ W hVV h1 hO (by rw [List.length_append, List.length_singleton]; omega))
      clear ih hAL hone htx hit hbd hk hl hN5 hit2 hVV hkc hm0 hke hk3
      go_enter Tryz.func19, Tryz.ntmps19
      go_wp2_with (first
        | (at_builtin; refine wpList_append_lies _ rfl _ _ 44 rfl w0.heap.size 5 i0 _ 1 1 Tryz.underlying44 hi hz0 hz1 hz2 rfl (by omega) _ N5 _ rfl (World.ownsRow.alloc (Ob.own (unhide HN5) (unhide L5).own) _) ⟨w5.heap.size, 0, none⟩ 1 1 [.int .u8 41] rfl rfl (World.news_of_block (cs := #[.int .u8 41]) (t := 5) (fr := (0, 0)) (heap_new w5 _)) (by simp [Value.oneCell']) (by omega) q51 q52 (by have z := ((unhide L5).big hB1); simp at z ⊢; omega) (w5.heap.size + 1) (by simp) ?_; intro g6 cap6 w6 hown hgrow hat hlt; have L6 := hide ((unhide L5).step hB1 (grown_new hgrow) (Ob.push (unhide HN5) (Z := [41]) rfl hown)); clear hown hgrow hat hlt; obtain ⟨m0, m1, m2, m3, m4, m5, m6, m7, m8, m9, m10⟩ := cells11 ((unhide L6).kp _ _ _ HBX (by decide)))
        | (go_at_call 32; refine (unhide CI _ _ (unhide L1).own (tb.trans (unhide L1).bel)).mono ?_; rintro y w5 ⟨v5, rfl, hA5⟩; have L5 := hide ((unhide L1).trans hA5); clear hA5)
        | (at_builtin; refine wpList_append_lies _ rfl _ _ 44 rfl w0.heap.size 5 i0 _ 1 1 Tryz.underlying44 hi hz0 hz1 hz2 rfl (by omega) _ N0 _ rfl (World.ownsRow.alloc (Ob.own (unhide HN0) (unhide L0).own) _) ⟨w.heap.size + 1, 0, none⟩ 1 1 [.int .u8 40] rfl rfl (World.news_of_block (cs := #[.int .u8 40]) (t := 5) (fr := (0, 0)) (by have := heap_new (w.alloc (.cells (cFl k n v i a1 a.length c1 f hi' hf' r d a2 kids.length c2) 27)) (.cells #[.int .u8 40] 5); simpa using this)) (by simp [Value.oneCell']) (by omega) q01 q02 (by have z := (hB1); simp at z ⊢; omega) (w.heap.size + 1 + 1) (by simp) ?_; intro g1 cap1 w1 hown hgrow hat hlt; have L1 := hide ((unhide L0).step hB1 (grown_new hgrow) (Ob.push (unhide HN0) (Z := [40]) rfl hown)); clear hown hgrow hat hlt; obtain ⟨m0, m1, m2, m3, m4, m5, m6, m7, m8, m9, m10⟩ := cells11 ((unhide L1).kp _ _ _ HBX (by decide))))
      go_ret
      refine ⟨_, rfl, ?_⟩
      have z := (unhide L6).off (B := w0.heap.size) (w := w) hB B1
      rw [unhide HTX]
      simp only [List.append_assoc] at z ⊢
      exact z
set_option maxHeartbeats 6400000 in
theorem show_land (e : Fl) (x : Value) (w : World) (hL : Ly w) (hV : FlV w e x) (hS : smF e) : Calls Tryz.prog 7 #[x] w fun y w' => y = .returned (.tuple #[.string (shoF e), .int .i64 (chkF e)]) ∧ Below w.heap.size w w' := by
  obtain ⟨a1, c1, a2, c2, hv, _⟩ := hV.open
  have B1 := Below.one w (.cells (cFl e.kin e.nam e.val e.ini a1 e.any.length c1 e.fin e.hi e.hf e.rul e.dn a2 e.kids.length c2) 27)
  have HBX := heap_new w (.cells (cFl e.kin e.nam e.val e.ini a1 e.any.length c1 e.fin e.hi e.hf e.rul e.dn a2 e.kids.length c2) 27)
  have CK := hide (fcheck_any e x _ (hV.grow B1) hS)
  by_cases hk : chkF e = 0
  · obtain ⟨hA, -, htot⟩ := chk_parts hk
    have HS : Hid (shoF e = strOfNums (textF e)) := by show _ = _; unfold shoF; rw [if_pos hk]
    have HC := hide hk
    rw [hk] at CK
    have CF := hide (fun (W : World) (g : Below w.heap.size w W) => afilter_any w hL e hA [] (.slice none 0 0) x W hV g (Ob.nil24 _ _) (by simp only [List.length_nil]; omega))
    clear hk hA htot hV
    subst hv
    go_enter Tryz.func7, Tryz.ntmps7
    go_wp2_with (first
      | (go_at_call 19; refine (unhide CF _ (B1.trans (g2.below.mono B1.size))).mono ?_; rintro y w3 ⟨v3, rfl, hA3⟩; have hcv := hA3.own.conv; rw [List.nil_append] at hcv; have b3 := hA3.bel; clear hA3)
      | (go_at_call 9; refine (unhide CK).mono ?_; rintro y w2 ⟨rfl, g2⟩; obtain ⟨m0, m1, m2, m3, m4, m5, m6, m7, m8, m9, m10⟩ := cells11 (keep_blk HBX g2.below)))
    go_ret2
    exact ⟨by rw [unhide HS, unhide HC]; rfl, (B1.trans (g2.below.mono B1.size)).trans b3⟩
  · have HS : Hid (shoF e = ⟨#[]⟩) := by show _ = _; unfold shoF; rw [if_neg hk]
    have zk : (chkF e == 0) = false := by rw [beq_eq_false_iff_ne]; exact hk
    have zk2 : (chkF e != 0) = true := by simp [bne, zk]
    clear hk hV
    subst hv
    generalize chkF e = ck at *
    generalize shoF e = so at *
    go_enter Tryz.func7, Tryz.ntmps7
    go_wp2_with (go_at_call 9; refine (unhide CK).mono ?_; rintro y w2 ⟨rfl, g2⟩)
    go_ret2
    exact ⟨by rw [unhide HS]; rfl, B1.trans (g2.below.mono B1.size)⟩
end Go.Proofs.YthbldkkjjjmegaaGreatDoor
/- The landed contracts of layer 24, all. -/
namespace Go.Proofs.YthbldkkjjjmegaaGreatDoor
set_option maxRecDepth 100000
open Go.RowKit

theorem k24 (w0 : World) (hL : Ly w0) : K24 w0 where
  chk := fun e x w hV hS => (fcheck_any e x w hV hS).mono fun _ _ ⟨h1, h2⟩ => ⟨h1, h2.below⟩
  dep := fun e x w hV _ => (fDeep_any e x w hV).mono fun _ _ ⟨h1, h2⟩ => ⟨h1, h2.below⟩
  cnt := fun e x w hV _ => (fCount_any e x w hV).mono fun _ _ ⟨h1, h2⟩ => ⟨h1, h2.below⟩
  sho := fun e x w hb hV hS => show_land e x w (hL.keep hb) hV hS
  par := fun s w hb => parse_land s w (hL.keep hb)
  sam := fun e e' x x' w hV hV' _ _ => (fsame_any e e' x x' w hV hV').mono fun _ _ ⟨h1, h2⟩ => ⟨h1, h2.below⟩
end Go.Proofs.YthbldkkjjjmegaaGreatDoor
