/- The law's Few of layer 24. (By gen_fw.py.) -/
import Derived.Test.YthbldkkjjjmegaaGreatDoorM03
import Derived.Test.YthbldkkjjjmegaaGreatDoorM04
namespace Go.Proofs.YthbldkkjjjmegaaGreatDoor
set_option maxRecDepth 100000
open Go.RowKit

/-- The lengths of a filter's texts, together (as Go reckons them). -/
def sumF (n v i f r : ByteArray) : Int := wrap64 (wrap64 (wrap64 (wrap64 ((n.size : Int) + (v.size : Int)) + (r.size : Int)) + (i.size : Int)) + (f.size : Int))
/-- How many are left of so many. -/
def fewW : Fl → Int → Int
  | .mk _ n v i a f _ _ r _ kids, k => if 3000 < sumF n v i f r ∨ 10 < a.length ∨ (a.all fun t => decide (t.size ≤ 1000)) = false then -1 else L kids (k - 1)
  where
  L : List Fl → Int → Int
  | [], k => k
  | e :: t, k => if 0 ≤ k then L t (fewW e k) else k
theorem fewL_drop (l : List Fl) (j : Nat) (x : Int) (h : j < l.length) : fewW.L (l.drop j) x = if 0 ≤ x then fewW.L (l.drop (j + 1)) (fewW (l.getD j fl0) x) else x := by rw [drop_consF l j h]; simp only [fewW.L]
theorem fewW_in (e : Fl) : ∀ k : Int, 0 ≤ k → k ≤ 1000 → -1 ≤ fewW e k ∧ fewW e k ≤ 1000 := by
  induction e using Fl.ind with
  | h c n v i a f hi hf r d kids ih =>
    intro k h0 h1
    simp only [fewW]
    split
    · omega
    · have : ∀ (l : List Fl) (x : Int), (∀ e, e ∈ l → e ∈ kids) → -1 ≤ x → x ≤ 1000 → -1 ≤ fewW.L l x ∧ fewW.L l x ≤ 1000 := fun l => by
        induction l with
        | nil => intro x _ a b; simp only [fewW.L]; exact ⟨a, b⟩
        | cons a t iht =>
          intro x hl p q
          simp only [fewW.L]
          split
          · have := ih a (hl a (by simp)) x (by omega) q
            exact iht _ (fun e he => hl e (by simp [he])) this.1 this.2
          · exact ⟨p, q⟩
      exact this kids (k - 1) (fun _ h => h) (by omega) (by omega)
theorem all_dropW (p : ByteArray → Bool) (l : List ByteArray) (j : Nat) (h : j < l.length) : (l.drop j).all p = (p (l.getD j ⟨#[]⟩) && (l.drop (j + 1)).all p) := by
  rw [List.drop_eq_getElem_cons h, List.all_cons]
  simp [List.getD, h]
set_option maxHeartbeats 3200000 in
theorem few24_any (e : Fl) : ∀ (k : Int) (x : Value) (w : World), FlV w e x → 0 ≤ k → k ≤ 1000 → Calls Tryz.prog 5 #[x, .int .i64 k] w fun y w' => y = .returned (.int .i64 (fewW e k)) ∧ Gr w w' := by
  induction e using Fl.ind with
  | h c n v i a f hi hf r d kids ih =>
    intro k x w hV hk0 hk1
    simp only [FlV] at hV
    obtain ⟨a1, c1, a2, c2, rfl, ht, hn, hc⟩ := hV
    have HIH := hide ih
    have HL := hide hc
    have HD : Hid (fewW (.mk c n v i a f hi hf r d kids) k = if 3000 < sumF n v i f r ∨ 10 < a.length ∨ (a.all fun t => decide (t.size ≤ 1000)) = false then -1 else fewW.L kids (k - 1)) := by show _ = _; simp only [fewW]
    have wk : IntKind.i64.wrap (k - 1) = k - 1 := wrap_in (by omega) (by omega)
    have hs : wrap64 (wrap64 (wrap64 (wrap64 ((n.size : Int) + (v.size : Int)) + (r.size : Int)) + (i.size : Int)) + (f.size : Int)) = sumF n v i f r := rfl
    clear ih hc
    by_cases h5 : 3000 < sumF n v i f r
    · have HN : Hid (-1 = fewW (.mk c n v i a f hi hf r d kids) k) := by show _ = _; rw [unhide HD, if_pos (.inl h5)]
      clear HD
      generalize sumF n v i f r = sm at *
      go_enter Tryz.func5, Tryz.ntmps5
      go_wp2
      go_ret
      exact ⟨ret_int (unhide HN), Gr.one w _⟩
    · by_cases h10 : 10 < a.length
      · have HN : Hid (-1 = fewW (.mk c n v i a f hi hf r d kids) k) := by show _ = _; rw [unhide HD, if_pos (.inr (.inl h10))]
        have z10 : (10 : Int) < (a.length : Int) := by omega
        clear HD
        generalize sumF n v i f r = sm at *
        go_enter Tryz.func5, Tryz.ntmps5
        go_wp2
        go_ret
        exact ⟨ret_int (unhide HN), Gr.one w _⟩
      · have z10 : ¬ (10 : Int) < (a.length : Int) := by omega
        have HD2 : Hid (∀ b, (a.all fun t => decide (t.size ≤ 1000)) = b → fewW (.mk c n v i a f hi hf r d kids) k = if b then fewW.L kids (k - 1) else -1) := by
          intro b hb
          rw [unhide HD, hb]
          cases b
          · rw [if_pos (.inr (.inr rfl))]; rfl
          · rw [if_neg (fun h => h.elim h5 (fun h => h.elim h10 (fun h => Bool.noConfusion h)))]; rfl
        have HA := hide ht
        have HG := hide (Gr.one w (.cells (cFl c n v i a1 a.length c1 f hi hf r d a2 kids.length c2) 27))
        clear HD ht
        generalize sumF n v i f r = sm at *
        go_enter Tryz.func5, Tryz.ntmps5
        go_wp2
        go_loop [6] (fun vj => ∃ j : Nat, j ≤ a.length ∧ vj = .int .i64 (j : Int) ∧ Hid ((a.all fun t => decide (t.size ≤ 1000)) = ((a.drop j).all fun t => decide (t.size ≤ 1000)))) (fun vj => a.length - (intOf vj).toNat)
        case atStart => exact ⟨0, Nat.zero_le _, rfl, rfl⟩
        case round =>
          obtain ⟨j, hj, rfl, HT⟩ := hrel
          by_cases hlt : j < a.length
          · have y1 : (j : Int) < (a.length : Int) := by omega
            have y0 : (0 : Int) ≤ (j : Int) := by omega
            obtain ⟨g, off, rfl, k1⟩ := (unhide HA).at hlt
            have k1 := (unhide HG).cell k1
            have hq := all_dropW (fun t => decide (t.size ≤ 1000)) a j hlt
            generalize a.getD j ⟨#[]⟩ = tx at *
            by_cases hz : 1000 < tx.size
            · have zt : (1000 : Int) < (tx.size : Int) := by omega
              have HN : Hid (-1 = fewW (.mk c n v i a f hi hf r d kids) k) := by
                show _ = _
                rw [unhide HD2 false (by rw [unhide HT, hq, decide_eq_false (by omega)]; rfl)]
                rfl
              clear HT HD2 hq hz
              go_wp2
              go_ret
              exact ⟨ret_int (unhide HN), Gr.one w _⟩
            · have zt : ¬ (1000 : Int) < (tx.size : Int) := by omega
              have HN : Hid ((a.all fun t => decide (t.size ≤ 1000)) = ((a.drop (j + 1)).all fun t => decide (t.size ≤ 1000))) := by
                show _ = _
                rw [unhide HT, hq, decide_eq_true (by omega)]
                rfl
              clear HT hq hz
              go_wp2
              go_round
              case rel => exact ⟨j + 1, by omega, by go_num, unhide HN⟩
              case measure => simp [intOf]; omega
          · have y1 : ¬ (j : Int) < (a.length : Int) := by omega
            have HE0 : Hid (fewW (.mk c n v i a f hi hf r d kids) k = fewW.L kids (k - 1)) := by
              show _ = _
              rw [unhide HD2 true (by rw [unhide HT, List.drop_eq_nil_of_le (by omega)]; rfl)]
              rfl
            clear HT HD2
            go_wp2
            go_loopw [1, 7] (fun vx vi wr => ∃ (j : Nat) (x : Int), j ≤ kids.length ∧ vi = .int .i64 (j : Int) ∧ vx = .int .i64 x ∧ -1 ≤ x ∧ x ≤ 1000 ∧ Hid (fewW.L kids (k - 1) = fewW.L (kids.drop j) x) ∧ Gr (w.alloc (.cells (cFl c n v i a1 a.length c1 f hi hf r d a2 kids.length c2) 27)) wr) (fun _ j _ => kids.length - (intOf j).toNat)
            case atStart => exact ⟨0, k - 1, Nat.zero_le _, rfl, rfl, by omega, by omega, rfl, Gr.refl _⟩
            case round =>
              obtain ⟨j, x, hj, rfl, rfl, x0, x1, HB, hnx⟩ := hrel
              obtain ⟨b0, b1, b2, b3, b4, b5, b6, b7, b8, b9, b10⟩ := box11 hnx
              by_cases hgo : j < kids.length ∧ 0 ≤ x
              · obtain ⟨hlt, hx0⟩ := hgo
                have hzl : (j : Int) < (kids.length : Int) := by omega
                have hz0 : (0 : Int) ≤ (j : Int) := by omega
                have gw := (Gr.one w _).trans hnx
                obtain ⟨g, off, rfl, hl⟩ := (unhide HL).resolve_left (by omega)
                obtain ⟨x_0, x_1, x_2, x_3, x_4, x_5, x_6, x_7, x_8, x_9, x_10, q0, q1, q2, q3, q4, q5, q6, q7, q8, q9, q10, hv⟩ := hl.get j hlt
                have p0 := gw.cell q0
                have p1 := gw.cell q1
                have p2 := gw.cell q2
                have p3 := gw.cell q3
                have p4 := gw.cell q4
                have p5 := gw.cell q5
                have p6 := gw.cell q6
                have p7 := gw.cell q7
                have p8 := gw.cell q8
                have p9 := gw.cell q9
                have p10 := gw.cell q10
                have CI := unhide HIH _ (getD_memF kids j hlt) x _ wr (hv.grow gw.below) hx0 x1
                have HS := hide (fewL_drop kids j x hlt)
                obtain ⟨y0, y1⟩ := fewW_in (kids.getD j fl0) x hx0 x1
                clear q0 q1 q2 q3 q4 q5 q6 q7 q8 q9 q10 hv hl
                generalize fewW (kids.getD j fl0) x = y at *
                go_wp2_with (go_at_call 5; refine CI.mono ?_; rintro e w2 ⟨rfl, g2⟩)
                go_roundw
                case rel => exact ⟨j + 1, y, by omega, by go_num, rfl, y0, y1, (by show _ = _; rw [unhide HB, unhide HS, if_pos hx0]), hnx.trans g2⟩
                case measure => simp [intOf]; omega
              · have gw := (Gr.one w _).trans hnx
                have HE : Hid (x = fewW (.mk c n v i a f hi hf r d kids) k) := by
                  show _ = _
                  rw [unhide HE0, unhide HB]
                  by_cases hlt : j < kids.length
                  · rw [fewL_drop kids j x hlt, if_neg (fun h => hgo ⟨hlt, h⟩)]
                  · rw [List.drop_eq_nil_of_le (by omega)]; simp only [fewW.L]
                by_cases hlt : j < kids.length
                · have hzl : (j : Int) < (kids.length : Int) := by omega
                  have zx : ¬ 0 ≤ x := fun h => hgo ⟨hlt, h⟩
                  clear HIH HL HE0 HB
                  go_wp2
                  go_ret
                  exact ⟨ret_int (unhide HE), gw⟩
                · have hzl : ¬ (j : Int) < (kids.length : Int) := by omega
                  clear HIH HL HE0 HB
                  go_wp2
                  go_ret
                  exact ⟨ret_int (unhide HE), gw⟩
end Go.Proofs.YthbldkkjjjmegaaGreatDoor
/- The document's Same of layer 24. (By gen_sm.py.) -/
namespace Go.Proofs.YthbldkkjjjmegaaGreatDoor
set_option maxRecDepth 100000
open Go.RowKit

theorem sameL_len : ∀ (l m : List Fl), l.length ≠ m.length → sameF.L l m = false := fun l m h => by
  cases hs : sameF.L l m
  · rfl
  · exact absurd ((sameF_iff.L l m).1 hs) (fun e => h (by rw [e]))
theorem sameL_drop (l m : List Fl) (j : Nat) (h : j < l.length) (h' : j < m.length) : sameF.L (l.drop j) (m.drop j) = (sameF (l.getD j fl0) (m.getD j fl0) && sameF.L (l.drop (j + 1)) (m.drop (j + 1))) := by rw [drop_consF l j h, drop_consF m j h']; simp only [sameF.L]
theorem box11b {w w2 : World} {o : Obj} {a0 a1 a2 a3 a4 a5 a6 a7 a8 a9 a10 : Value} {T : TypeId} (h : Gr ((w.alloc o).alloc (.cells #[a0, a1, a2, a3, a4, a5, a6, a7, a8, a9, a10] T)) w2) : w2.cell? ⟨w.heap.size + 1, 10, none⟩ = some a10 := by
  refine h.cell ?_
  simp
set_option maxHeartbeats 6400000 in
theorem rsame24_any (e : Fl) : ∀ (e' : Fl) (x x' : Value) (w : World), FlV w e x → FlV w e' x' → Calls Tryz.prog 17 #[x, x'] w fun y w' => y = .returned (.bool (sameF e e')) ∧ Gr w w' := by
  have mx : Tryz.prog.follows .mixedOrders = true := by kernel_rfl
  induction e using Fl.ind with
  | h k n v i a f hi hf r d kids ih =>
    intro e' x x' w hV hV'
    obtain ⟨k', n', v', i', a', f', hi', hf', r', d', kids'⟩ := e'
    simp only [FlV] at hV hV'
    obtain ⟨a1, c1, a2, c2, rfl, ht, hn, hc⟩ := hV
    obtain ⟨a1', c1', a2', c2', rfl, ht', hn', hc'⟩ := hV'
    have g0 : Gr w ((w.alloc (.cells (cFl k n v i a1 a.length c1 f hi hf r d a2 kids.length c2) 27)).alloc (.cells (cFl k' n' v' i' a1' a'.length c1' f' hi' hf' r' d' a2' kids'.length c2') 27)) := (Gr.one w _).alloc _
    have HD : Hid (sameF (.mk k n v i a f hi hf r d kids) (.mk k' n' v' i' a' f' hi' hf' r' d' kids') = (decide (k = k' ∧ n = n' ∧ v = v' ∧ r = r' ∧ d = d') && (smP i a f hi hf i' a' f' hi' hf' && sameF.L kids kids'))) := by
      show _ = _
      simp only [sameF, smP]
      rw [Bool.eq_iff_iff]
      simp only [Bool.and_eq_true, decide_eq_true_eq]
      constructor
      · rintro ⟨⟨h1, h2, h3, h4, h5, h6⟩, h7⟩
        exact ⟨⟨h1, h2, h3, h4, h5⟩, h6, h7⟩
      · rintro ⟨⟨h1, h2, h3, h4, h5⟩, h6, h7⟩
        exact ⟨⟨h1, h2, h3, h4, h5, h6⟩, h7⟩
    have HIH := hide ih
    have HC := hide hc
    have HC' := hide hc'
    have CP : Hid (∀ W, Gr w W → _) := fun W (hW : Gr w W) => rsame13_any i f i' f' hi hf hi' hf' a a' a1 a1' c1 c1' W (ht.below hW.below) (ht'.below hW.below)
    clear ih hc hc' ht ht'
    by_cases e0 : ¬ k = k'
    · have qk : (k == k') = false := by rw [beq_eq_false_iff_ne]; exact e0
      have HE : Hid (false = sameF (.mk k n v i a f hi hf r d kids) (.mk k' n' v' i' a' f' hi' hf' r' d' kids')) := by
        show _ = _
        rw [unhide HD, decide_eq_false (fun h => e0 h.1)]
        rfl
      clear HD HIH HC HC' CP
      go_enter Tryz.func17, Tryz.ntmps17
      go_wp2
      go_ret
      exact ⟨ret_bool (unhide HE), g0⟩
    obtain rfl : k = k' := Classical.not_not.1 e0
    have qk : (k == k) = true := by simp
    clear e0
    by_cases e0 : ¬ n = n'
    · have qn := txt_no e0
      have HE : Hid (false = sameF (.mk k n v i a f hi hf r d kids) (.mk k n' v' i' a' f' hi' hf' r' d' kids')) := by
        show _ = _
        rw [unhide HD, decide_eq_false (fun h => e0 h.2.1)]
        rfl
      clear HD HIH HC HC' CP
      go_enter Tryz.func17, Tryz.ntmps17
      go_wp2
      go_ret
      exact ⟨ret_bool (unhide HE), g0⟩
    obtain rfl : n = n' := Classical.not_not.1 e0
    have qn := txt_yes n
    clear e0
    by_cases e0 : ¬ v = v'
    · have qv := txt_no e0
      have HE : Hid (false = sameF (.mk k n v i a f hi hf r d kids) (.mk k n v' i' a' f' hi' hf' r' d' kids')) := by
        show _ = _
        rw [unhide HD, decide_eq_false (fun h => e0 h.2.2.1)]
        rfl
      clear HD HIH HC HC' CP
      go_enter Tryz.func17, Tryz.ntmps17
      go_wp2
      go_ret
      exact ⟨ret_bool (unhide HE), g0⟩
    obtain rfl : v = v' := Classical.not_not.1 e0
    have qv := txt_yes v
    clear e0
    by_cases e0 : ¬ r = r'
    · have qr := txt_no e0
      have HE : Hid (false = sameF (.mk k n v i a f hi hf r d kids) (.mk k n v i' a' f' hi' hf' r' d' kids')) := by
        show _ = _
        rw [unhide HD, decide_eq_false (fun h => e0 h.2.2.2.1)]
        rfl
      clear HD HIH HC HC' CP
      go_enter Tryz.func17, Tryz.ntmps17
      go_wp2
      go_ret
      exact ⟨ret_bool (unhide HE), g0⟩
    obtain rfl : r = r' := Classical.not_not.1 e0
    have qr := txt_yes r
    clear e0
    by_cases e0 : ¬ d = d'
    · have qd := beq_no e0
      have HE : Hid (false = sameF (.mk k n v i a f hi hf r d kids) (.mk k n v i' a' f' hi' hf' r d' kids')) := by
        show _ = _
        rw [unhide HD, decide_eq_false (fun h => e0 h.2.2.2.2)]
        rfl
      clear HD HIH HC HC' CP
      go_enter Tryz.func17, Tryz.ntmps17
      go_wp2
      go_ret
      exact ⟨ret_bool (unhide HE), g0⟩
    obtain rfl : d = d' := Classical.not_not.1 e0
    have qd : (d == d) = true := by simp
    clear e0
    have HD1 : Hid (sameF (.mk k n v i a f hi hf r d kids) (.mk k n v i' a' f' hi' hf' r d kids') = (smP i a f hi hf i' a' f' hi' hf' && sameF.L kids kids')) := by
      show _ = _
      rw [unhide HD, decide_eq_true ⟨rfl, rfl, rfl, rfl, rfl⟩]
      rfl
    clear HD
    cases hsm : smP i a f hi hf i' a' f' hi' hf'
    · have HE : Hid (false = sameF (.mk k n v i a f hi hf r d kids) (.mk k n v i' a' f' hi' hf' r d kids')) := by show _ = _; rw [unhide HD1, hsm]; rfl
      clear HD1 HIH HC HC'
      go_enter Tryz.func17, Tryz.ntmps17
      go_wp2_with (go_at_call 29; refine (unhide CP _ g0).mono ?_; rw [hsm]; rintro e w2 ⟨rfl, g2⟩; obtain ⟨b0, b1, b2, b3, b4, b5, b6, b7, b8, b9, b10⟩ := box11 ((Gr.one _ _).trans g2); have z10 := box11b g2)
      go_ret
      exact ⟨ret_bool (unhide HE), g0.trans g2⟩
    · by_cases hl : kids.length ≠ kids'.length
      · have zl : ((kids.length : Int) == (kids'.length : Int)) = false := by rw [beq_eq_false_iff_ne]; omega
        have HE : Hid (false = sameF (.mk k n v i a f hi hf r d kids) (.mk k n v i' a' f' hi' hf' r d kids')) := by show _ = _; rw [unhide HD1, hsm, sameL_len _ _ hl]; rfl
        clear HD1 HIH HC HC' hl
        go_enter Tryz.func17, Tryz.ntmps17
        go_wp2_with (go_at_call 29; refine (unhide CP _ g0).mono ?_; rw [hsm]; rintro e w2 ⟨rfl, g2⟩; obtain ⟨b0, b1, b2, b3, b4, b5, b6, b7, b8, b9, b10⟩ := box11 ((Gr.one _ _).trans g2); have z10 := box11b g2)
        go_ret
        exact ⟨ret_bool (unhide HE), g0.trans g2⟩
      · replace hl : kids'.length = kids.length := by omega
        rw [hl] at g0 HC' ⊢
        have HL := hide hl
        have zl : ((kids.length : Int) == (kids.length : Int)) = true := by simp
        have HE1 : Hid (∀ b, sameF.L kids kids' = b → b = sameF (.mk k n v i a f hi hf r d kids) (.mk k n v i' a' f' hi' hf' r d kids')) := by intro b hb; rw [unhide HD1, hsm, hb]; rfl
        clear HD1 hl hn'
        go_enter Tryz.func17, Tryz.ntmps17
        go_wp2_with (go_at_call 29; refine (unhide CP _ g0).mono ?_; rw [hsm]; rintro e w2 ⟨rfl, g2⟩; obtain ⟨b0, b1, b2, b3, b4, b5, b6, b7, b8, b9, b10⟩ := box11 ((Gr.one _ _).trans g2); have z10 := box11b g2)
        have gb := g0.trans g2
        have HB10 := hide b10
        have HZ10 := hide z10
        clear g0 g2 CP b0 b1 b2 b3 b4 b5 b6 b7 b8 b9 b10 z10
        go_loopw [5] (fun vj wr => ∃ j : Nat, j ≤ kids.length ∧ vj = .int .i64 (j : Int) ∧ Hid (sameF.L kids kids' = sameF.L (kids.drop j) (kids'.drop j)) ∧ Gr w2 wr) (fun j _ => kids.length - (intOf j).toNat)
        case atStart => exact ⟨0, Nat.zero_le _, rfl, rfl, Gr.refl _⟩
        case round =>
          obtain ⟨j, hj, rfl, HB, hnx⟩ := hrel
          have gw := gb.trans hnx
          have y1 := hnx.cell (unhide HB10)
          have y2 := hnx.cell (unhide HZ10)
          by_cases hlt : j < kids.length
          · have hzl : (j : Int) < (kids.length : Int) := by omega
            have hz0 : (0 : Int) ≤ (j : Int) := by omega
            obtain ⟨g, off, rfl, hl⟩ := (unhide HC).resolve_left (by omega)
            obtain ⟨g', off', rfl, hl'⟩ := (unhide HC').resolve_left (by omega)
            have u1 := cell_gr y1
            have u2 := cell_gr y2
            obtain ⟨x0, x1, x2, x3, x4, x5, x6, x7, x8, x9, x10, q0, q1, q2, q3, q4, q5, q6, q7, q8, q9, q10, hv⟩ := hl.get j hlt
            obtain ⟨z0, z1, z2, z3, z4, z5, z6, z7, z8, z9, z10, p0, p1, p2, p3, p4, p5, p6, p7, p8, p9, p10, hv'⟩ := hl'.get j (by rw [unhide HL]; exact hlt)
            replace q0 := cell_gr (gw.cell q0)
            replace p0 := cell_gr (gw.cell p0)
            replace q1 := cell_gr (gw.cell q1)
            replace p1 := cell_gr (gw.cell p1)
            replace q2 := cell_gr (gw.cell q2)
            replace p2 := cell_gr (gw.cell p2)
            replace q3 := cell_gr (gw.cell q3)
            replace p3 := cell_gr (gw.cell p3)
            replace q4 := cell_gr (gw.cell q4)
            replace p4 := cell_gr (gw.cell p4)
            replace q5 := cell_gr (gw.cell q5)
            replace p5 := cell_gr (gw.cell p5)
            replace q6 := cell_gr (gw.cell q6)
            replace p6 := cell_gr (gw.cell p6)
            replace q7 := cell_gr (gw.cell q7)
            replace p7 := cell_gr (gw.cell p7)
            replace q8 := cell_gr (gw.cell q8)
            replace p8 := cell_gr (gw.cell p8)
            replace q9 := cell_gr (gw.cell q9)
            replace p9 := cell_gr (gw.cell p9)
            replace q10 := cell_gr (gw.cell q10)
            replace p10 := cell_gr (gw.cell p10)
            have HQ := hide (sameL_drop kids kids' j hlt (by rw [unhide HL]; exact hlt))
            cases hsf : sameF (kids.getD j fl0) (kids'.getD j fl0)
            · have HN := hide (unhide HE1 false (by rw [unhide HB, unhide HQ, hsf]; rfl))
              have CI : Hid (∀ (nn : Nat) (os : Array Obj), Calls Tryz.prog 17 #[.agg #[x0, x1, x2, x3, x4, x5, x6, x7, x8, x9, x10], .agg #[z0, z1, z2, z3, z4, z5, z6, z7, z8, z9, z10]] (Go.Sort.grow (wr.drewN nn) os) fun y w' => y = .returned (.bool false) ∧ Gr (Go.Sort.grow (wr.drewN nn) os) w') := fun nn os => by
                have := unhide HIH _ (getD_memF kids j hlt) (kids'.getD j fl0) _ _ _ (hv.grow (gw.grow nn os).below) (hv'.grow (gw.grow nn os).below)
                rwa [hsf] at this
              clear hv hv' hl hl' HQ HB HE1 HIH hsf
              go_wp2
              refine wp_region_quiet_grown (by first | exact mx | assumption) (by kernel_rfl) ?_
              repeat (go_big_quiet_step ((go_at_call 17; exact callsGr (unhide CI _ _))))
              refine wpQuiet_nil ?_
              intro _ hw'
              obtain ⟨⟨nq, osq⟩, hw''⟩ := hw'
              subst hw''
              go_wp2
              go_ret
              exact ⟨ret_bool (unhide HN), gw.grow _ _⟩
            · have HN : Hid (sameF.L kids kids' = sameF.L (kids.drop (j + 1)) (kids'.drop (j + 1))) := by show _ = _; rw [unhide HB, unhide HQ, hsf]; rfl
              have CI : Hid (∀ (nn : Nat) (os : Array Obj), Calls Tryz.prog 17 #[.agg #[x0, x1, x2, x3, x4, x5, x6, x7, x8, x9, x10], .agg #[z0, z1, z2, z3, z4, z5, z6, z7, z8, z9, z10]] (Go.Sort.grow (wr.drewN nn) os) fun y w' => y = .returned (.bool true) ∧ Gr (Go.Sort.grow (wr.drewN nn) os) w') := fun nn os => by
                have := unhide HIH _ (getD_memF kids j hlt) (kids'.getD j fl0) _ _ _ (hv.grow (gw.grow nn os).below) (hv'.grow (gw.grow nn os).below)
                rwa [hsf] at this
              clear hv hv' hl hl' HQ HB HE1 HIH hsf
              go_wp2
              refine wp_region_quiet_grown (by first | exact mx | assumption) (by kernel_rfl) ?_
              repeat (go_big_quiet_step ((go_at_call 17; exact callsGr (unhide CI _ _))))
              refine wpQuiet_nil ?_
              intro _ hw'
              obtain ⟨⟨nq, osq⟩, hw''⟩ := hw'
              subst hw''
              go_wp2
              go_roundw
              case rel => exact ⟨j + 1, by omega, by go_num, unhide HN, hnx.grow _ _⟩
              case measure => simp [intOf]; omega
          · have hzl : ¬ (j : Int) < (kids.length : Int) := by omega
            have HN := hide (unhide HE1 true (by rw [unhide HB, List.drop_eq_nil_of_le (by omega), List.drop_eq_nil_of_le (by rw [unhide HL]; omega)]; simp only [sameF.L]))
            clear HB HE1 HIH
            go_wp2
            go_ret
            exact ⟨ret_bool (unhide HN), gw⟩
end Go.Proofs.YthbldkkjjjmegaaGreatDoor
