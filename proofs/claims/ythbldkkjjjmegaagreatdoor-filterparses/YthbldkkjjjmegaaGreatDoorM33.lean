/- The landed ContainsFunc over kids, fits, Check of layer 24. (By gen_fu.py.) -/
import Derived.Test.YthbldkkjjjmegaaGreatDoorM21
import Derived.Test.YthbldkkjjjmegaaGreatDoorM06
import Derived.RegionTactic
import Derived.ChangeAlike
namespace Go.Proofs.YthbldkkjjjmegaaGreatDoor
set_option maxRecDepth 100000
open Go.RowKit

/-- That each kid is asked. -/
def FitOf (e : Fl) : Prop := ∀ (x : Value) (w : World), FlV w e x → smF e → Calls Tryz.prog 21 #[x] w fun y w' => y = .returned (.bool (allF e)) ∧ Gr w w'
theorem unfit_any (e : Fl) (he : FitOf e) (x : Value) (w : World) (hV : FlV w e x) (hS : smF e) : Calls Tryz.prog 40 #[x] w fun y w' => y = .returned (.bool (!allF e)) ∧ Gr w w' := by
  obtain ⟨x1, y1, x2, y2, hv, -, -, -⟩ := hV.open
  have H := hide (fun (W : World) (g : Gr w W) => he x W (hV.grow g.below) hS)
  have g0 := Gr.one w (.cells (cFl e.kin e.nam e.val e.ini x1 e.any.length y1 e.fin e.hi e.hf e.rul e.dn x2 e.kids.length y2) 27)
  clear hV
  subst hv
  generalize allF e = b at *
  go_enter Tryz.func40, Tryz.ntmps40
  go_wp2_with (go_at_call 21; refine (unhide H _ g0).mono ?_; rintro e w2 ⟨rfl, g2⟩)
  go_ret
  exact ⟨rfl, g0.trans g2⟩
theorem allL_no (l : List Fl) (j : Nat) (h : j < l.length) (ha : allF (l.getD j fl0) = false) : allF.L l = false := by
  cases hb : allF.L l
  · rfl
  · have := allL_mem l hb _ (getD_memF l j h)
    rw [ha] at this
    cases this
set_option maxRecDepth 4000 in
set_option maxHeartbeats 6400000 in
theorem findf_any (l : List Fl) (IH : ∀ e, e ∈ l → FitOf e) (hS : smF.L l) (a2 : Option Addr) (c2 : Nat) (w : World) (hn : l.length ≤ 9223372036854775807) (hc : l.length = 0 ∨ ∃ g off, a2 = some ⟨g, off, none⟩ ∧ FlV.L w l g off) :
    Calls Tryz.prog 55 #[.slice a2 l.length c2, .func (.func 40) #[] #[]] w fun y w' => (∃ k : Int, y = .returned (.int .i64 k) ∧ decide (0 ≤ k) = !allF.L l) ∧ Gr w w' := by
  have eg : ∀ args w, (callFunc 40 args).run Tryz.prog w = .ok (.enter 40 args) w := enters_of Tryz.func40 (by kernel_rfl) rfl
  have HIH := hide IH
  have HC := hide hc
  have HS := hide hS
  have HD : Hid (∀ (k : Int) (b : Bool), allF.L l = b → decide (0 ≤ k) = !b → decide (0 ≤ k) = !allF.L l) := fun k b h h2 => by rw [h]; exact h2
  have HN := hide (allL_no l)
  have HA : Hid (allF.L l = allF.L (l.drop 0)) := rfl
  clear IH hc hS
  go_enter Tryz.func55, Tryz.ntmps55
  go_wp2
  go_loopw [8] (fun i wr => ∃ j : Nat, j ≤ l.length ∧ i = .int .i64 j ∧ Hid (allF.L l = allF.L (l.drop j)) ∧ Gr w wr) (fun i _ => l.length - (intOf i).toNat)
  case atStart => exact ⟨0, Nat.zero_le _, rfl, rfl, Gr.refl _⟩
  case round =>
    obtain ⟨j, hj, rfl, HB, gw⟩ := hrel
    by_cases hlt : j < l.length
    · have hzl : (j : Int) < (l.length : Int) := by omega
      have hz0 : (0 : Int) ≤ (j : Int) := by omega
      obtain ⟨g, off, rfl, hl⟩ := (unhide HC).resolve_left (by omega)
      obtain ⟨x1, y1, x2, y2, q0, q1, q2, q3, q4, q5, q6, q7, q8, q9, q10, hv⟩ := flat_at hl j hlt
      replace q0 := gw.cell q0
      replace q1 := gw.cell q1
      replace q2 := gw.cell q2
      replace q3 := gw.cell q3
      replace q4 := gw.cell q4
      replace q5 := gw.cell q5
      replace q6 := gw.cell q6
      replace q7 := gw.cell q7
      replace q8 := gw.cell q8
      replace q9 := gw.cell q9
      replace q10 := gw.cell q10
      have CI : Hid (∀ W : World, Gr wr W → _) := fun W (g : Gr wr W) => unfit_any _ (unhide HIH _ (getD_memF l j hlt)) _ W (hv.grow (gw.trans g).below) ((unhide HS).get j hlt)
      have HQ := hide (allL_drop l j hlt)
      have HNJ := hide (unhide HN j hlt)
      clear hv hl
      generalize l.getD j fl0 = e at *
      cases hb : allF e
      · rw [hb] at CI
        have HE := hide (unhide HNJ hb)
        clear hb HQ HNJ HB HA HN
        go_wp2_with (refine (unhide CI _ (Gr.refl _)).mono ?_; rintro e w3 ⟨rfl, g3⟩)
        go_ret
        exact ⟨⟨_, rfl, unhide HD _ false (unhide HE) (decide_eq_true hz0)⟩, gw.trans g3⟩
      · rw [hb] at CI
        have HE : Hid (allF.L l = allF.L (l.drop (j + 1))) := by show _ = _; rw [unhide HB, unhide HQ, hb]; rfl
        clear hb HQ HNJ HB HA
        go_wp2_with (refine (unhide CI _ (Gr.refl _)).mono ?_; rintro e w3 ⟨rfl, g3⟩)
        go_roundw
        case rel => exact ⟨j + 1, by omega, by go_num, unhide HE, gw.trans g3⟩
        case measure => simp [intOf]; omega
    · have hzl : ¬ (j : Int) < (l.length : Int) := by omega
      have HE : Hid (allF.L l = true) := by show _ = _; rw [unhide HB, List.drop_eq_nil_of_le (by omega)]; simp only [allF.L]
      clear HB HA HN
      go_wp2
      go_ret
      exact ⟨⟨_, rfl, unhide HD _ true (unhide HE) (by decide)⟩, gw⟩
theorem hasf_any (l : List Fl) (IH : ∀ e, e ∈ l → FitOf e) (hS : smF.L l) (a2 : Option Addr) (c2 : Nat) (w : World) (hn : l.length ≤ 9223372036854775807) (hc : l.length = 0 ∨ ∃ g off, a2 = some ⟨g, off, none⟩ ∧ FlV.L w l g off) :
    Calls Tryz.prog 39 #[.slice a2 l.length c2, .func (.func 40) #[] #[]] w fun y w' => y = .returned (.bool (!allF.L l)) ∧ Gr w w' := by
  have H := hide (findf_any l IH hS a2 c2 w hn hc)
  clear IH hS hc
  generalize allF.L l = b at *
  go_enter Tryz.func39, Tryz.ntmps39
  go_wp2_with (go_at_call 55; refine (unhide H).mono ?_; rintro e w2 ⟨⟨k, rfl, hk⟩, g2⟩)
  go_ret
  exact ⟨rfl, g2⟩
/-! What fits asks besides. -/

theorem ok_grp {k : Int} {n v i : ByteArray} {a : List ByteArray} {f : ByteArray} {hi hf : Bool} {r : ByteArray} {d : Bool} {kids : List Fl} (hk : k = 0 ∨ k = 1) : allF (Fl.mk k n v i a f hi hf r d kids) = (true && (sameF (Fl.mk k n v i a f hi hf r d kids) (Fl.mk k ⟨#[]⟩ ⟨#[]⟩ ⟨#[]⟩ [] ⟨#[]⟩ false false ⟨#[]⟩ false kids) && allF.L kids)) := by
  simp only [allF]
  unfold oneF oneQ
  rw [Bool.eq_iff_iff]
  simp only [Bool.and_eq_true, sameF_iff, Fl.mk.injEq, true_and, and_true]
  have hE : (⟨#[]⟩ : ByteArray) = ByteArray.empty := rfl
  rw [hE]
  unfold barF smP 
  rw [if_pos hk]
  simp only [Bool.and_eq_true, Bool.or_eq_true, Bool.not_eq_true', decide_eq_true_eq]
  constructor
  · rintro ⟨h0, h1, h2, h3, h4⟩; simp_all
  · rintro ⟨h1, h2⟩; simp_all

theorem ok_not {k : Int} {n v i : ByteArray} {a : List ByteArray} {f : ByteArray} {hi hf : Bool} {r : ByteArray} {d : Bool} {kids : List Fl} (hk : k = 2) : allF (Fl.mk k n v i a f hi hf r d kids) = ((decide (kids.length = 1)) && (sameF (Fl.mk k n v i a f hi hf r d kids) (Fl.mk k ⟨#[]⟩ ⟨#[]⟩ ⟨#[]⟩ [] ⟨#[]⟩ false false ⟨#[]⟩ false kids) && allF.L kids)) := by
  simp only [allF]
  unfold oneF oneQ
  rw [Bool.eq_iff_iff]
  simp only [Bool.and_eq_true, sameF_iff, Fl.mk.injEq, true_and, and_true]
  have hE : (⟨#[]⟩ : ByteArray) = ByteArray.empty := rfl
  rw [hE]
  unfold barF smP 
  rw [if_neg (by omega), if_pos hk]
  simp only [Bool.and_eq_true, Bool.or_eq_true, Bool.not_eq_true', decide_eq_true_eq]
  constructor
  · rintro ⟨h0, ⟨h1, h2, h3, h4⟩, h5⟩; simp_all
  · rintro ⟨h1, h2, h3⟩; simp_all

theorem ok_val {k : Int} {n v i : ByteArray} {a : List ByteArray} {f : ByteArray} {hi hf : Bool} {r : ByteArray} {d : Bool} {kids : List Fl} (hk : k = 3 ∨ k = 5 ∨ k = 6 ∨ k = 8) : allF (Fl.mk k n v i a f hi hf r d kids) = ((wrdB (nums n) && decide (v.size ≤ 400)) && (sameF (Fl.mk k n v i a f hi hf r d kids) (Fl.mk k n v ⟨#[]⟩ [] ⟨#[]⟩ false false ⟨#[]⟩ false []) && allF.L kids)) := by
  simp only [allF]
  unfold oneF oneQ
  rw [Bool.eq_iff_iff]
  simp only [Bool.and_eq_true, sameF_iff, Fl.mk.injEq, true_and]
  have hE : (⟨#[]⟩ : ByteArray) = ByteArray.empty := rfl
  rw [hE]
  unfold barF smP 
  rw [if_neg (by omega), if_neg (by omega)]
  by_cases hb : kids.length ≠ 0 ∨ decide (400 < v.size) = true
  · rw [if_pos hb]
    constructor
    · rintro ⟨_, h⟩; cases h
    · rintro h
      exfalso
      rcases hb with hb | hb
      · exact hb (by rw [h.2.1.2.2.2.2.2.2.2]; rfl)
      · rw [decide_eq_true_eq] at hb
        have := h.1.2; rw [decide_eq_true_eq] at this; omega
  · rw [if_neg hb, if_pos hk]
    have hl : kids = [] := List.length_eq_zero_iff.1 (Classical.not_not.1 fun h => hb (.inl h))
    have hv : v.size ≤ 400 := by
      have : ¬ decide (400 < v.size) = true := fun h => hb (.inr h)
      rw [decide_eq_true_eq] at this
      omega
    subst hl
    simp only [Bool.and_eq_true, Bool.or_eq_true, Bool.not_eq_true', decide_eq_true_eq, allF.L]
    constructor
    · intro h; simp_all
    · intro h; simp_all

theorem ok_pre {k : Int} {n v i : ByteArray} {a : List ByteArray} {f : ByteArray} {hi hf : Bool} {r : ByteArray} {d : Bool} {kids : List Fl} (hk : k = 7) : allF (Fl.mk k n v i a f hi hf r d kids) = ((wrdB (nums n)) && (sameF (Fl.mk k n v i a f hi hf r d kids) (Fl.mk k n ⟨#[]⟩ ⟨#[]⟩ [] ⟨#[]⟩ false false ⟨#[]⟩ false []) && allF.L kids)) := by
  simp only [allF]
  unfold oneF oneQ
  rw [Bool.eq_iff_iff]
  simp only [Bool.and_eq_true, sameF_iff, Fl.mk.injEq, true_and]
  have hE : (⟨#[]⟩ : ByteArray) = ByteArray.empty := rfl
  rw [hE]
  unfold barF smP 
  rw [if_neg (by omega), if_neg (by omega)]
  by_cases hb : kids.length ≠ 0 ∨ decide (400 < v.size) = true
  · rw [if_pos hb]
    constructor
    · rintro ⟨_, h⟩; cases h
    · rintro h
      exfalso
      rcases hb with hb | hb
      · exact hb (by rw [h.2.1.2.2.2.2.2.2.2.2]; rfl)
      · rw [decide_eq_true_eq] at hb
        have := h.2.1.1; rw [this] at hb; simp at hb
  · rw [if_neg hb, if_neg (by omega), if_pos hk]
    have hl : kids = [] := List.length_eq_zero_iff.1 (Classical.not_not.1 fun h => hb (.inl h))
    have hv : v.size ≤ 400 := by
      have : ¬ decide (400 < v.size) = true := fun h => hb (.inr h)
      rw [decide_eq_true_eq] at this
      omega
    subst hl
    simp only [Bool.and_eq_true, Bool.or_eq_true, Bool.not_eq_true', decide_eq_true_eq, allF.L]
    constructor
    · intro h; simp_all
    · intro h; simp_all

theorem ok_sub {k : Int} {n v i : ByteArray} {a : List ByteArray} {f : ByteArray} {hi hf : Bool} {r : ByteArray} {d : Bool} {kids : List Fl} (hk : k = 4) : allF (Fl.mk k n v i a f hi hf r d kids) = ((wrdB (nums n) && finPc i a f hi hf) && (sameF (Fl.mk k n v i a f hi hf r d kids) (Fl.mk k n ⟨#[]⟩ i a f hi hf ⟨#[]⟩ false []) && allF.L kids)) := by
  simp only [allF]
  unfold oneF oneQ
  rw [Bool.eq_iff_iff]
  simp only [Bool.and_eq_true, sameF_iff, Fl.mk.injEq, true_and]
  have hE : (⟨#[]⟩ : ByteArray) = ByteArray.empty := rfl
  rw [hE]
  unfold barF smP 
  rw [if_neg (by omega), if_neg (by omega)]
  by_cases hb : kids.length ≠ 0 ∨ decide (400 < v.size) = true
  · rw [if_pos hb]
    constructor
    · rintro ⟨_, h⟩; cases h
    · rintro h
      exfalso
      rcases hb with hb | hb
      · exact hb (by rw [h.2.1.2.2.2]; rfl)
      · rw [decide_eq_true_eq] at hb
        have := h.2.1.1; rw [this] at hb; simp at hb
  · rw [if_neg hb, if_neg (by omega), if_neg (by omega), if_pos hk]
    have hl : kids = [] := List.length_eq_zero_iff.1 (Classical.not_not.1 fun h => hb (.inl h))
    have hv : v.size ≤ 400 := by
      have : ¬ decide (400 < v.size) = true := fun h => hb (.inr h)
      rw [decide_eq_true_eq] at this
      omega
    subst hl
    simp only [Bool.and_eq_true, Bool.or_eq_true, Bool.not_eq_true', decide_eq_true_eq, allF.L]
    constructor
    · intro h; simp_all
    · intro h; simp_all

theorem ok_ext {k : Int} {n v i : ByteArray} {a : List ByteArray} {f : ByteArray} {hi hf : Bool} {r : ByteArray} {d : Bool} {kids : List Fl} (hk : k = 9) : allF (Fl.mk k n v i a f hi hf r d kids) = ((extB n r && decide (v.size ≤ 400)) && (sameF (Fl.mk k n v i a f hi hf r d kids) (Fl.mk k n v ⟨#[]⟩ [] ⟨#[]⟩ false false r d []) && allF.L kids)) := by
  simp only [allF]
  unfold oneF oneQ
  rw [Bool.eq_iff_iff]
  simp only [Bool.and_eq_true, sameF_iff, Fl.mk.injEq, true_and]
  have hE : (⟨#[]⟩ : ByteArray) = ByteArray.empty := rfl
  rw [hE]
  unfold barF smP extB
  rw [if_neg (by omega), if_neg (by omega)]
  by_cases hb : kids.length ≠ 0 ∨ decide (400 < v.size) = true
  · rw [if_pos hb]
    constructor
    · rintro ⟨_, h⟩; cases h
    · rintro h
      exfalso
      rcases hb with hb | hb
      · exact hb (by rw [h.2.1.2.2.2.2.2]; rfl)
      · rw [decide_eq_true_eq] at hb
        have := h.1.2; rw [decide_eq_true_eq] at this; omega
  · rw [if_neg hb, if_neg (by omega), if_neg (by omega), if_neg (by omega), if_pos hk]
    have hl : kids = [] := List.length_eq_zero_iff.1 (Classical.not_not.1 fun h => hb (.inl h))
    have hv : v.size ≤ 400 := by
      have : ¬ decide (400 < v.size) = true := fun h => hb (.inr h)
      rw [decide_eq_true_eq] at this
      omega
    subst hl
    simp only [Bool.and_eq_true, Bool.or_eq_true, Bool.not_eq_true', decide_eq_true_eq, allF.L]
    constructor
    · intro h; simp_all
    · intro h; simp_all

theorem ok_other {k : Int} {n v i : ByteArray} {a : List ByteArray} {f : ByteArray} {hi hf : Bool} {r : ByteArray} {d : Bool} {kids : List Fl} (h0 : ¬ k = 0) (h1 : ¬ k = 1) (h2 : ¬ k = 2) (h3 : ¬ k = 3) (h4 : ¬ k = 4) (h5 : ¬ k = 5) (h6 : ¬ k = 6) (h7 : ¬ k = 7) (h8 : ¬ k = 8) (h9 : ¬ k = 9) : allF (Fl.mk k n v i a f hi hf r d kids) = false := by
  simp only [allF]
  unfold oneF oneQ
  rw [if_neg (by omega), if_neg h2]
  split
  · simp
  · (repeat rw [if_neg (by omega)])
    simp

set_option maxRecDepth 8000 in
set_option maxHeartbeats 25600000 in
/-- The landed fits. -/
theorem fits_any (e : Fl) : FitOf e := by
  induction e using Fl.ind with
  | h k n v i a f hi hf r d kids ih =>
    intro x w hV hS
    have hVV := hV
    simp only [FlV] at hV
    obtain ⟨a1, c1, a2, c2, rfl, ht, hn, hc⟩ := hV
    simp only [smF] at hS
    have g0 := Gr.one w (.cells (cFl k n v i a1 a.length c1 f hi hf r d a2 kids.length c2) 27)
    have gg : Hid (∀ o, Gr w ((w.alloc (.cells (cFl k n v i a1 a.length c1 f hi hf r d a2 kids.length c2) 27)).alloc o)) := fun o => (Gr.one w _).alloc o
    have CW := hide (fun W => word_any n W)
    have CS := hide (fun W => short_any v W)
    have CX := hide (fun W => ext_any n r W)
    have CP := hide (fun (W : World) (g : Gr w W) => spc_any i f hi hf a a1 c1 W (ht.below g.below))
    have CK := hide (fun (W : World) (g : Gr w W) => hasf_any kids ih hS.2 a2 c2 W hn (hc.imp (fun h => h) (fun ⟨g', off, h1, h2⟩ => ⟨g', off, h1, FlV.L.below g.below kids g' off h2⟩)))
    have CM := hide (fun (J : Fl) (jv : Value) (W : World) (g : Gr w W) (h : FlV W J jv) => fsame_any _ J _ jv W (hVV.grow g.below) h)
    have HT := hide (fun (W : World) (g : Gr w W) => ht.below g.below)
    have HC : Hid (∀ W : World, Gr w W → (kids.length = 0 ∨ ∃ g off, a2 = some ⟨g, off, none⟩ ∧ FlV.L W kids g off)) := fun W g => hc.imp (fun h => h) (fun ⟨g', off, h1, h2⟩ => ⟨g', off, h1, FlV.L.below g.below kids g' off h2⟩)
    have HN := hide hn
    clear ih hVV hc ht hS hn

    by_cases hk : k = 0 ∨ k = 1
    · have HD := hide (ok_grp (n := n) (v := v) (i := i) (a := a) (f := f) (hi := hi) (hf := hf) (r := r) (d := d) (kids := kids) hk)
      have CJ := hide (fun (W : World) (g : Gr w W) => unhide CM (Fl.mk k ⟨#[]⟩ ⟨#[]⟩ ⟨#[]⟩ [] ⟨#[]⟩ false false ⟨#[]⟩ false kids) (vFl k ⟨#[]⟩ ⟨#[]⟩ ⟨#[]⟩ none 0 0 ⟨#[]⟩ false false ⟨#[]⟩ false a2 kids.length c2) W g (by
        simp only [FlV]
        exact ⟨none, 0, a2, c2, rfl, TxC.nil _ _, unhide HN, unhide HC W g⟩))
      clear CM HT HC HN
      generalize allF (Fl.mk k n v i a f hi hf r d kids) = y at *
      generalize sameF (Fl.mk k n v i a f hi hf r d kids) (Fl.mk k ⟨#[]⟩ ⟨#[]⟩ ⟨#[]⟩ [] ⟨#[]⟩ false false ⟨#[]⟩ false kids) = sm at *
      generalize allF.L kids = b at *
      rcases hk with rfl | rfl
      all_goals
        cases sm
        · go_enter Tryz.func21, Tryz.ntmps21
          go_wp2
          go_region
          all_goals
            go_wp2_with (first
              | (go_at_call 18; refine (unhide CJ _ ((unhide gg _).drew)).mono ?_; rintro e w2 ⟨rfl, g2⟩; have t2 := ((unhide gg _).drew).trans g2; obtain ⟨m0, m1, m2, m3, m4, m5, m6, m7, m8, m9, m10⟩ := box11 ((Gr.one _ _).drew.trans g2)))
            go_ret
            exact ⟨ret_bool (by rw [unhide HD]; rfl), t2⟩
        go_enter Tryz.func21, Tryz.ntmps21
        go_wp2
        go_region
        all_goals
          go_wp2_with (first
            | (go_at_call 39; refine (unhide CK _ t2).mono ?_; rintro e w3 ⟨rfl, g3⟩; have t3 := t2.trans g3)
            | (go_at_call 18; refine (unhide CJ _ ((unhide gg _).drew)).mono ?_; rintro e w2 ⟨rfl, g2⟩; have t2 := ((unhide gg _).drew).trans g2; obtain ⟨m0, m1, m2, m3, m4, m5, m6, m7, m8, m9, m10⟩ := box11 ((Gr.one _ _).drew.trans g2)))
          go_ret
          exact ⟨ret_bool (by rw [unhide HD]; simp), t3⟩

    by_cases hk : k = 2
    · have HD := hide (ok_not (n := n) (v := v) (i := i) (a := a) (f := f) (hi := hi) (hf := hf) (r := r) (d := d) (kids := kids) hk)
      have CJ := hide (fun (W : World) (g : Gr w W) => unhide CM (Fl.mk k ⟨#[]⟩ ⟨#[]⟩ ⟨#[]⟩ [] ⟨#[]⟩ false false ⟨#[]⟩ false kids) (vFl k ⟨#[]⟩ ⟨#[]⟩ ⟨#[]⟩ none 0 0 ⟨#[]⟩ false false ⟨#[]⟩ false a2 kids.length c2) W g (by
        simp only [FlV]
        exact ⟨none, 0, a2, c2, rfl, TxC.nil _ _, unhide HN, unhide HC W g⟩))
      clear CM HT HC HN
      generalize allF (Fl.mk k n v i a f hi hf r d kids) = y at *
      generalize sameF (Fl.mk k n v i a f hi hf r d kids) (Fl.mk k ⟨#[]⟩ ⟨#[]⟩ ⟨#[]⟩ [] ⟨#[]⟩ false false ⟨#[]⟩ false kids) = sm at *
      generalize allF.L kids = b at *
      subst hk
      all_goals
        by_cases hz : kids.length = 1
        · have zl : ((kids.length : Int) == 1) = true := by rw [hz]; rfl
          rw [decide_eq_true hz] at HD
          clear hz
          cases sm
          · go_enter Tryz.func21, Tryz.ntmps21
            go_wp2
            go_region
            all_goals
              go_wp2_with (first
                | (go_at_call 18; refine (unhide CJ _ ((unhide gg _).drew)).mono ?_; rintro e w2 ⟨rfl, g2⟩; have t2 := ((unhide gg _).drew).trans g2; obtain ⟨m0, m1, m2, m3, m4, m5, m6, m7, m8, m9, m10⟩ := box11 ((Gr.one _ _).drew.trans g2)))
              go_ret
              exact ⟨ret_bool (by rw [unhide HD]; rfl), t2⟩
          go_enter Tryz.func21, Tryz.ntmps21
          go_wp2
          go_region
          all_goals
            go_wp2_with (first
              | (go_at_call 39; refine (unhide CK _ t2).mono ?_; rintro e w3 ⟨rfl, g3⟩; have t3 := t2.trans g3)
              | (go_at_call 18; refine (unhide CJ _ ((unhide gg _).drew)).mono ?_; rintro e w2 ⟨rfl, g2⟩; have t2 := ((unhide gg _).drew).trans g2; obtain ⟨m0, m1, m2, m3, m4, m5, m6, m7, m8, m9, m10⟩ := box11 ((Gr.one _ _).drew.trans g2)))
            go_ret
            exact ⟨ret_bool (by rw [unhide HD]; simp), t3⟩
        have zl : ((kids.length : Int) == 1) = false := by rw [beq_eq_false_iff_ne]; omega
        rw [decide_eq_false hz] at HD
        go_enter Tryz.func21, Tryz.ntmps21
        go_wp2
        go_region
        all_goals
          go_wp2
          go_ret
          exact ⟨ret_bool (by rw [unhide HD]; rfl), (unhide gg _).drew⟩

    by_cases hk : k = 3 ∨ k = 5 ∨ k = 6 ∨ k = 8
    · have HD := hide (ok_val (n := n) (v := v) (i := i) (a := a) (f := f) (hi := hi) (hf := hf) (r := r) (d := d) (kids := kids) hk)
      have CJ := hide (fun (W : World) (g : Gr w W) => unhide CM (Fl.mk k n v ⟨#[]⟩ [] ⟨#[]⟩ false false ⟨#[]⟩ false []) (vFl k n v ⟨#[]⟩ none 0 0 ⟨#[]⟩ false false ⟨#[]⟩ false none 0 0) W g (by
        simp only [FlV]
        exact ⟨none, 0, none, 0, rfl, TxC.nil _ _, by decide, .inl rfl⟩))
      clear CM HT HC HN
      generalize allF (Fl.mk k n v i a f hi hf r d kids) = y at *
      generalize sameF (Fl.mk k n v i a f hi hf r d kids) (Fl.mk k n v ⟨#[]⟩ [] ⟨#[]⟩ false false ⟨#[]⟩ false []) = sm at *
      generalize allF.L kids = b at *
      generalize wrdB (nums n) = wn at *
      generalize decide (v.size ≤ 400) = sv at *
      rcases hk with rfl | rfl | rfl | rfl
      all_goals
        cases wn
        · go_enter Tryz.func21, Tryz.ntmps21
          go_wp2_with (first
            | (go_at_call 36; refine (unhide CS _).mono ?_; rintro e w5 ⟨rfl, rfl⟩)
            | (go_at_call 35; refine (unhide CW _).mono ?_; rintro e w4 ⟨rfl, rfl⟩))
          go_ret
          exact ⟨ret_bool (by rw [unhide HD]; rfl), unhide gg _⟩
        cases sv
        · go_enter Tryz.func21, Tryz.ntmps21
          go_wp2_with (first
            | (go_at_call 36; refine (unhide CS _).mono ?_; rintro e w5 ⟨rfl, rfl⟩)
            | (go_at_call 35; refine (unhide CW _).mono ?_; rintro e w4 ⟨rfl, rfl⟩))
          go_ret
          exact ⟨ret_bool (by rw [unhide HD]; rfl), unhide gg _⟩
        cases sm
        · go_enter Tryz.func21, Tryz.ntmps21
          go_wp2_with (first
            | (go_at_call 18; refine (unhide CJ _ ((unhide gg _))).mono ?_; rintro e w2 ⟨rfl, g2⟩; have t2 := ((unhide gg _)).trans g2; obtain ⟨m0, m1, m2, m3, m4, m5, m6, m7, m8, m9, m10⟩ := box11 ((Gr.one _ _).trans g2))
            | (go_at_call 36; refine (unhide CS _).mono ?_; rintro e w5 ⟨rfl, rfl⟩)
            | (go_at_call 35; refine (unhide CW _).mono ?_; rintro e w4 ⟨rfl, rfl⟩))
          go_ret
          exact ⟨ret_bool (by rw [unhide HD]; rfl), t2⟩
        go_enter Tryz.func21, Tryz.ntmps21
        go_wp2_with (first
          | (go_at_call 39; refine (unhide CK _ t2).mono ?_; rintro e w3 ⟨rfl, g3⟩; have t3 := t2.trans g3)
          | (go_at_call 18; refine (unhide CJ _ ((unhide gg _))).mono ?_; rintro e w2 ⟨rfl, g2⟩; have t2 := ((unhide gg _)).trans g2; obtain ⟨m0, m1, m2, m3, m4, m5, m6, m7, m8, m9, m10⟩ := box11 ((Gr.one _ _).trans g2))
          | (go_at_call 36; refine (unhide CS _).mono ?_; rintro e w5 ⟨rfl, rfl⟩)
          | (go_at_call 35; refine (unhide CW _).mono ?_; rintro e w4 ⟨rfl, rfl⟩))
        go_ret
        exact ⟨ret_bool (by rw [unhide HD]; simp), t3⟩

    by_cases hk : k = 7
    · have HD := hide (ok_pre (n := n) (v := v) (i := i) (a := a) (f := f) (hi := hi) (hf := hf) (r := r) (d := d) (kids := kids) hk)
      have CJ := hide (fun (W : World) (g : Gr w W) => unhide CM (Fl.mk k n ⟨#[]⟩ ⟨#[]⟩ [] ⟨#[]⟩ false false ⟨#[]⟩ false []) (vFl k n ⟨#[]⟩ ⟨#[]⟩ none 0 0 ⟨#[]⟩ false false ⟨#[]⟩ false none 0 0) W g (by
        simp only [FlV]
        exact ⟨none, 0, none, 0, rfl, TxC.nil _ _, by decide, .inl rfl⟩))
      clear CM HT HC HN
      generalize allF (Fl.mk k n v i a f hi hf r d kids) = y at *
      generalize sameF (Fl.mk k n v i a f hi hf r d kids) (Fl.mk k n ⟨#[]⟩ ⟨#[]⟩ [] ⟨#[]⟩ false false ⟨#[]⟩ false []) = sm at *
      generalize allF.L kids = b at *
      generalize wrdB (nums n) = wn at *
      subst hk
      all_goals
        cases wn
        · go_enter Tryz.func21, Tryz.ntmps21
          go_wp2_with (first
            | (go_at_call 35; refine (unhide CW _).mono ?_; rintro e w4 ⟨rfl, rfl⟩))
          go_ret
          exact ⟨ret_bool (by rw [unhide HD]; rfl), unhide gg _⟩
        cases sm
        · go_enter Tryz.func21, Tryz.ntmps21
          go_wp2_with (first
            | (go_at_call 18; refine (unhide CJ _ ((unhide gg _))).mono ?_; rintro e w2 ⟨rfl, g2⟩; have t2 := ((unhide gg _)).trans g2; obtain ⟨m0, m1, m2, m3, m4, m5, m6, m7, m8, m9, m10⟩ := box11 ((Gr.one _ _).trans g2))
            | (go_at_call 35; refine (unhide CW _).mono ?_; rintro e w4 ⟨rfl, rfl⟩))
          go_ret
          exact ⟨ret_bool (by rw [unhide HD]; rfl), t2⟩
        go_enter Tryz.func21, Tryz.ntmps21
        go_wp2_with (first
          | (go_at_call 39; refine (unhide CK _ t2).mono ?_; rintro e w3 ⟨rfl, g3⟩; have t3 := t2.trans g3)
          | (go_at_call 18; refine (unhide CJ _ ((unhide gg _))).mono ?_; rintro e w2 ⟨rfl, g2⟩; have t2 := ((unhide gg _)).trans g2; obtain ⟨m0, m1, m2, m3, m4, m5, m6, m7, m8, m9, m10⟩ := box11 ((Gr.one _ _).trans g2))
          | (go_at_call 35; refine (unhide CW _).mono ?_; rintro e w4 ⟨rfl, rfl⟩))
        go_ret
        exact ⟨ret_bool (by rw [unhide HD]; simp), t3⟩

    by_cases hk : k = 4
    · have HD := hide (ok_sub (n := n) (v := v) (i := i) (a := a) (f := f) (hi := hi) (hf := hf) (r := r) (d := d) (kids := kids) hk)
      have CJ := hide (fun (W : World) (g : Gr w W) => unhide CM (Fl.mk k n ⟨#[]⟩ i a f hi hf ⟨#[]⟩ false []) (vFl k n ⟨#[]⟩ i a1 a.length c1 f hi hf ⟨#[]⟩ false none 0 0) W g (by
        simp only [FlV]
        exact ⟨a1, c1, none, 0, rfl, unhide HT W g, by decide, .inl rfl⟩))
      clear CM HT HC HN
      generalize allF (Fl.mk k n v i a f hi hf r d kids) = y at *
      generalize sameF (Fl.mk k n v i a f hi hf r d kids) (Fl.mk k n ⟨#[]⟩ i a f hi hf ⟨#[]⟩ false []) = sm at *
      generalize allF.L kids = b at *
      generalize wrdB (nums n) = wn at *
      generalize finPc i a f hi hf = sp at *
      subst hk
      all_goals
        cases wn
        · go_enter Tryz.func21, Tryz.ntmps21
          go_wp2_with (first
            | (go_at_call 37; refine (unhide CP _ (unhide gg _)).mono ?_; rintro e w4 ⟨rfl, g4⟩; have t4 := (unhide gg _).trans g4; obtain ⟨m0, m1, m2, m3, m4, m5, m6, m7, m8, m9, m10⟩ := box11 ((Gr.one _ _).trans g4); obtain ⟨z0, z1, z2, z3, z4, z5, z6, z7, z8, z9, z10⟩ := box11z g4)
            | (go_at_call 35; refine (unhide CW _).mono ?_; rintro e w5 ⟨rfl, rfl⟩))
          go_ret
          exact ⟨ret_bool (by rw [unhide HD]; rfl), unhide gg _⟩
        cases sp
        · go_enter Tryz.func21, Tryz.ntmps21
          go_wp2_with (first
            | (go_at_call 37; refine (unhide CP _ (unhide gg _)).mono ?_; rintro e w4 ⟨rfl, g4⟩; have t4 := (unhide gg _).trans g4; obtain ⟨m0, m1, m2, m3, m4, m5, m6, m7, m8, m9, m10⟩ := box11 ((Gr.one _ _).trans g4); obtain ⟨z0, z1, z2, z3, z4, z5, z6, z7, z8, z9, z10⟩ := box11z g4)
            | (go_at_call 35; refine (unhide CW _).mono ?_; rintro e w5 ⟨rfl, rfl⟩))
          go_ret
          exact ⟨ret_bool (by rw [unhide HD]; rfl), t4⟩
        cases sm
        · go_enter Tryz.func21, Tryz.ntmps21
          go_wp2_with (first
            | (go_at_call 18; refine (unhide CJ _ (t4)).mono ?_; rintro e w2 ⟨rfl, g2⟩; have t2 := (t4).trans g2; obtain ⟨m0, m1, m2, m3, m4, m5, m6, m7, m8, m9, m10⟩ := box11 (((Gr.one _ _).trans g4).trans g2))
            | (go_at_call 37; refine (unhide CP _ (unhide gg _)).mono ?_; rintro e w4 ⟨rfl, g4⟩; have t4 := (unhide gg _).trans g4; obtain ⟨m0, m1, m2, m3, m4, m5, m6, m7, m8, m9, m10⟩ := box11 ((Gr.one _ _).trans g4); obtain ⟨z0, z1, z2, z3, z4, z5, z6, z7, z8, z9, z10⟩ := box11z g4)
            | (go_at_call 35; refine (unhide CW _).mono ?_; rintro e w5 ⟨rfl, rfl⟩))
          go_ret
          exact ⟨ret_bool (by rw [unhide HD]; rfl), t2⟩
        go_enter Tryz.func21, Tryz.ntmps21
        go_wp2_with (first
          | (go_at_call 39; refine (unhide CK _ t2).mono ?_; rintro e w3 ⟨rfl, g3⟩; have t3 := t2.trans g3)
          | (go_at_call 18; refine (unhide CJ _ (t4)).mono ?_; rintro e w2 ⟨rfl, g2⟩; have t2 := (t4).trans g2; obtain ⟨m0, m1, m2, m3, m4, m5, m6, m7, m8, m9, m10⟩ := box11 (((Gr.one _ _).trans g4).trans g2))
          | (go_at_call 37; refine (unhide CP _ (unhide gg _)).mono ?_; rintro e w4 ⟨rfl, g4⟩; have t4 := (unhide gg _).trans g4; obtain ⟨m0, m1, m2, m3, m4, m5, m6, m7, m8, m9, m10⟩ := box11 ((Gr.one _ _).trans g4); obtain ⟨z0, z1, z2, z3, z4, z5, z6, z7, z8, z9, z10⟩ := box11z g4)
          | (go_at_call 35; refine (unhide CW _).mono ?_; rintro e w5 ⟨rfl, rfl⟩))
        go_ret
        exact ⟨ret_bool (by rw [unhide HD]; simp), t3⟩

    by_cases hk : k = 9
    · have HD := hide (ok_ext (n := n) (v := v) (i := i) (a := a) (f := f) (hi := hi) (hf := hf) (r := r) (d := d) (kids := kids) hk)
      have CJ := hide (fun (W : World) (g : Gr w W) => unhide CM (Fl.mk k n v ⟨#[]⟩ [] ⟨#[]⟩ false false r d []) (vFl k n v ⟨#[]⟩ none 0 0 ⟨#[]⟩ false false r d none 0 0) W g (by
        simp only [FlV]
        exact ⟨none, 0, none, 0, rfl, TxC.nil _ _, by decide, .inl rfl⟩))
      clear CM HT HC HN
      generalize allF (Fl.mk k n v i a f hi hf r d kids) = y at *
      generalize sameF (Fl.mk k n v i a f hi hf r d kids) (Fl.mk k n v ⟨#[]⟩ [] ⟨#[]⟩ false false r d []) = sm at *
      generalize allF.L kids = b at *
      generalize extB n r = xx at *
      generalize decide (v.size ≤ 400) = sv at *
      subst hk
      all_goals
        cases xx
        · go_enter Tryz.func21, Tryz.ntmps21
          go_wp2
          go_region
          all_goals
            go_wp2_with (first
              | (go_at_call 36; refine (unhide CS _).mono ?_; rintro e w5 ⟨rfl, rfl⟩)
              | (go_at_call 38; refine (unhide CX _).mono ?_; rintro e w4 ⟨rfl, rfl⟩))
            go_ret
            exact ⟨ret_bool (by rw [unhide HD]; rfl), (unhide gg _).drew⟩
        cases sv
        · go_enter Tryz.func21, Tryz.ntmps21
          go_wp2
          go_region
          all_goals
            go_wp2_with (first
              | (go_at_call 36; refine (unhide CS _).mono ?_; rintro e w5 ⟨rfl, rfl⟩)
              | (go_at_call 38; refine (unhide CX _).mono ?_; rintro e w4 ⟨rfl, rfl⟩))
            go_ret
            exact ⟨ret_bool (by rw [unhide HD]; rfl), (unhide gg _).drew⟩
        cases sm
        · go_enter Tryz.func21, Tryz.ntmps21
          go_wp2
          go_region
          all_goals
            go_wp2_with (first
              | (go_at_call 18; refine (unhide CJ _ ((unhide gg _).drew)).mono ?_; rintro e w2 ⟨rfl, g2⟩; have t2 := ((unhide gg _).drew).trans g2; obtain ⟨m0, m1, m2, m3, m4, m5, m6, m7, m8, m9, m10⟩ := box11 ((Gr.one _ _).drew.trans g2))
              | (go_at_call 36; refine (unhide CS _).mono ?_; rintro e w5 ⟨rfl, rfl⟩)
              | (go_at_call 38; refine (unhide CX _).mono ?_; rintro e w4 ⟨rfl, rfl⟩))
            go_ret
            exact ⟨ret_bool (by rw [unhide HD]; rfl), t2⟩
        go_enter Tryz.func21, Tryz.ntmps21
        go_wp2
        go_region
        all_goals
          go_wp2_with (first
            | (go_at_call 39; refine (unhide CK _ t2).mono ?_; rintro e w3 ⟨rfl, g3⟩; have t3 := t2.trans g3)
            | (go_at_call 18; refine (unhide CJ _ ((unhide gg _).drew)).mono ?_; rintro e w2 ⟨rfl, g2⟩; have t2 := ((unhide gg _).drew).trans g2; obtain ⟨m0, m1, m2, m3, m4, m5, m6, m7, m8, m9, m10⟩ := box11 ((Gr.one _ _).drew.trans g2))
            | (go_at_call 36; refine (unhide CS _).mono ?_; rintro e w5 ⟨rfl, rfl⟩)
            | (go_at_call 38; refine (unhide CX _).mono ?_; rintro e w4 ⟨rfl, rfl⟩))
          go_ret
          exact ⟨ret_bool (by rw [unhide HD]; simp), t3⟩

    have HD := hide (ok_other (k := k) (n := n) (v := v) (i := i) (a := a) (f := f) (hi := hi) (hf := hf) (r := r) (d := d) (kids := kids) (fun h => by omega) (fun h => by omega) (fun h => by omega) (fun h => by omega) (fun h => by omega) (fun h => by omega) (fun h => by omega) (fun h => by omega) (fun h => by omega) (fun h => by omega))

    have y0 : (k == 0) = false := by rw [beq_eq_false_iff_ne]; omega
    have y1 : (k == 1) = false := by rw [beq_eq_false_iff_ne]; omega
    have y2 : (k == 2) = false := by rw [beq_eq_false_iff_ne]; omega
    have y3 : (k == 3) = false := by rw [beq_eq_false_iff_ne]; omega
    have y4 : (k == 4) = false := by rw [beq_eq_false_iff_ne]; omega
    have y5 : (k == 5) = false := by rw [beq_eq_false_iff_ne]; omega
    have y6 : (k == 6) = false := by rw [beq_eq_false_iff_ne]; omega
    have y7 : (k == 7) = false := by rw [beq_eq_false_iff_ne]; omega
    have y8 : (k == 8) = false := by rw [beq_eq_false_iff_ne]; omega
    have y9 : (k == 9) = false := by rw [beq_eq_false_iff_ne]; omega

    generalize allF (Fl.mk k n v i a f hi hf r d kids) = y at *
    clear CM HT HC HN CP CX CS CW CK
    go_enter Tryz.func21, Tryz.ntmps21
    go_wp2
    go_ret
    exact ⟨ret_bool (by rw [unhide HD]), unhide gg _⟩

end Go.Proofs.YthbldkkjjjmegaaGreatDoor
