/- The document's Show of layer 24. -/
import Derived.Test.YthbldkkjjjmegaaGreatDoorM36
namespace Go.Proofs.YthbldkkjjjmegaaGreatDoor
set_option maxRecDepth 100000
open Go.RowKit

theorem vTxt_le : ∀ l : List Int, (vTxt l).length ≤ 3 * l.length
  | [] => Nat.le_refl _
  | c :: t => by
    have ih := vTxt_le t
    rw [vTxt, List.length_append, List.length_cons]
    have : (vByte c).length ≤ 3 := by unfold vByte; split <;> simp
    omega
theorem val_le (s : ByteArray) : (vTxt (nums s)).length ≤ 3 * s.size := by have := vTxt_le (nums s); rwa [nums_length] at this
theorem any_le : ∀ (a : List ByteArray), (∀ t ∈ a, t.size ≤ 400) → (anyT a).length ≤ 1201 * a.length
  | [], _ => Nat.le_refl _
  | x :: t, h => by
    have ih := any_le t fun y hy => h y (by simp [hy])
    have := val_le x
    have := h x (by simp)
    rw [anyT, List.length_append, List.length_cons, List.length_cons]
    omega
theorem wrd_size {n : ByteArray} (h : wrdB (nums n) = true) : n.size ≤ 16 := by have := (wrd_len h).2; rwa [nums_length] at this
/-- A part's own text is short. -/
theorem head_len {k : Int} {n v i : ByteArray} {a : List ByteArray} {f : ByteArray} {hi hf : Bool} {r : ByteArray} {d : Bool} {m : Nat} (h : oneF k n v i a f hi hf r d m = true) : (headF k n i a f r d).length ≤ 10000 ∧ v.size ≤ 400 := by
  by_cases hk : k = 0 ∨ k = 1 ∨ k = 2
  · have hb : barF n v i a f hi hf r d true true true true = true := by
      unfold oneF oneQ at h
      rcases hk with rfl | rfl | rfl
      · rw [if_pos (.inl rfl)] at h; exact h
      · rw [if_pos (.inr rfl)] at h; exact h
      · rw [if_neg (by decide), if_pos rfl, Bool.and_eq_true] at h; exact h.1
    have h2 := (bar_parts hb).2.1 rfl
    refine ⟨?_, by rw [h2]; decide⟩
    unfold headF
    rcases hk with rfl | rfl | rfl <;> simp
  · unfold oneF oneQ at h
    rw [if_neg (fun x => hk (by omega)), if_neg (fun x => hk (by omega))] at h
    by_cases hm : m ≠ 0 ∨ decide (400 < v.size) = true
    · rw [if_pos hm] at h; cases h
    · rw [if_neg hm] at h
      have hv : v.size ≤ 400 := by
        have : ¬ decide (400 < v.size) = true := fun x => hm (.inr x)
        simpa using this
      refine ⟨?_, hv⟩
      unfold headF
      rw [if_neg (fun x => hk (.inl x)), if_neg (fun x => hk (.inr (.inl x))), if_neg (fun x => hk (.inr (.inr x))), List.length_append, nums_length]
      by_cases h3 : k = 3 ∨ k = 5 ∨ k = 6 ∨ k = 8
      · rw [if_pos h3, Bool.and_eq_true] at h
        have := wrd_size h.2
        rcases h3 with rfl | rfl | rfl | rfl <;> simp <;> omega
      · rw [if_neg h3] at h
        rw [if_neg (by omega), if_neg (by omega), if_neg (by omega), if_neg (by omega)]
        by_cases h7 : k = 7
        · rw [if_pos h7, Bool.and_eq_true] at h
          have := wrd_size h.2
          rw [if_pos h7]
          simp
          omega
        · rw [if_neg h7] at h ⊢
          by_cases h4 : k = 4
          · rw [if_pos h4, Bool.and_eq_true, Bool.and_eq_true] at h
            have := wrd_size h.2.1
            have hp := h.2.2
            unfold finPc at hp
            simp only [Bool.and_eq_true, decide_eq_true_eq, List.all_eq_true] at hp
            obtain ⟨hp1, ⟨hp2, hp3⟩, hp4⟩ := hp
            have ha : a.length ≤ 6 := by
              unfold okPc at hp1
              simp only [Bool.and_eq_true, decide_eq_true_eq] at hp1
              exact hp1.1.1
            have l1 := val_le i
            have l2 := val_le f
            have l3 := any_le a hp4
            rw [if_pos h4, List.length_cons]
            unfold starT
            rw [List.length_append, List.length_cons, List.length_append]
            omega
          · rw [if_neg h4] at h ⊢
            by_cases h9 : k = 9
            · rw [if_pos h9] at h
              simp only [Bool.and_eq_true, Bool.or_eq_true, Bool.not_eq_true', decide_eq_true_eq] at h
              obtain ⟨_, hn, hr, _⟩ := h
              have hn2 : n.size ≤ 16 := by
                rcases hn with hn | hn
                · exact wrd_size hn
                · rw [hn]; decide
              have hr2 : r.size ≤ 16 := by
                rcases hr with hr | hr
                · exact wrd_size hr.1
                · rw [hr]; decide
              have : (extT r d).length ≤ 3 + (1 + r.size + 2) := by
                unfold extT
                rw [List.length_append, List.length_append]
                have e1 : (if d = true then [58, 100, 110] else [] : List Int).length ≤ 3 := by cases d <;> simp
                have e2 : (if r = ⟨#[]⟩ then [] else 58 :: nums r : List Int).length ≤ 1 + r.size := by
                  split
                  · simp
                  · rw [List.length_cons, nums_length]; omega
                simp only [List.length_cons, List.length_nil]
                omega
              omega
            · rw [if_neg h9] at h; cases h
theorem text_len (e : Fl) : allF e = true → (textF e).length ≤ 12000 * totF e := by
  induction e using Fl.ind with
  | h k n v i a f hi hf r d kids ih =>
    intro hA
    simp only [allF, Bool.and_eq_true] at hA
    obtain ⟨h1, h2⟩ := head_len hA.2
    have h3 := val_le v
    simp only [textF, totF, List.length_cons, List.length_append, List.length_nil]
    have : ∀ l : List Fl, (∀ e, e ∈ l → e ∈ kids) → allF.L l = true → (textF.L l).length ≤ 12000 * totF.L l := fun l => by
      induction l with
      | nil => intro _ _; simp [textF.L, totF.L]
      | cons a t iht =>
        intro hl h4
        simp only [allF.L, Bool.and_eq_true] at h4
        have := ih a (hl a (by simp)) h4.1
        have := iht (fun e he => hl e (by simp [he])) h4.2
        simp only [textF.L, totF.L, List.length_append]
        omega
    have := this kids (fun _ h => h) hA.1
    omega
theorem text_short {e : Fl} (h : chkF e = 0) : (textF e).length ≤ 1000000000 := by
  obtain ⟨h1, _, h3⟩ := chk_parts h
  have := text_len e h1
  omega
set_option maxHeartbeats 3200000 in
theorem rshow24_any (e : Fl) (x : Value) (w : World) (hV : FlV w e x) (hS : smF e) : Calls Tryz.prog 8 #[x] w fun y w' => y = .returned (.tuple #[.string (shoF e), .int .i64 (chkF e)]) ∧ Below w.heap.size w w' := by
  obtain ⟨a1, c1, a2, c2, hv, _⟩ := hV.open
  have b0 := Below.one w (.cells (cFl e.kin e.nam e.val e.ini a1 e.any.length c1 e.fin e.hi e.hf e.rul e.dn a2 e.kids.length c2) 27)
  have H0 := heap_new w (.cells (cFl e.kin e.nam e.val e.ini a1 e.any.length c1 e.fin e.hi e.hf e.rul e.dn a2 e.kids.length c2) 27)
  have K1 := hide ((rcheck24_any e x _ (hV.grow b0) hS).mono fun _ _ ⟨h1, h2⟩ => (⟨h1, h2.below⟩ : _ ∧ Below (w.alloc (.cells (cFl e.kin e.nam e.val e.ini a1 e.any.length c1 e.fin e.hi e.hf e.rul e.dn a2 e.kids.length c2) 27)).heap.size _ _))
  by_cases hk : chkF e = 0
  · have X1 := hide (fun W (b : Below w.heap.size w W) => rtext24_any e x W (hV.grow b) (chk_parts hk).1 (text_short hk))
    have es : strOfNums (textF e) = shoF e := by unfold shoF; rw [if_pos hk]
    rw [es] at X1
    rw [hk] at K1 ⊢
    generalize shoF e = s at *
    clear hV hS hk es
    subst hv
    go_enter Tryz.func8, Tryz.ntmps8
    go_wp2_with (first
      | (go_at_call 20; refine (unhide X1 _ t1).mono ?_; rintro ee w2 ⟨rfl, b2⟩; have t2 := t1.trans (b2.mono t1.size))
      | (go_at_call 10; refine (unhide K1).mono ?_; rintro ee w1 ⟨rfl, b1⟩; have t1 := b0.trans (b1.mono b0.size); obtain ⟨k0, k1, k2, k3, k4, k5, k6, k7, k8, k9, k10⟩ := cells11 (keep_blk H0 b1)))
    refine bodyPost_ret (results_tmp2 rfl _ _ _) rfl ?_
    exact ⟨rfl, t2⟩
  · have h240 : chkF e = 240 := by
      have : chkF e = 0 ∨ chkF e = 240 := by unfold chkF; split <;> simp
      omega
    have es : shoF e = ⟨#[]⟩ := by unfold shoF; rw [if_neg hk]
    rw [es, h240]
    rw [h240] at K1
    clear hV hS hk es h240
    subst hv
    go_enter Tryz.func8, Tryz.ntmps8
    go_wp2_with (go_at_call 10; refine (unhide K1).mono ?_; rintro ee w1 ⟨rfl, b1⟩; have t1 := b0.trans (b1.mono b0.size))
    refine bodyPost_ret (results_tmp2 rfl _ _ _) rfl ?_
    exact ⟨rfl, t1⟩
end Go.Proofs.YthbldkkjjjmegaaGreatDoor
