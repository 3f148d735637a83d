/- What is read was laid so, and may be; parts. -/
import Derived.Test.YtcboggoindhmkaaBck15
namespace Go.Proofs.Ytcboggoindhmkaa

/-- An element that was read, with so many levels in it at most. -/
def Good (k : Nat) (e : El) : Prop := fineE e = true ∧ sizeE e ≤ 4000 ∧ deepE e (k + 2) ≤ k + 1
theorem sizeL_of : ∀ (l : List El) (n : Nat), n + sumS l ≤ 4000 → sizeE.L l n = n + sumS l
  | [], n, _ => by simp [sizeE.L, sumS]
  | e :: t, n, h => by
    simp only [sizeE.L, sumS] at h ⊢
    rw [if_pos (by omega), sizeL_of t _ (by omega)]; omega
theorem fineL_of : ∀ (l : List El), (∀ e, e ∈ l → fineE e = true) → fineE.L l = true
  | [], _ => rfl
  | a :: t, h => by simp only [fineE.L]; rw [h a (by simp), fineL_of t fun e he => h e (by simp [he])]; rfl
theorem deepL_of : ∀ (l : List El) (k b : Nat), (∀ e, e ∈ l → deepE e k ≤ b) → deepE.L l k ≤ b
  | [], _, _, _ => by simp [deepE.L]
  | a :: t, k, b, h => by
    simp only [deepE.L]
    have h1 := h a (by simp)
    have h2 := deepL_of t k b fun e he => h e (by simp [he])
    omega
/-- Elements up to the end: they were laid one behind the other. -/
theorem allG_back {k : Nat} {tk : List Int → El × Nat × Int} (ht : ∀ s e j, Byt s → tk s = (e, j, 0) → layE e = s.take j ∧ j ≤ s.length ∧ Good k e) : ∀ (f : Nat) (s : List Int) (l : List El), Byt s → s.length ≤ f → allG tk f s = (l, 0) → layE.L l = s ∧ ∀ e, e ∈ l → Good k e
  | 0, s, l, _, hf, h => by
    have : s = [] := List.eq_nil_of_length_eq_zero (by omega)
    subst this
    simp only [allG, Prod.mk.injEq] at h
    rw [← h.1]
    exact ⟨by simp [layE.L], by simp⟩
  | f + 1, s, l, hb, hf, h => by
    by_cases hs : s = []
    · subst hs
      simp only [allG, if_true, Prod.mk.injEq] at h
      rw [← h.1]
      exact ⟨by simp [layE.L], by simp⟩
    · obtain ⟨e, j, x, hr⟩ : ∃ e j x, tk s = (e, j, x) := ⟨_, _, _, rfl⟩
      by_cases hx : x = 0
      · subst hx
        obtain ⟨h1, h2, h3⟩ := ht s e j hb hr
        obtain ⟨l2, y, hr2⟩ : ∃ l2 y, allG tk f (s.drop j) = (l2, y) := ⟨_, _, rfl⟩
        by_cases hy : y = 0
        · subst hy
          rw [allG_cons hs hr hr2] at h
          have hj : 0 < j := by
            have := congrArg List.length h1
            rw [List.length_take] at this
            have h5 := List.length_pos_iff.2 (lay_ne e)
            omega
          obtain ⟨h6, h7⟩ := allG_back ht f (s.drop j) l2 (hb.drop j) (by rw [List.length_drop]; omega) hr2
          cases h
          refine ⟨?_, fun e' he' => ?_⟩
          · simp only [layE.L]; rw [h1, h6, List.take_append_drop]
          · rcases List.mem_cons.1 he' with rfl | he'
            · exact h3
            · exact h7 e' he'
        · rw [allG_err2 hs hr (by rw [hr2]) hy] at h
          cases h
          exact absurd rfl hy
      · rw [allG_err hs (by rw [hr]) hx] at h
        cases h
        exact absurd rfl hx
theorem take_add (s : List Int) (h n : Nat) : s.take (h + n) = s.take h ++ (s.drop h).take n := by
  rw [List.take_add]
set_option maxHeartbeats 800000 in
/-- What was read is laid so. -/
theorem takeH_back (inner : List Int → List El × Int) (k : Nat) (s : List Int) (e : El) (j : Nat) (hb : Byt s)
    (hi : ∀ b l, Byt b → inner b = (l, 0) → layE.L l = b ∧ (∀ e, e ∈ l → fineE e = true ∧ sizeE e ≤ 4000) ∧ deepE.L l (k + 1) ≤ k) (h : takeH inner s = (e, j, 0)) : layE e = s.take j ∧ j ≤ s.length ∧ Good k e := by
  unfold takeH at h
  by_cases h1 : (headB s).2.2 = 0
  · rw [if_neg (by simpa using h1)] at h
    obtain ⟨a1, a2, a3, a4, a5, a6⟩ := head_back s hb h1
    have b0 := hb.at 0
    generalize (headB s).1 = H at *
    generalize (headB s).2.1 = N at *
    by_cases h2 : (s.length : Int) - H < N
    · rw [if_pos h2] at h; cases h
    rw [if_neg h2] at h
    by_cases h3 : 4000 < H + N
    · rw [if_pos h3] at h; cases h
    rw [if_neg h3] at h
    have hH : 0 ≤ H := by omega
    obtain ⟨n, rfl⟩ : ∃ n : Nat, N = n := ⟨N.toNat, by omega⟩
    obtain ⟨q, rfl⟩ : ∃ q : Nat, H = q := ⟨H.toNat, by omega⟩
    simp only [Int.toNat_natCast] at h a4 a6
    have hbl : ((s.drop q).take n).length = n := by rw [List.length_take, List.length_drop]; omega
    have hbb : Byt ((s.drop q).take n) := (hb.drop q).take n
    have hj : ((q : Int) + (n : Int)).toNat = q + n := by omega
    rw [hj] at h
    have hsp := take_add s q n
    rw [a6] at hsp
    have hdl := hd_len (s.getD 0 0) n (by omega)
    have hq : q = (hd (s.getD 0 0) n).length := by omega
    generalize hB : (s.drop q).take n = b at *
    generalize hT : s.getD 0 0 = t at *
    by_cases h4 : t / 32 % 2 = 1
    · rw [if_pos h4] at h
      by_cases h5 : (inner b).2 = 0
      · rw [if_neg (by simpa using h5)] at h
        obtain ⟨g1, g2, g3⟩ := hi b (inner b).1 hbb (Prod.ext rfl h5)
        simp only [Prod.mk.injEq] at h
        obtain ⟨rfl, rfl, _⟩ := h
        generalize (inner b).1 = l at *
        have hl1 : (layE.L l).length = sumS l := layL_len_of l fun e he => lay_len e (g2 e he).1 (g2 e he).2
        have hl2 : sumS l = n := by rw [← hl1, g1, hbl]
        refine ⟨?_, by omega, ?_, ?_, ?_⟩
        · rw [layE_made, hsp, g1, hbl, show 64 * (t / 64) + t % 32 + 32 = t by omega]
        · simp only [fineE]
          rw [fineL_of l fun e he => (g2 e he).1, decide_eq_true (show 0 ≤ t / 64 ∧ t / 64 < 4 ∧ 0 ≤ t % 32 ∧ t % 32 < 31 by omega)]
          rfl
        · simp only [sizeE]
          have : sizeE.L l (ByteArray.mk #[]).size = sumS l := by
            have := sizeL_of l 0 (by omega)
            rw [Nat.zero_add] at this
            exact this
          rw [this, hl2, ← hdl]; omega
        · simp only [deepE]
          rw [if_pos (by omega)]
          have : k + 2 - 1 = k + 1 := by omega
          rw [this]; omega
      · rw [if_pos (by simpa using h5)] at h
        simp only [Prod.mk.injEq] at h
        exact absurd h.2.2 h5
    · rw [if_neg h4] at h
      simp only [Prod.mk.injEq] at h
      obtain ⟨rfl, rfl, _⟩ := h
      have hsz : (strOfNums b).size = n := by rw [strOfNums_size, hbl]
      refine ⟨?_, by omega, ?_, ?_, ?_⟩
      · rw [layE_plain, hsp, hsz, nums_strOfNums b hbb, show 64 * (t / 64) + t % 32 = t by omega]
      · simp only [fineE]
        rw [decide_eq_true (show 0 ≤ t / 64 ∧ t / 64 < 4 ∧ 0 ≤ t % 32 ∧ t % 32 < 31 by omega)]
        simp [fineE.L]
      · simp only [sizeE, sizeE.L]
        rw [hsz, ← hdl]; omega
      · simp only [deepE]
        rw [if_pos (by omega)]
        simp [deepE.L]
  · rw [if_pos (by simpa using h1)] at h
    simp only [Prod.mk.injEq] at h
    exact absurd h.2.2 h1
theorem take_back : ∀ (k : Nat) (s : List Int) (e : El) (j : Nat), Byt s → takeB k s = (e, j, 0) → layE e = s.take j ∧ j ≤ s.length ∧ Good k e
  | 0, s, e, j, hb, h => by
    refine takeH_back _ 0 s e j hb (fun b l _ hl => ?_) h
    by_cases hn : b = []
    · simp only [hn, if_true, Prod.mk.injEq] at hl
      rw [← hl.1, hn]
      exact ⟨by simp [layE.L], by simp, by simp [deepE.L]⟩
    · rw [if_neg hn] at hl
      cases hl
  | k + 1, s, e, j, hb, h => by
    refine takeH_back _ (k + 1) s e j hb (fun b l hbb hl => ?_) h
    obtain ⟨h1, h2⟩ := allG_back (k := k) (fun s e j => take_back k s e j) b.length b l hbb (Nat.le_refl _) hl
    exact ⟨h1, fun e he => ⟨(h2 e he).1, (h2 e he).2.1⟩, deepL_of l _ _ fun e he => (h2 e he).2.2⟩
theorem good_take {k : Nat} {e : El} (h : Good k e) (r : List Int) : takeB k (layE e ++ r) = (e, (layE e).length, 0) := take_lay e k r h.1 h.2.1 h.2.2
/-- More fuel tells the same. -/
theorem allG_fuel {tk : List Int → El × Nat × Int} (hj : ∀ s e j, Byt s → tk s = (e, j, 0) → 0 < j) : ∀ (f g : Nat) (s : List Int), Byt s → s.length ≤ f → s.length ≤ g → allG tk f s = allG tk g s
  | 0, g, s, _, hf, _ => by
    have : s = [] := List.eq_nil_of_length_eq_zero (by omega)
    subst this
    cases g <;> simp [allG]
  | f + 1, 0, s, _, _, hg => by
    have : s = [] := List.eq_nil_of_length_eq_zero (by omega)
    subst this
    simp [allG]
  | f + 1, g + 1, s, hb, hf, hg => by
    by_cases hs : s = []
    · subst hs; simp [allG]
    · obtain ⟨e, j, x, hr⟩ : ∃ e j x, tk s = (e, j, x) := ⟨_, _, _, rfl⟩
      by_cases hx : x = 0
      · subst hx
        have h0 := hj s e j hb hr
        have hp := List.length_pos_iff.2 hs
        have ih := allG_fuel hj f g (s.drop j) (hb.drop j) (by rw [List.length_drop]; omega) (by rw [List.length_drop]; omega)
        unfold allG
        rw [hr]
        simp only
        rw [ih]
      · rw [allG_err hs (by rw [hr]) hx, allG_err hs (by rw [hr]) hx]
theorem take_pos (k : Nat) (s : List Int) (e : El) (j : Nat) (hb : Byt s) (h : takeB k s = (e, j, 0)) : 0 < j := by
  obtain ⟨h1, h2, _⟩ := take_back k s e j hb h
  have := congrArg List.length h1
  rw [List.length_take] at this
  have h5 := List.length_pos_iff.2 (lay_ne e)
  omega
/-- The elements of two parts. -/
theorem all_parts (k : Nat) (t : List Int) (ht : Byt t) : ∀ (l : List El), (∀ e, e ∈ l → Good k e) → Byt (layE.L l) → allB k (layE.L l ++ t) = if (allB k t).2 = 0 then (l ++ (allB k t).1, 0) else ([], (allB k t).2)
  | [], _, _ => by
    simp only [layE.L, List.nil_append]
    obtain ⟨m, y, hm⟩ : ∃ m y, allB k t = (m, y) := ⟨_, _, rfl⟩
    rw [hm]
    by_cases hy : y = 0
    · rw [if_pos hy, hy]
    · rw [if_neg hy]
      unfold allB at hm
      cases hl : t.length with
      | zero =>
        rw [List.eq_nil_of_length_eq_zero hl] at hm
        simp [allG] at hm
        exact absurd hm.2.symm hy
      | succ f =>
        rw [hl] at hm
        have hne : t ≠ [] := fun e => by rw [e] at hl; simp at hl
        obtain ⟨e, j, x, hr⟩ : ∃ e j x, takeB k t = (e, j, x) := ⟨_, _, _, rfl⟩
        by_cases hx : x = 0
        · subst hx
          obtain ⟨l2, y2, hr2⟩ : ∃ l2 y2, allG (takeB k) f (t.drop j) = (l2, y2) := ⟨_, _, rfl⟩
          by_cases hy2 : y2 = 0
          · subst hy2
            rw [allG_cons hne hr hr2] at hm
            cases hm; exact absurd rfl hy
          · rw [allG_err2 hne hr (by rw [hr2]) hy2] at hm
            cases hm; rfl
        · rw [allG_err hne (by rw [hr]) hx] at hm
          cases hm; rfl
  | a :: l, hg, hb => by
    have e1 : layE.L (a :: l) = layE a ++ layE.L l := by simp only [layE.L]
    rw [e1] at hb ⊢
    have hb2 : Byt (layE.L l) := fun x hx => hb x (by simp [hx])
    have hbt : Byt (layE.L l ++ t) := fun x hx => (List.mem_append.1 hx).elim (hb2 x) (ht x)
    have ih := all_parts k t ht l (fun e he => hg e (by simp [he])) hb2
    have hta : takeB k (layE a ++ layE.L l ++ t) = (a, (layE a).length, 0) := by rw [List.append_assoc]; exact good_take (hg a (by simp)) _
    have hpos := List.length_pos_iff.2 (lay_ne a)
    obtain ⟨f, hf⟩ : ∃ f, (layE a ++ layE.L l ++ t).length = f + 1 := ⟨(layE a ++ layE.L l ++ t).length - 1, by simp only [List.length_append]; omega⟩
    have hdr : (layE a ++ layE.L l ++ t).drop (layE a).length = layE.L l ++ t := by rw [List.append_assoc, List.drop_left]
    have hfu : allG (takeB k) f (layE.L l ++ t) = allB k (layE.L l ++ t) := allG_fuel (take_pos k) _ _ _ hbt (by simp only [List.length_append] at hf ⊢; omega) (Nat.le_refl _)
    have hne : layE a ++ layE.L l ++ t ≠ [] := by simp [lay_ne a]
    unfold allB
    rw [hf]
    show allG (takeB k) (f + 1) (layE a ++ layE.L l ++ t) = if (allB k t).2 = 0 then (a :: l ++ (allB k t).1, 0) else ([], (allB k t).2)
    by_cases hy : (allB k t).2 = 0
    · rw [if_pos hy] at ih ⊢
      exact allG_cons hne hta (by rw [hdr, hfu, ih]; rfl)
    · rw [if_neg hy] at ih ⊢
      exact allG_err2 hne hta (by rw [hdr, hfu, ih]) hy
end Go.Proofs.Ytcboggoindhmkaa
