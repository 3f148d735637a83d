/- The sort of runes: pdqsort's plain half: the range that is left, and what its sorting makes of the whole. -/
import Derived.Test.YtnlkefdicpeemaaPartEq
namespace Go.Proofs.Ytnlkefdicpeemaa
open Go.Sort (ltInt swp PermIn SortedIn)

theorem lt_f (x y : Int) : ltInt x y = false ↔ y ≤ x := by simp [ltInt]
theorem lt_t (x y : Int) : ltInt x y = true ↔ x < y := by simp [ltInt]

/-- What is left to be sorted of the range from a up to b: the range from x up to y. -/
structure St (a b : Nat) (d : Array Int) (x y : Nat) (dk : Array Int) : Prop where
  ax : a ≤ x
  xy : x ≤ y
  yb : y ≤ b
  bs : b ≤ d.size
  sz : dk.size = d.size
  perm : PermIn a b d dk
  bel : x = 0 ∨ ∀ i, x ≤ i → i < y → dk[x - 1]! ≤ dk[i]!
  fin : ∀ d', PermIn x y dk d' → SortedIn ltInt x y d' → SortedIn ltInt a b d'

theorem St.start {a b : Nat} {d : Array Int} (hab : a ≤ b) (hb : b ≤ d.size) (hB : a = 0 ∨ ∀ i, a ≤ i → i < b → d[a - 1]! ≤ d[i]!) : St a b d a b d :=
  ⟨Nat.le_refl _, hab, Nat.le_refl _, hb, rfl, Go.Sort.permIn_refl d a b, hB, fun _ _ h => h⟩
theorem St.below {a b x y : Nat} {d dk : Array Int} (h : St a b d x y dk) : Go.Sort.Below ltInt x y dk :=
  h.bel.imp id fun h i h1 h2 => (lt_f _ _).2 (h i h1 h2)
theorem bel_perm {x y : Nat} {d d1 : Array Int} (hy : y ≤ d.size) (hp : PermIn x y d d1) (hB : x = 0 ∨ ∀ i, x ≤ i → i < y → d[x - 1]! ≤ d[i]!) : x = 0 ∨ ∀ i, x ≤ i → i < y → d1[x - 1]! ≤ d1[i]! := by
  rcases hB with h | h
  · exact .inl h
  · by_cases hx : x = 0
    · exact .inl hx
    · refine .inr fun i h1 h2 => ?_
      rw [hp.2.1 (x - 1) (.inl (by omega))]
      exact Go.Sort.permIn_all d d1 x y (fun z => d[x - 1]! ≤ z) hy hp h i h1 h2
theorem St.step {a b x y : Nat} {d dk d1 : Array Int} (h : St a b d x y dk) (hp : PermIn x y dk d1) : St a b d x y d1 :=
  { h with
    sz := hp.1.trans h.sz
    perm := Go.Sort.permIn_trans _ _ _ a b h.perm (Go.Sort.permIn_mono dk d1 x y a b h.ax h.yb (by rw [h.sz]; exact h.bs) hp)
    bel := bel_perm (by rw [h.sz]; exact Nat.le_trans h.yb h.bs) hp h.bel
    fin := fun d' h1 h2 => h.fin d' (Go.Sort.permIn_trans _ _ _ x y hp h1) h2 }
theorem St.done {a b x y : Nat} {d dk d' : Array Int} (h : St a b d x y dk) (hp : PermIn x y dk d') (hs : SortedIn ltInt x y d') : PermIn a b d d' ∧ SortedIn ltInt a b d' :=
  ⟨(h.step hp).perm, h.fin d' hp hs⟩

/-- Behind partitionEqual. -/
theorem St.eq {a b x y mid : Nat} {d d3 d4 : Array Int} {p : Int} (h : St a b d x y d3) (hPe : Pe (fun z => ltInt p z) p x y d3 mid (mid - 1) d4) (hm : mid ≤ y) (h0 : 0 < x) (hl : ltInt d3[x - 1]! p = false) : St a b d mid y d4 := by
  have h4 := h.step hPe.perm
  have hai := hPe.ai
  have hpre : d4[x - 1]! = d3[x - 1]! := hPe.perm.2.1 (x - 1) (.inl (by omega))
  have hbel : ∀ i, x ≤ i → i < y → d4[x - 1]! ≤ d4[i]! := by
    rcases h4.bel with h5 | h5
    · omega
    · exact h5
  have hp : p ≤ d4[x - 1]! := by rw [hpre]; exact (lt_f _ _).1 hl
  have hlo : ∀ t, x ≤ t → t < mid → d4[t]! ≤ p := fun t h1 h2 => by
    by_cases ht : t = x
    · rw [ht, hPe.pa]; omega
    · exact (lt_f _ _).1 (hPe.lo t (by omega) h2)
  have hhi : ∀ t, mid ≤ t → t < y → p < d4[t]! := fun t h1 h2 => (lt_t _ _).1 (hPe.hi t (by omega) h2)
  refine { h4 with ax := Nat.le_trans h4.ax (Nat.le_of_lt hai), xy := hm, bel := .inr fun i h1 h2 => ?_, fin := fun d' hp' hs' => ?_ }
  · have := hlo (mid - 1) (by omega) (by omega)
    have := hhi i h1 h2
    omega
  · refine h4.fin d' (Go.Sort.permIn_mono d4 d' mid y x y (by omega) (Nat.le_refl _) (by rw [h4.sz]; exact Nat.le_trans h4.yb h4.bs) hp') ?_
    have hhi' : ∀ t, mid ≤ t → t < y → p < d'[t]! := fun t h1 h2 => Go.Sort.permIn_all d4 d' mid y (fun z => p < z) (by rw [h4.sz]; exact Nat.le_trans h4.yb h4.bs) hp' hhi t h1 h2
    intro i j h1 h2 h3
    rw [lt_f]
    by_cases hj : j < mid
    · rw [hp'.2.1 i (.inl (by omega)), hp'.2.1 j (.inl hj)]
      have e1 := hlo i h1 (by omega)
      have e2 := hbel j (by omega) h3
      omega
    · by_cases hi : i < mid
      · rw [hp'.2.1 i (.inl hi)]
        have e1 := hlo i h1 hi
        have e2 := hhi' j (by omega) h3
        omega
      · exact (lt_f _ _).1 (hs' i j (by omega) h2 h3)

/-- A row that is parted at mid. -/
structure Ct (x y mid : Nat) (d4 : Array Int) : Prop where
  xm : x ≤ mid
  my : mid < y
  lo : ∀ t, x ≤ t → t < mid → d4[t]! < d4[mid]!
  hi : ∀ t, mid < t → t < y → d4[mid]! ≤ d4[t]!
theorem ct_of {x y mid : Nat} {d3 dk : Array Int} {p : Int} (hPe : Pe (fun z => !ltInt z p) p x y d3 (mid + 1) mid dk) : PermIn x y d3 (swp dk mid x) ∧ Ct x y mid (swp dk mid x) := by
  have hai := hPe.ai
  have hjb := hPe.jb
  have hbs : y ≤ dk.size := by rw [hPe.sz]; exact hPe.bs
  have hm : (swp dk mid x)[mid]! = p := by
    by_cases h : mid = x
    · subst h; rw [Go.Sort.swp_right dk mid mid (by omega)]; exact hPe.pa
    · rw [Go.Sort.swp_left dk mid x (by omega) h]; exact hPe.pa
  refine ⟨Go.Sort.permIn_trans _ _ _ x y hPe.perm (Go.Sort.swp_permIn dk x y mid x (by omega) hjb (Nat.le_refl _) (by omega) hbs), by omega, hjb, fun t h1 h2 => ?_, fun t h1 h2 => ?_⟩
  · rw [hm]
    have key : ∀ s, x < s → s < mid + 1 → dk[s]! < p := fun s h3 h4 => by have := hPe.lo s h3 h4; simp only [Bool.not_eq_false'] at this; exact (lt_t _ _).1 this
    by_cases ht : t = x
    · subst ht
      rw [Go.Sort.swp_right dk mid t (by omega)]
      exact key mid (by omega) (by omega)
    · rw [Go.Sort.swp_other dk mid x t (by omega) ht]
      exact key t (by omega) (by omega)
  · rw [hm, Go.Sort.swp_other dk mid x t (by omega) (by omega)]
    have := hPe.hi t h1 h2
    simp only [Bool.not_eq_true'] at this
    exact (lt_f _ _).1 this

theorem glue {x y mid : Nat} {d4 d' : Array Int} (hm : d'[mid]! = d4[mid]!)
    (hlo : ∀ t, x ≤ t → t < mid → d'[t]! < d4[mid]!) (hhi : ∀ t, mid < t → t < y → d4[mid]! ≤ d'[t]!) (s1 : SortedIn ltInt x mid d') (s2 : SortedIn ltInt (mid + 1) y d') : SortedIn ltInt x y d' := by
  intro i j h1 h2 h3
  rw [lt_f]
  by_cases hj : j < mid
  · exact (lt_f _ _).1 (s1 i j h1 h2 hj)
  · by_cases hi : mid < i
    · exact (lt_f _ _).1 (s2 i j hi h2 h3)
    · have e1 : d'[i]! ≤ d4[mid]! := by
        by_cases he : i = mid
        · rw [he, hm]; omega
        · have := hlo i h1 (by omega); omega
      have e2 : d4[mid]! ≤ d'[j]! := by
        by_cases he : j = mid
        · rw [he, hm]; omega
        · exact hhi j (by omega) h3
      omega

theorem St.left {a b x y mid : Nat} {d d4 d5 : Array Int} (h : St a b d x y d4) (hc : Ct x y mid d4) (hp : PermIn x mid d4 d5) (hs : SortedIn ltInt x mid d5) : St a b d (mid + 1) y d5 := by
  have hsz : y ≤ d4.size := by rw [h.sz]; exact Nat.le_trans h.yb h.bs
  have h5 := h.step (Go.Sort.permIn_mono d4 d5 x mid x y (Nat.le_refl _) (Nat.le_of_lt hc.my) hsz hp)
  have hm : d5[mid]! = d4[mid]! := hp.2.1 mid (.inr (Nat.le_refl _))
  have hlo : ∀ t, x ≤ t → t < mid → d5[t]! < d4[mid]! := Go.Sort.permIn_all d4 d5 x mid (fun z => z < d4[mid]!) (by have := hc.my; omega) hp hc.lo
  have hhi : ∀ t, mid < t → t < y → d4[mid]! ≤ d5[t]! := fun t h1 h2 => by rw [hp.2.1 t (.inr (by omega))]; exact hc.hi t h1 h2
  have hsz5 : y ≤ d5.size := by rw [hp.1]; exact hsz
  refine { h5 with ax := by have := h5.ax; have := hc.xm; omega, xy := hc.my, bel := .inr fun i h1 h2 => ?_, fin := fun d' hp' hs' => ?_ }
  · rw [Nat.add_sub_cancel, hm]; exact hhi i (by omega) h2
  · refine h5.fin d' (Go.Sort.permIn_mono d5 d' (mid + 1) y x y (by have := hc.xm; omega) (Nat.le_refl _) hsz5 hp') ?_
    refine glue (d4 := d4) ((hp'.2.1 mid (.inl (by omega))).trans hm) (fun t h1 h2 => by rw [hp'.2.1 t (.inl (by omega))]; exact hlo t h1 h2) (fun t h1 h2 => Go.Sort.permIn_all d5 d' (mid + 1) y (fun z => d4[mid]! ≤ z) hsz5 hp' (fun i h3 h4 => hhi i (by omega) h4) t (by omega) h2) (fun i j h1 h2 h3 => ?_) hs'
    rw [hp'.2.1 i (.inl (by omega)), hp'.2.1 j (.inl (by omega))]
    exact hs i j h1 h2 h3
theorem St.right {a b x y mid : Nat} {d d4 d5 : Array Int} (h : St a b d x y d4) (hc : Ct x y mid d4) (hp : PermIn (mid + 1) y d4 d5) (hs : SortedIn ltInt (mid + 1) y d5) : St a b d x mid d5 := by
  have hsz : y ≤ d4.size := by rw [h.sz]; exact Nat.le_trans h.yb h.bs
  have hxm := hc.xm
  have hmy := hc.my
  have h5 := h.step (Go.Sort.permIn_mono d4 d5 (mid + 1) y x y (by omega) (Nat.le_refl _) hsz hp)
  have hm : d5[mid]! = d4[mid]! := hp.2.1 mid (.inl (by omega))
  have hlo : ∀ t, x ≤ t → t < mid → d5[t]! < d4[mid]! := fun t h1 h2 => by rw [hp.2.1 t (.inl (by omega))]; exact hc.lo t h1 h2
  have hhi : ∀ t, mid < t → t < y → d4[mid]! ≤ d5[t]! := fun t h1 h2 => Go.Sort.permIn_all d4 d5 (mid + 1) y (fun z => d4[mid]! ≤ z) hsz hp (fun i h3 h4 => hc.hi i (by omega) h4) t (by omega) h2
  have hsz5 : y ≤ d5.size := by rw [hp.1]; exact hsz
  refine { h5 with xy := hxm, yb := Nat.le_trans (Nat.le_of_lt hmy) h5.yb, bel := h5.bel.imp id (fun hh i h1 h2 => hh i h1 (by omega)), fin := fun d' hp' hs' => ?_ }
  refine h5.fin d' (Go.Sort.permIn_mono d5 d' x mid x y (Nat.le_refl _) (Nat.le_of_lt hmy) hsz5 hp') ?_
  refine glue (d4 := d4) ((hp'.2.1 mid (.inr (Nat.le_refl _))).trans hm) (Go.Sort.permIn_all d5 d' x mid (fun z => z < d4[mid]!) (by omega) hp' hlo) (fun t h1 h2 => by rw [hp'.2.1 t (.inr (by omega))]; exact hhi t h1 h2) hs' (fun i j h1 h2 h3 => ?_)
  rw [hp'.2.1 i (.inr (by omega)), hp'.2.1 j (.inr (by omega))]
  exact hs i j h1 h2 h3
end Go.Proofs.Ytnlkefdicpeemaa
