/- Going up a line, plainly; what the landed code asks of types is what the document asks. -/
import Derived.Test.YtoaoplfbnjajiaaSm20
namespace Go.Proofs.Ytoaoplfbnjajiaa
open Go.RowKit

/-- From o on the types pre come, and then o'. -/
def wlk (l : List Ty) : Option Ty → List Ty → Option Ty → Prop
  | o, [], o' => o' = o
  | o, x :: t, o' => o = some x ∧ wlk l (fndT l x.abv) t o'
theorem wlk_snoc {l : List Ty} {x : Ty} : ∀ {pre : List Ty} {o : Option Ty}, wlk l o pre (some x) → wlk l o (pre ++ [x]) (fndT l x.abv)
  | [], _, h => ⟨h.symm, rfl⟩
  | _ :: _, _, h => ⟨h.1, wlk_snoc h.2⟩
theorem wlk_in {l : List Ty} : ∀ {pre : List Ty} {n : ByteArray} {o : Option Ty}, wlk l (fndT l n) pre o → ∀ x ∈ pre, x ∈ l
  | [], _, _, _, x, hx => by cases hx
  | y :: t, n, o, h, x, hx => by
    rcases List.mem_cons.1 hx with rfl | hx
    · exact (fnd_in h.1).1
    · exact wlk_in h.2 x hx
/-- The names of what came open the line. -/
theorem wlk_part {l : List Ty} : ∀ {pre : List Ty} {a : Ty} {k : Nat} {o : Option Ty}, wlk l (some a) pre o → pre.length ≤ k + 1 → ∃ rest, lnF l k a = pre.map (·.nam) ++ rest
  | [], a, k, _, _, _ => ⟨lnF l k a, rfl⟩
  | y :: t, a, k, o, h, hk => by
    obtain ⟨e, h⟩ := h
    obtain rfl : a = y := Option.some.inj e
    cases k with
    | zero =>
      have : t = [] := List.eq_nil_of_length_eq_zero (by simp only [List.length_cons] at hk; omega)
      subst this
      exact ⟨[], by simp [lnF]⟩
    | succ k =>
      rw [lnF]
      cases t with
      | nil => exact ⟨_, rfl⟩
      | cons z t =>
        have e : fndT l a.abv = some z := h.1
        rw [e] at h ⊢
        obtain ⟨rest, hr⟩ := wlk_part (k := k) h (by simp at hk ⊢; omega)
        exact ⟨rest, by simp only [hr]; simp⟩
/-- Where the line has ended they are all of it. -/
theorem wlk_whole {l : List Ty} : ∀ {pre : List Ty} {a : Ty} {k : Nat}, wlk l (some a) pre none → pre.length ≤ k + 1 → lnF l k a = pre.map (·.nam)
  | [], _, _, h, _ => by cases h
  | y :: t, a, k, h, hk => by
    obtain ⟨e, h⟩ := h
    obtain rfl : a = y := Option.some.inj e
    cases t with
    | nil =>
      have e : none = fndT l a.abv := h
      cases k with
      | zero => rfl
      | succ k => rw [lnF, ← e]; rfl
    | cons z t =>
      have e : fndT l a.abv = some z := h.1
      cases k with
      | zero => simp at hk
      | succ k =>
        rw [e] at h
        rw [lnF, e]
        simp only
        rw [wlk_whole (k := k) h (by simp at hk ⊢; omega)]
        rfl
theorem wlk_none {l : List Ty} {pre : List Ty} {o : Option Ty} (h : wlk l none pre o) : pre = [] := by
  cases pre with
  | nil => rfl
  | cons y t => cases h.1
/-- A line that ends by the document's steps. -/
theorem wlk_len {l : List Ty} (hk : okT l = true) : ∀ {k : Nat} {a : Ty} {pre : List Ty} {o : Option Ty}, upT l k a = true → wlk l (some a) pre o → pre.length ≤ k + 1
  | k, a, [], _, _, _ => by simp
  | k, a, y :: t, o, hu, h => by
    obtain ⟨e, h⟩ := h
    obtain rfl : a = y := Option.some.inj e
    by_cases e : a.abv = te
    · rw [e, fnd_empty hk] at h
      rw [wlk_none h]
      simp
    · cases k with
      | zero => exact absurd (of_decide_eq_true hu) e
      | succ k =>
        rw [upT, if_neg e] at hu
        cases hf : fndT l a.abv with
        | none => rw [hf] at h; rw [wlk_none h]; simp
        | some b =>
          rw [hf] at h hu
          simp only at hu
          split at hu
          · have := wlk_len hk hu h
            simp
            omega
          · cases hu
/-- Texts that are all apart, all among others, are no more than those. -/
theorem apart_len : ∀ (L M : List ByteArray), (∀ i k, i < L.length → k < i → L.getD k te ≠ L.getD i te) → (∀ x ∈ L, x ∈ M) → L.length ≤ M.length
  | [], _, _, _ => by simp
  | x :: t, M, h, hm => by
    have hx : x ∈ M := hm x (by simp)
    have h1 := apart_len t (M.eraseP fun y => decide (y = x)) (fun i k hi hk => by
      have := h (i + 1) (k + 1) (by simp; omega) (by omega)
      simpa using this) (fun y hy => by
      obtain ⟨i, hi, rfl⟩ := List.getElem_of_mem hy
      have hne : ¬ t[i] = x := fun e => by
        have := h (i + 1) 0 (by simp; omega) (by omega)
        apply this
        simp [List.getD, hi, e]
      exact (List.mem_eraseP_of_neg (by simpa using hne)).2 (hm _ (by simp)))
    rw [List.length_eraseP_of_mem hx (by simp)] at h1
    have := List.length_pos_of_mem hx
    simp
    omega
theorem line_few {l : List Ty} (n : ByteArray) : (lineT l n).length ≤ l.length := by
  cases hf : findT l n with
  | none => unfold lineT; rw [hf]; simp
  | some a =>
    have := apart_len (lineT l n) (l.map (·.nam)) (fun i k hi hk => lines20_apart hf i k hi hk) (fun x hx => by
      obtain ⟨i, hi, rfl⟩ := List.getElem_of_mem hx
      obtain ⟨b, hb, _⟩ := lines20 hf i hi
      obtain ⟨_, h1, h2⟩ := find_some hb
      have e : (lineT l n).getD i te = (lineT l n)[i] := by simp [List.getD, hi]
      rw [← e, ← h2]
      exact List.mem_map_of_mem h1)
    rw [List.length_map] at this
    exact this
theorem wlk_few {l : List Ty} (hk : okT l = true) {n : ByteArray} {pre : List Ty} {o : Option Ty} (h : wlk l (fndT l n) pre o) : pre.length ≤ l.length ∧ ∃ rest, lineT l n = pre.map (·.nam) ++ rest := by
  cases hf : fndT l n with
  | none =>
    rw [hf] at h
    rw [wlk_none h]
    exact ⟨by simp, lineT l n, rfl⟩
  | some a =>
    rw [hf] at h
    have ha := (fnd_in hf).1
    have h1 := wlk_len hk (okT_up hk ha) h
    have e : lineT l n = lnF l (l.length + 1) a := by unfold lineT; rw [find_ok hk, hf]
    obtain ⟨rest, hr⟩ := wlk_part (k := l.length + 1) h (by omega)
    have h2 := line_few (l := l) n
    rw [e, hr] at h2
    exact ⟨by simp at h2; omega, rest, by rw [e, hr]⟩
theorem wlk_line {l : List Ty} (hk : okT l = true) {n : ByteArray} {xs : List Ty} (h : wlk l (fndT l n) xs none) : lineT l n = xs.map (·.nam) := by
  have h0 := (wlk_few hk h).1
  cases hf : fndT l n with
  | none =>
    rw [hf] at h
    rw [wlk_none h]
    unfold lineT
    rw [find_ok hk, hf]
    rfl
  | some a =>
    rw [hf] at h
    have e : lineT l n = lnF l (l.length + 1) a := by unfold lineT; rw [find_ok hk, hf]
    rw [e, wlk_whole h (by omega)]
/-- What the landed code asks of a type's Above. -/
def abvB (l : List Ty) (a : Ty) : Bool := if a.abv = te then true else match fndT l a.abv with
  | none => false
  | some b => decide (b.syn = a.syn)
def fitA (a : Ty) : Bool := wrdB (nums a.nam) && fitR a.syn a.rul
def bsAt (l : List Ty) (k : Nat) : Prop := fitA (l.getD k ty0) = true ∧ (k = 0 ∨ lsT (l.getD (k - 1) ty0).nam (l.getD k ty0).nam = true)
theorem up_abv {l : List Ty} {a : Ty} {k : Nat} (h : upT l (k + 1) a = true) : abvB l a = true := by
  unfold abvB
  rw [upT] at h
  split
  · rfl
  · rename_i e
    rw [if_neg e] at h
    cases hf : fndT l a.abv with
    | none => rw [hf] at h; cases h
    | some b =>
      rw [hf] at h
      simp only at h ⊢
      split at h
      · exact decide_eq_true (by assumption)
      · cases h
theorem okT_abv {l : List Ty} (h : okT l = true) {a : Ty} (ha : a ∈ l) : abvB l a = true := up_abv (okT_up h ha)
theorem up_of {l : List Ty} (h0 : fndT l te = none) (ha : ∀ x ∈ l, abvB l x = true) : ∀ {xs : List Ty} {a : Ty} {k : Nat}, a ∈ l → wlk l (some a) xs none → xs.length ≤ k + 1 → upT l k a = true
  | [], _, _, _, h, _ => by cases h
  | y :: t, a, k, hm, h, hk => by
    obtain ⟨e, h⟩ := h
    obtain rfl : a = y := Option.some.inj e
    by_cases e : a.abv = te
    · exact up_stop e k
    · have hb := ha a hm
      unfold abvB at hb
      rw [if_neg e] at hb
      cases hf : fndT l a.abv with
      | none => rw [hf] at hb; cases hb
      | some b =>
        rw [hf] at hb h
        have hs := of_decide_eq_true hb
        cases t with
        | nil => cases h
        | cons z t =>
          cases k with
          | zero => simp at hk
          | succ k =>
            rw [up_more e hf hs]
            exact up_of h0 ha (fnd_in hf).1 h (by simp at hk ⊢; omega)
/-- Names that rise are all apart. -/
theorem bs_rise {l : List Ty} (h : ∀ k, k < l.length → bsAt l k) : ∀ (d i : Nat), i + d + 1 < l.length → lsT (l.getD i ty0).nam (l.getD (i + d + 1) ty0).nam = true := by
  have one : ∀ i, i + 1 < l.length → lsT (l.getD i ty0).nam (l.getD (i + 1) ty0).nam = true := fun i hi => by
    rcases (h (i + 1) hi).2 with q | q
    · omega
    · simpa using q
  intro d
  induction d with
  | zero => exact fun i hi => one i hi
  | succ d ih =>
    intro i hi
    exact ls_tr _ _ _ (ih i (by omega)) (one (i + d + 1) (by omega))
theorem bs_inj {l : List Ty} (h : ∀ k, k < l.length → bsAt l k) {i j : Nat} (hi : i < l.length) (hj : j < l.length) (e : (l.getD i ty0).nam = (l.getD j ty0).nam) : i = j := by
  apply Classical.byContradiction
  intro hn
  rcases Nat.lt_or_ge i j with q | q
  · have := bs_rise h (j - i - 1) i (by omega)
    rw [show i + (j - i - 1) + 1 = j by omega, e] at this
    unfold lsT at this
    rw [ls_irr] at this
    cases this
  · have := bs_rise h (i - j - 1) j (by omega)
    rw [show j + (i - j - 1) + 1 = i by omega, e] at this
    unfold lsT at this
    rw [ls_irr] at this
    cases this
theorem bs_fnd {l : List Ty} (h : ∀ k, k < l.length → bsAt l k) {a : Ty} (ha : a ∈ l) : fndT l a.nam = some a := by
  cases hf : fndT l a.nam with
  | none =>
    unfold fndT at hf
    rw [List.find?_eq_none] at hf
    exact absurd (decide_eq_true rfl) (hf a ha)
  | some b =>
    obtain ⟨hb, e⟩ := fnd_in hf
    obtain ⟨i, hi, rfl⟩ := List.getElem_of_mem ha
    obtain ⟨j, hj, rfl⟩ := List.getElem_of_mem hb
    have := bs_inj h hj hi (by simpa [List.getD, hi, hj] using e)
    subst this
    rfl
theorem bs_empty {l : List Ty} (h : ∀ k, k < l.length → bsAt l k) : fndT l te = none := by
  cases hf : fndT l te with
  | none => rfl
  | some b =>
    obtain ⟨hb, e⟩ := fnd_in hf
    obtain ⟨i, hi, rfl⟩ := List.getElem_of_mem hb
    have := (h i hi).1
    unfold fitA at this
    rw [show l.getD i ty0 = l[i] by simp [List.getD, hi], e] at this
    have hw : wrdB (nums te) = false := by kernel_rfl
    rw [hw] at this
    simp at this
theorem okTo_of {l : List Ty} : ∀ n, n ≤ l.length → (∀ k, k < n → okAt20 l k = true) → okTo20 l n = true
  | 0, _, _ => rfl
  | n + 1, hn, h => by rw [okTo20, okTo_of n (by omega) (fun k hk => h k (by omega)), h n (by omega)]; rfl
/-- Types that the landed code lets be may be. -/
theorem ok_of {l : List Ty} (hl : l.length ≤ 24) (hb : ∀ k, k < l.length → bsAt l k) (ha : ∀ k, k < l.length → abvB l (l.getD k ty0) = true ∧ ∃ xs, xs.length ≤ l.length ∧ wlk l (fndT l (l.getD k ty0).nam) xs none) : okT l = true := by
  unfold okT
  rw [decide_eq_true hl, Bool.true_and]
  have ha2 : ∀ x ∈ l, abvB l x = true := fun x hx => by
    obtain ⟨i, hi, rfl⟩ := List.getElem_of_mem hx
    have := (ha i hi).1
    rwa [show l.getD i ty0 = l[i] by simp [List.getD, hi]] at this
  refine okTo_of _ (Nat.le_refl _) fun k hk => ?_
  obtain ⟨h1, h2⟩ := hb k hk
  obtain ⟨_, xs, hx, hw⟩ := ha k hk
  have hm : l.getD k ty0 ∈ l := by simp [List.getD, hk]
  rw [bs_fnd hb hm] at hw
  have hu := up_of (bs_empty hb) ha2 (k := l.length + 1) hm hw (by omega)
  unfold fitA at h1
  rw [Bool.and_eq_true] at h1
  unfold okAt20 oneT
  rw [h1.1, h1.2, hu]
  rcases h2 with rfl | h2
  · rfl
  · rw [h2]; simp
theorem ok_fit {l : List Ty} (h : okT l = true) {k : Nat} (hk : k < l.length) : bsAt l k := by
  have := okT_at h hk
  unfold okAt20 oneT at this
  rw [Bool.and_eq_true, Bool.and_eq_true, Bool.and_eq_true, Bool.or_eq_true] at this
  refine ⟨by unfold fitA; rw [this.1.1.1, this.1.1.2]; rfl, ?_⟩
  rcases this.2 with q | q
  · exact .inl (of_decide_eq_true q)
  · exact .inr q
theorem not_ok {l : List Ty} (h : ¬ okT l = true) : okT l = false := by
  cases hq : okT l
  · rfl
  · exact absurd hq h
end Go.Proofs.Ytoaoplfbnjajiaa
