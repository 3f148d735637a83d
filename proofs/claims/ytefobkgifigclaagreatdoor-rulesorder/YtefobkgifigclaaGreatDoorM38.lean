/- Going up a line, plainly; what the landed code asks of types is what the document asks. -/
import Derived.Test.YtefobkgifigclaaGreatDoorM37
import Derived.Deep.RegionHeld3
namespace Go.Proofs.YtefobkgifigclaaGreatDoor.S20
set_option maxRecDepth 100000
open Go.RowKit

/-- From o on the types pre come, and then o'. -/
def wlk (l : List Ty) : Option Ty → List Ty → Option Ty → Prop
  | o, [], o' => o' = o
  | o, x :: t, o' => o = some x ∧ wlk l (fndT l x.abv) t o'
theorem wlk_snoc {l : List Ty} {x : Ty} : ∀ {pre : List Ty} {o : Option Ty}, wlk l o pre (some x) → wlk l o (pre ++ [x]) (fndT l x.abv)
  | [], _, h => ⟨h.symm, rfl⟩
  | _ :: _, _, h => ⟨h.1, wlk_snoc h.2⟩
theorem wlk_in {l : List Ty} : ∀ {pre : List Ty} {n : ByteArray} {o : Option Ty}, wlk l (fndT l n) pre o → ∀ x ∈ pre, x ∈ l
  | [], _, _, _, x, hx => by cases hx
  | y :: t, n, o, h, x, hx => by
    rcases List.mem_cons.1 hx with rfl | hx
    · exact (fnd_in h.1).1
    · exact wlk_in h.2 x hx
/-- The names of what came open the line. -/
theorem wlk_part {l : List Ty} : ∀ {pre : List Ty} {a : Ty} {k : Nat} {o : Option Ty}, wlk l (some a) pre o → pre.length ≤ k + 1 → ∃ rest, lnF l k a = pre.map (·.nam) ++ rest
  | [], a, k, _, _, _ => ⟨lnF l k a, rfl⟩
  | y :: t, a, k, o, h, hk => by
    obtain ⟨e, h⟩ := h
    obtain rfl : a = y := Option.some.inj e
    cases k with
    | zero =>
      have : t = [] := List.eq_nil_of_length_eq_zero (by simp only [List.length_cons] at hk; omega)
      subst this
      exact ⟨[], by simp [lnF]⟩
    | succ k =>
      rw [lnF]
      cases t with
      | nil => exact ⟨_, rfl⟩
      | cons z t =>
        have e : fndT l a.abv = some z := h.1
        rw [e] at h ⊢
        obtain ⟨rest, hr⟩ := wlk_part (k := k) h (by simp at hk ⊢; omega)
        exact ⟨rest, by simp only [hr]; simp⟩
/-- Where the line has ended they are all of it. -/
theorem wlk_whole {l : List Ty} : ∀ {pre : List Ty} {a : Ty} {k : Nat}, wlk l (some a) pre none → pre.length ≤ k + 1 → lnF l k a = pre.map (·.nam)
  | [], _, _, h, _ => by cases h
  | y :: t, a, k, h, hk => by
    obtain ⟨e, h⟩ := h
    obtain rfl : a = y := Option.some.inj e
    cases t with
    | nil =>
      have e : none = fndT l a.abv := h
      cases k with
      | zero => rfl
      | succ k => rw [lnF, ← e]; rfl
    | cons z t =>
      have e : fndT l a.abv = some z := h.1
      cases k with
      | zero => simp at hk
      | succ k =>
        rw [e] at h
        rw [lnF, e]
        simp only
        rw [wlk_whole (k := k) h (by simp at hk ⊢; omega)]
        rfl
theorem wlk_none {l : List Ty} {pre : List Ty} {o : Option Ty} (h : wlk l none pre o) : pre = [] := by
  cases pre with
  | nil => rfl
  | cons y t => cases h.1
/-- A line that ends by the document's steps. -/
theorem wlk_len {l : List Ty} (hk : okT l = true) : ∀ {k : Nat} {a : Ty} {pre : List Ty} {o : Option Ty}, upT l k a = true → wlk l (some a) pre o → pre.length ≤ k + 1
  | k, a, [], _, _, _ => by simp
  | k, a, y :: t, o, hu, h => by
    obtain ⟨e, h⟩ := h
    obtain rfl : a = y := Option.some.inj e
    by_cases e : a.abv = te
    · rw [e, fnd_empty hk] at h
      rw [wlk_none h]
      simp
    · cases k with
      | zero => exact absurd (of_decide_eq_true hu) e
      | succ k =>
        rw [upT, if_neg e] at hu
        cases hf : fndT l a.abv with
        | none => rw [hf] at h; rw [wlk_none h]; simp
        | some b =>
          rw [hf] at h hu
          simp only at hu
          split at hu
          · have := wlk_len hk hu h
            simp
            omega
          · cases hu
/-- Texts that are all apart, all among others, are no more than those. -/
theorem apart_len : ∀ (L M : List ByteArray), (∀ i k, i < L.length → k < i → L.getD k te ≠ L.getD i te) → (∀ x ∈ L, x ∈ M) → L.length ≤ M.length
  | [], _, _, _ => by simp
  | x :: t, M, h, hm => by
    have hx : x ∈ M := hm x (by simp)
    have h1 := apart_len t (M.eraseP fun y => decide (y = x)) (fun i k hi hk => by
      have := h (i + 1) (k + 1) (by simp; omega) (by omega)
      simpa using this) (fun y hy => by
      obtain ⟨i, hi, rfl⟩ := List.getElem_of_mem hy
      have hne : ¬ t[i] = x := fun e => by
        have := h (i + 1) 0 (by simp; omega) (by omega)
        apply this
        simp [List.getD, hi, e]
      exact (List.mem_eraseP_of_neg (by simpa using hne)).2 (hm _ (by simp)))
    rw [List.length_eraseP_of_mem hx (by simp)] at h1
    have := List.length_pos_of_mem hx
    simp
    omega
theorem line_few {l : List Ty} (n : ByteArray) : (lineT l n).length ≤ l.length := by
  cases hf : findT l n with
  | none => unfold lineT; rw [hf]; simp
  | some a =>
    have := apart_len (lineT l n) (l.map (·.nam)) (fun i k hi hk => lines20_apart hf i k hi hk) (fun x hx => by
      obtain ⟨i, hi, rfl⟩ := List.getElem_of_mem hx
      obtain ⟨b, hb, _⟩ := lines20 hf i hi
      obtain ⟨_, h1, h2⟩ := find_some hb
      have e : (lineT l n).getD i te = (lineT l n)[i] := by simp [List.getD, hi]
      rw [← e, ← h2]
      exact List.mem_map_of_mem h1)
    rw [List.length_map] at this
    exact this
theorem wlk_few {l : List Ty} (hk : okT l = true) {n : ByteArray} {pre : List Ty} {o : Option Ty} (h : wlk l (fndT l n) pre o) : pre.length ≤ l.length ∧ ∃ rest, lineT l n = pre.map (·.nam) ++ rest := by
  cases hf : fndT l n with
  | none =>
    rw [hf] at h
    rw [wlk_none h]
    exact ⟨by simp, lineT l n, rfl⟩
  | some a =>
    rw [hf] at h
    have ha := (fnd_in hf).1
    have h1 := wlk_len hk (okT_up hk ha) h
    have e : lineT l n = lnF l (l.length + 1) a := by unfold lineT; rw [find_ok hk, hf]
    obtain ⟨rest, hr⟩ := wlk_part (k := l.length + 1) h (by omega)
    have h2 := line_few (l := l) n
    rw [e, hr] at h2
    exact ⟨by simp at h2; omega, rest, by rw [e, hr]⟩
theorem wlk_line {l : List Ty} (hk : okT l = true) {n : ByteArray} {xs : List Ty} (h : wlk l (fndT l n) xs none) : lineT l n = xs.map (·.nam) := by
  have h0 := (wlk_few hk h).1
  cases hf : fndT l n with
  | none =>
    rw [hf] at h
    rw [wlk_none h]
    unfold lineT
    rw [find_ok hk, hf]
    rfl
  | some a =>
    rw [hf] at h
    have e : lineT l n = lnF l (l.length + 1) a := by unfold lineT; rw [find_ok hk, hf]
    rw [e, wlk_whole h (by omega)]
/-- What the landed code asks of a type's Above. -/
def abvB (l : List Ty) (a : Ty) : Bool := if a.abv = te then true else match fndT l a.abv with
  | none => false
  | some b => decide (b.syn = a.syn)
def fitA (a : Ty) : Bool := wrdB (nums a.nam) && fitR a.syn a.rul
def bsAt (l : List Ty) (k : Nat) : Prop := fitA (l.getD k ty0) = true ∧ (k = 0 ∨ lsT (l.getD (k - 1) ty0).nam (l.getD k ty0).nam = true)
theorem up_abv {l : List Ty} {a : Ty} {k : Nat} (h : upT l (k + 1) a = true) : abvB l a = true := by
  unfold abvB
  rw [upT] at h
  split
  · rfl
  · rename_i e
    rw [if_neg e] at h
    cases hf : fndT l a.abv with
    | none => rw [hf] at h; cases h
    | some b =>
      rw [hf] at h
      simp only at h ⊢
      split at h
      · exact decide_eq_true (by assumption)
      · cases h
theorem okT_abv {l : List Ty} (h : okT l = true) {a : Ty} (ha : a ∈ l) : abvB l a = true := up_abv (okT_up h ha)
theorem up_of {l : List Ty} (h0 : fndT l te = none) (ha : ∀ x ∈ l, abvB l x = true) : ∀ {xs : List Ty} {a : Ty} {k : Nat}, a ∈ l → wlk l (some a) xs none → xs.length ≤ k + 1 → upT l k a = true
  | [], _, _, _, h, _ => by cases h
  | y :: t, a, k, hm, h, hk => by
    obtain ⟨e, h⟩ := h
    obtain rfl : a = y := Option.some.inj e
    by_cases e : a.abv = te
    · exact up_stop e k
    · have hb := ha a hm
      unfold abvB at hb
      rw [if_neg e] at hb
      cases hf : fndT l a.abv with
      | none => rw [hf] at hb; cases hb
      | some b =>
        rw [hf] at hb h
        have hs := of_decide_eq_true hb
        cases t with
        | nil => cases h
        | cons z t =>
          cases k with
          | zero => simp at hk
          | succ k =>
            rw [up_more e hf hs]
            exact up_of h0 ha (fnd_in hf).1 h (by simp at hk ⊢; omega)
/-- Names that rise are all apart. -/
theorem bs_rise {l : List Ty} (h : ∀ k, k < l.length → bsAt l k) : ∀ (d i : Nat), i + d + 1 < l.length → lsT (l.getD i ty0).nam (l.getD (i + d + 1) ty0).nam = true := by
  have one : ∀ i, i + 1 < l.length → lsT (l.getD i ty0).nam (l.getD (i + 1) ty0).nam = true := fun i hi => by
    rcases (h (i + 1) hi).2 with q | q
    · omega
    · simpa using q
  intro d
  induction d with
  | zero => exact fun i hi => one i hi
  | succ d ih =>
    intro i hi
    exact ls_tr _ _ _ (ih i (by omega)) (one (i + d + 1) (by omega))
theorem bs_inj {l : List Ty} (h : ∀ k, k < l.length → bsAt l k) {i j : Nat} (hi : i < l.length) (hj : j < l.length) (e : (l.getD i ty0).nam = (l.getD j ty0).nam) : i = j := by
  apply Classical.byContradiction
  intro hn
  rcases Nat.lt_or_ge i j with q | q
  · have := bs_rise h (j - i - 1) i (by omega)
    rw [show i + (j - i - 1) + 1 = j by omega, e] at this
    unfold lsT at this
    rw [ls_irr] at this
    cases this
  · have := bs_rise h (i - j - 1) j (by omega)
    rw [show j + (i - j - 1) + 1 = i by omega, e] at this
    unfold lsT at this
    rw [ls_irr] at this
    cases this
theorem bs_fnd {l : List Ty} (h : ∀ k, k < l.length → bsAt l k) {a : Ty} (ha : a ∈ l) : fndT l a.nam = some a := by
  cases hf : fndT l a.nam with
  | none =>
    unfold fndT at hf
    rw [List.find?_eq_none] at hf
    exact absurd (decide_eq_true rfl) (hf a ha)
  | some b =>
    obtain ⟨hb, e⟩ := fnd_in hf
    obtain ⟨i, hi, rfl⟩ := List.getElem_of_mem ha
    obtain ⟨j, hj, rfl⟩ := List.getElem_of_mem hb
    have := bs_inj h hj hi (by simpa [List.getD, hi, hj] using e)
    subst this
    rfl
theorem bs_empty {l : List Ty} (h : ∀ k, k < l.length → bsAt l k) : fndT l te = none := by
  cases hf : fndT l te with
  | none => rfl
  | some b =>
    obtain ⟨hb, e⟩ := fnd_in hf
    obtain ⟨i, hi, rfl⟩ := List.getElem_of_mem hb
    have := (h i hi).1
    unfold fitA at this
    rw [show l.getD i ty0 = l[i] by simp [List.getD, hi], e] at this
    have hw : wrdB (nums te) = false := by kernel_rfl
    rw [hw] at this
    simp at this
theorem okTo_of {l : List Ty} : ∀ n, n ≤ l.length → (∀ k, k < n → okAt20 l k = true) → okTo20 l n = true
  | 0, _, _ => rfl
  | n + 1, hn, h => by rw [okTo20, okTo_of n (by omega) (fun k hk => h k (by omega)), h n (by omega)]; rfl
/-- Types that the landed code lets be may be. -/
theorem ok_of {l : List Ty} (hl : l.length ≤ 24) (hb : ∀ k, k < l.length → bsAt l k) (ha : ∀ k, k < l.length → abvB l (l.getD k ty0) = true ∧ ∃ xs, xs.length ≤ l.length ∧ wlk l (fndT l (l.getD k ty0).nam) xs none) : okT l = true := by
  unfold okT
  rw [decide_eq_true hl, Bool.true_and]
  have ha2 : ∀ x ∈ l, abvB l x = true := fun x hx => by
    obtain ⟨i, hi, rfl⟩ := List.getElem_of_mem hx
    have := (ha i hi).1
    rwa [show l.getD i ty0 = l[i] by simp [List.getD, hi]] at this
  refine okTo_of _ (Nat.le_refl _) fun k hk => ?_
  obtain ⟨h1, h2⟩ := hb k hk
  obtain ⟨_, xs, hx, hw⟩ := ha k hk
  have hm : l.getD k ty0 ∈ l := by simp [List.getD, hk]
  rw [bs_fnd hb hm] at hw
  have hu := up_of (bs_empty hb) ha2 (k := l.length + 1) hm hw (by omega)
  unfold fitA at h1
  rw [Bool.and_eq_true] at h1
  unfold okAt20 oneT
  rw [h1.1, h1.2, hu]
  rcases h2 with rfl | h2
  · rfl
  · rw [h2]; simp
theorem ok_fit {l : List Ty} (h : okT l = true) {k : Nat} (hk : k < l.length) : bsAt l k := by
  have := okT_at h hk
  unfold okAt20 oneT at this
  rw [Bool.and_eq_true, Bool.and_eq_true, Bool.and_eq_true, Bool.or_eq_true] at this
  refine ⟨by unfold fitA; rw [this.1.1.1, this.1.1.2]; rfl, ?_⟩
  rcases this.2 with q | q
  · exact .inl (of_decide_eq_true q)
  · exact .inr q
theorem not_ok {l : List Ty} (h : ¬ okT l = true) : okT l = false := by
  cases hq : okT l
  · rfl
  · exact absurd hq h
end Go.Proofs.YtefobkgifigclaaGreatDoor.S20
/- The landed find of layer 20. -/
namespace Go.Proofs.YtefobkgifigclaaGreatDoor.S20
set_option maxRecDepth 100000
open Go.RowKit

def fnA (l : List Ty) (n : ByteArray) : Ty := (fndT l n).getD ty0
def fnB (l : List Ty) (n : ByteArray) : Bool := (fndT l n).isSome
theorem fndT_at {l : List Ty} {n : ByteArray} {k : Nat} (hk : k < l.length) (hb : ∀ j, j < k → (l.getD j ty0).nam ≠ n) (h : (l.getD k ty0).nam = n) : fndT l n = some (l.getD k ty0) := by
  induction l generalizing k with
  | nil => simp at hk
  | cons x t ih =>
    unfold fndT at ih ⊢
    cases k with
    | zero => rw [List.find?_cons_of_pos (by simpa using h)]; rfl
    | succ k =>
      have h0 : x.nam ≠ n := by simpa using hb 0 (by omega)
      rw [List.find?_cons_of_neg (by simpa using h0)]
      exact ih (by simpa using hk) (fun j hj => by simpa using hb (j + 1) (by omega)) (by simpa using h)
theorem fndT_not {l : List Ty} {n : ByteArray} (hb : ∀ j, j < l.length → (l.getD j ty0).nam ≠ n) : fndT l n = none := by
  unfold fndT
  rw [List.find?_eq_none]
  intro x hx
  obtain ⟨i, hi, rfl⟩ := List.getElem_of_mem hx
  have := hb i hi
  simpa [List.getD, hi] using this
set_option maxHeartbeats 3200000 in
theorem find_any (v : Value) (l : List Ty) (n : ByteArray) (w : World) (hV : TysV w v l) : Calls Tryz.prog 129 #[v, .string n] w fun e w' => e = .returned (.tuple #[aggV (fnA l n), .bool (fnB l n)]) ∧ Below w.heap.size w w' := by
  obtain ⟨a, cap, rfl, hn, hc⟩ := hV
  have HC := hide hc
  have hn2 : (l.length : Int) ≤ 9223372036854775807 := by omega
  clear hc
  go_enter Tryz.func129, Tryz.ntmps129
  go_wp2
  go_loopw [10] (fun i wr => ∃ k : Nat, k ≤ l.length ∧ i = .int .i64 (k : Int) ∧ Hid (∀ j, j < k → (l.getD j ty0).nam ≠ n) ∧ Hid (Bt w.heap.size ty0 wr) ∧ Below w.heap.size w wr) (fun i _ => l.length - (intOf i).toNat)
  case atStart => exact ⟨0, Nat.zero_le _, rfl, fun j hj => absurd hj (Nat.not_lt_zero _), heap_new w _, Below.one w _⟩
  case round =>
    obtain ⟨k, hk, rfl, HK, HB, hb⟩ := hrel
    have hsz := hb.size
    by_cases hlt : k < l.length
    · have hzl : (k : Int) < (l.length : Int) := by omega
      have hz0 : (0 : Int) ≤ (k : Int) := by omega
      obtain ⟨b, off, rfl, hcc⟩ := unhide HC (by omega)
      obtain ⟨q0, q1, q2, q3, q4, q5⟩ := (hcc k hlt)
      replace q0 := (hb.cell (cell_lt q0)).trans q0
      replace q1 := (hb.cell (cell_lt q1)).trans q1
      replace q2 := (hb.cell (cell_lt q2)).trans q2
      replace q3 := (hb.cell (cell_lt q3)).trans q3
      replace q4 := (hb.cell (cell_lt q4)).trans q4
      replace q5 := (hb.cell (cell_lt q5)).trans q5
      have HY : Hid ((l.getD k ty0).nam = n → fndT l n = some (l.getD k ty0)) := fun h => fndT_at hlt (unhide HK) h
      have HN : Hid (¬ (l.getD k ty0).nam = n → ∀ j, j < k + 1 → (l.getD j ty0).nam ≠ n) := fun h j hj => by
        by_cases e : j = k
        · rw [e]; exact h
        · exact unhide HK j (by omega)
      clear hcc HC HK
      generalize l.getD k ty0 = t at *
      have hq := txt_beq t.nam n
      have b1 : Below wr.heap.size wr (wr.alloc (.cells #[.string t.nam, .string t.abv, .int .i64 t.syn, .int .i64 t.rul, .bool t.sgl, .bool t.cls] 67)) := Below.one wr _
      have HB1 := hide ((unhide HB).keep b1)
      have hb1 := hb.trans (b1.mono hsz)
      by_cases h : t.nam = n
      · rw [decide_eq_true h] at hq
        have HE := hide (unhide HY h)
        obtain ⟨c0, c1, c2, c3, c4, c5⟩ := (unhide HB1).cells
        simp only [Nat.zero_add] at c1 c2 c3 c4 c5
        have f0 := (unhide HB1).free 0
        have f1 := (unhide HB1).free 1
        have f2 := (unhide HB1).free 2
        have f3 := (unhide HB1).free 3
        have f4 := (unhide HB1).free 4
        have f5 := (unhide HB1).free 5
        clear h HY HN HB b1
        go_wp2
        refine bodyPost_ret (res_cell2 rfl _ _ w.heap.size t rfl ((unhide HB1).put t)) rfl ?_
        exact ⟨ret_av (by unfold fnA; rw [unhide HE]; rfl) (by unfold fnB; rw [unhide HE]; rfl), put_below hb1 (Nat.le_refl _) t⟩
      · rw [decide_eq_false h] at hq
        have HK2 := hide (unhide HN h)
        clear h HY HN HB b1
        go_wp2
        go_roundw
        case rel => exact ⟨k + 1, by omega, by go_num, unhide HK2, unhide HB1, hb1⟩
        case measure => simp [intOf]; omega
    · have hzl : ¬ (k : Int) < (l.length : Int) := by omega
      obtain rfl : k = l.length := by omega
      have HE := hide (fndT_not (unhide HK))
      obtain ⟨c0, c1, c2, c3, c4, c5⟩ := (unhide HB).cells
      simp only [Nat.zero_add] at c1 c2 c3 c4 c5
      have f0 := (unhide HB).free 0
      have f1 := (unhide HB).free 1
      have f2 := (unhide HB).free 2
      have f3 := (unhide HB).free 3
      have f4 := (unhide HB).free 4
      have f5 := (unhide HB).free 5
      clear HK HC
      go_wp2
      refine bodyPost_ret (res_cell2 rfl _ _ w.heap.size ty0 rfl ((unhide HB).put ty0)) rfl ?_
      exact ⟨ret_av (by unfold fnA; rw [unhide HE]; rfl) (by unfold fnB; rw [unhide HE]; rfl), put_below hb (Nat.le_refl _) ty0⟩
end Go.Proofs.YtefobkgifigclaaGreatDoor.S20
/- The landed Word and Check of layer 18. -/
namespace Go.Proofs.YtefobkgifigclaaGreatDoor.S20
set_option maxRecDepth 100000
open Go.RowKit

set_option maxHeartbeats 800000 in
theorem letter_any (c : Int) (w : World) : Calls Tryz.prog 131 #[.int .u8 c] w fun e w' => e = .returned (.bool (lowB c)) ∧ w = w' := by
  have e : lowB c = (decide (97 ≤ c) && decide (c ≤ 122)) := by unfold lowB; rw [Bool.eq_iff_iff]; simp
  rw [e]
  clear e
  by_cases h1 : 97 ≤ c <;> by_cases h2 : c ≤ 122 <;> simp only [h1, h2, decide_true, decide_false, Bool.and_true, Bool.and_false]
  all_goals
    go_enter Tryz.func131, Tryz.ntmps131
    go_wp2
    go_ret
    exact ⟨rfl, rfl⟩
set_option maxHeartbeats 800000 in
theorem digit_any (c : Int) (w : World) : Calls Tryz.prog 132 #[.int .u8 c] w fun e w' => e = .returned (.bool (digB c)) ∧ w = w' := by
  have e : digB c = (decide (48 ≤ c) && decide (c ≤ 57)) := by unfold digB; rw [Bool.eq_iff_iff]; simp
  rw [e]
  clear e
  by_cases h1 : 48 ≤ c <;> by_cases h2 : c ≤ 57 <;> simp only [h1, h2, decide_true, decide_false, Bool.and_true, Bool.and_false]
  all_goals
    go_enter Tryz.func132, Tryz.ntmps132
    go_wp2
    go_ret
    exact ⟨rfl, rfl⟩
theorem wrd_first {l : List Int} (h : lowB (l.getD 0 0) = false) : wrdB l = false := by
  unfold wrdB
  rw [h, Bool.false_and, Bool.and_false]
theorem wrd_bad {l : List Int} {k : Nat} (hk : k < l.length) (h : wrdC (l.getD k 0) = false) : wrdB l = false := by
  cases hw : wrdB l
  · rfl
  · unfold wrdB at hw
    simp only [Bool.and_eq_true] at hw
    rw [all_at (d := 0) hw.2.2 k hk] at h
    cases h
theorem wrd_good {l : List Int} (h1 : 1 ≤ l.length) (h2 : l.length ≤ 16) (h0 : lowB (l.getD 0 0) = true) (h : ∀ k, k < l.length → wrdC (l.getD k 0) = true) : wrdB l = true := by
  unfold wrdB
  rw [decide_eq_true ⟨h1, h2⟩, h0, all_of wrdC 0 l h]
  rfl
set_option maxHeartbeats 3200000 in
theorem word_any (s : ByteArray) (w : World) : Calls Tryz.prog 95 #[.string s] w fun e w' => e = .returned (.bool (wrdB (nums s))) ∧ w = w' := by
  have HL := hide letter_any
  have HD := hide digit_any
  by_cases h1 : s.size < 1
  · have z1 : (s.size : Int) < 1 := by omega
    have HE := hide (wrd_long (l := nums s) (by rw [nums_length]; omega))
    generalize wrdB (nums s) = r at *
    go_enter Tryz.func95, Tryz.ntmps95
    go_wp2
    go_ret
    exact ⟨ret_bool (unhide HE).symm, rfl⟩
  by_cases h2 : 16 < s.size
  · have z1 : ¬ (s.size : Int) < 1 := by omega
    have z2 : 16 < (s.size : Int) := by omega
    have HE := hide (wrd_long (l := nums s) (by rw [nums_length]; omega))
    generalize wrdB (nums s) = r at *
    go_enter Tryz.func95, Tryz.ntmps95
    go_wp2
    go_ret
    exact ⟨ret_bool (unhide HE).symm, rfl⟩
  have z1 : ¬ (s.size : Int) < 1 := by omega
  have z2 : ¬ 16 < (s.size : Int) := by omega
  have z00 : (0 : Int) < (s.size : Int) := by omega
  have h00 : 0 < s.size := by omega
  obtain ⟨c0, hc0⟩ : ∃ c : Int, (s[0].toNat : Int) = c := ⟨_, rfl⟩
  have C0 : Hid ((nums s).getD 0 0 = c0) := by show _ = _; rw [nums_at s 0 h00]; exact hc0
  have CL := hide (unhide HL c0 w)
  cases hlow : lowB c0 <;> rw [hlow] at CL
  · have HE := hide (wrd_first (l := nums s) (by rw [unhide C0]; exact hlow))
    clear hlow
    generalize wrdB (nums s) = r at *
    go_enter Tryz.func95, Tryz.ntmps95
    go_wp2_with (go_at_call 131; refine (unhide CL).mono ?_; rintro e w3 ⟨rfl, rfl⟩)
    go_ret
    exact ⟨ret_bool (unhide HE).symm, rfl⟩
  have HLOW : Hid (lowB ((nums s).getD 0 0) = true) := by show _ = _; rw [unhide C0]; exact hlow
  clear hlow
  go_enter Tryz.func95, Tryz.ntmps95
  go_wp2_with (go_at_call 131; refine (unhide CL).mono ?_; rintro e w3 ⟨rfl, rfl⟩)
  clear hc0 CL C0
  go_loopw [20] (fun i wr => ∃ k : Nat, k ≤ s.size ∧ i = .int .i64 k ∧ Hid (∀ j, j < k → wrdC ((nums s).getD j 0) = true) ∧ wr = w) (fun i _ => s.size - (intOf i).toNat)
  case atStart => exact ⟨0, Nat.zero_le _, rfl, fun j hj => absurd hj (Nat.not_lt_zero _), rfl⟩
  case round =>
    obtain ⟨k, hk, rfl, HK, rfl⟩ := hrel
    by_cases hlt : k < s.size
    · have hzl : (k : Int) < (s.size : Int) := by omega
      have hz0 : (0 : Int) ≤ (k : Int) := by omega
      obtain ⟨c, hc⟩ : ∃ c : Int, (s[k].toNat : Int) = c := ⟨_, rfl⟩
      have HQ : Hid ((nums s).getD k 0 = c) := by show _ = _; rw [nums_at s k hlt]; exact hc
      have HN : Hid (wrdC c = false → wrdB (nums s) = false) := fun h => wrd_bad (k := k) (by rw [nums_length]; exact hlt) (by rw [unhide HQ]; exact h)
      have HY : Hid (wrdC c = true → ∀ j, j < k + 1 → wrdC ((nums s).getD j 0) = true) := fun h => ok_next (unhide HK) (by rw [unhide HQ]; exact h)
      have CL := hide (unhide HL c wr)
      have CD := hide (unhide HD c wr)
      have HW : Hid (wrdC c = (lowB c || (digB c || decide (c = 45)))) := rfl
      clear HQ
      by_cases a1 : lowB c = true
      · rw [a1] at CL
        have HE := hide (unhide HY (by rw [unhide HW, a1]; rfl))
        clear a1
        go_wp2_with (go_at_call 131; refine (unhide CL).mono ?_; rintro e w3 ⟨rfl, rfl⟩)
        go_roundw
        case rel => exact ⟨k + 1, by omega, by go_num, unhide HE, trivial⟩
        case measure => simp [intOf]; omega
      rw [Bool.not_eq_true] at a1
      rw [a1] at CL
      by_cases a2 : digB c = true
      · rw [a2] at CD
        have HE := hide (unhide HY (by rw [unhide HW, a1, a2]; rfl))
        clear a1 a2
        go_wp2_with (first | (go_at_call 132; refine (unhide CD).mono ?_; rintro e w3 ⟨rfl, rfl⟩) | (go_at_call 131; refine (unhide CL).mono ?_; rintro e w3 ⟨rfl, rfl⟩))
        go_roundw
        case rel => exact ⟨k + 1, by omega, by go_num, unhide HE, trivial⟩
        case measure => simp [intOf]; omega
      rw [Bool.not_eq_true] at a2
      rw [a2] at CD
      have a5' : (c == 45) = decide (c = 45) := by rfl
      by_cases a3 : c = 45
      · have HE := hide (unhide HY (by rw [unhide HW, a1, a2, decide_eq_true a3]; rfl))
        clear a1 a2 a5'
        subst a3
        go_wp2_with (first | (go_at_call 132; refine (unhide CD).mono ?_; rintro e w3 ⟨rfl, rfl⟩) | (go_at_call 131; refine (unhide CL).mono ?_; rintro e w3 ⟨rfl, rfl⟩))
        go_roundw
        case rel => exact ⟨k + 1, by omega, by go_num, unhide HE, trivial⟩
        case measure => simp [intOf]; omega
      · have HE := hide (unhide HN (by rw [unhide HW, a1, a2, decide_eq_false a3]; rfl))
        clear a1 a2
        go_wp2_with (first | (go_at_call 132; refine (unhide CD).mono ?_; rintro e w3 ⟨rfl, rfl⟩) | (go_at_call 131; refine (unhide CL).mono ?_; rintro e w3 ⟨rfl, rfl⟩))
        go_ret
        exact ⟨ret_bool (unhide HE).symm, rfl⟩
    · have hzl : ¬ (k : Int) < (s.size : Int) := by omega
      have HE : Hid (wrdB (nums s) = true) := wrd_good (by rw [nums_length]; omega) (by rw [nums_length]; omega) (unhide HLOW) (fun j hj => unhide HK j (by rw [nums_length] at hj; omega))
      go_wp2
      go_ret
      exact ⟨ret_bool (unhide HE).symm, rfl⟩
set_option maxHeartbeats 1600000 in
theorem wrong_any (p : Pr) (w : World) : Calls Tryz.prog 60 #[.agg #[.string p.nam, .string p.val]] w fun e w' => e = .returned (.bool (!okP p)) ∧ Gr w w' := by
  have CW := hide (word_any p.nam)
  cases hw : wrdB (nums p.nam) <;> rw [hw] at CW
  · have HE := hide (okP_no (.inl hw))
    clear hw
    generalize okP p = r at *
    go_enter Tryz.func60, Tryz.ntmps60
    go_wp2_with (go_at_call 95; refine (unhide CW _).mono ?_; rintro e w3 ⟨rfl, rfl⟩)
    go_ret
    exact ⟨ret_bool (by rw [unhide HE]; rfl), Gr.one _ _⟩
  · by_cases v0 : p.val.size < 1
    · have y0 : (p.val.size : Int) < 1 := by omega
      have HE := hide (okP_no (p := p) (.inr (.inl (by omega))))
      clear hw
      generalize okP p = r at *
      go_enter Tryz.func60, Tryz.ntmps60
      go_wp2_with (go_at_call 95; refine (unhide CW _).mono ?_; rintro e w3 ⟨rfl, rfl⟩)
      go_ret
      exact ⟨ret_bool (by rw [unhide HE]; rfl), Gr.one _ _⟩
    · have y0 : ¬ (p.val.size : Int) < 1 := by omega
      by_cases v4 : 400 < p.val.size
      · have y4 : 400 < (p.val.size : Int) := by omega
        have HE := hide (okP_no (.inr (.inr v4)))
        clear hw
        generalize okP p = r at *
        go_enter Tryz.func60, Tryz.ntmps60
        go_wp2_with (go_at_call 95; refine (unhide CW _).mono ?_; rintro e w3 ⟨rfl, rfl⟩)
        go_ret
        exact ⟨ret_bool (by rw [unhide HE]; rfl), Gr.one _ _⟩
      · have y4 : ¬ 400 < (p.val.size : Int) := by omega
        have HE := hide (okP_yes hw (by omega) v4)
        clear hw
        generalize okP p = r at *
        go_enter Tryz.func60, Tryz.ntmps60
        go_wp2_with (go_at_call 95; refine (unhide CW _).mono ?_; rintro e w3 ⟨rfl, rfl⟩)
        go_ret
        exact ⟨ret_bool (by rw [unhide HE]; simp; omega), Gr.one _ _⟩
end Go.Proofs.YtefobkgifigclaaGreatDoor.S20
/- Contains of numbers and of texts; the landed Known, Rules and fit. -/
namespace Go.Proofs.YtefobkgifigclaaGreatDoor.S20
set_option maxRecDepth 100000
open Go.RowKit

def hasI (zs : List Int) (x : Int) : Bool := zs.any fun y => decide (x = y)
def hasT (zs : List ByteArray) (x : ByteArray) : Bool := zs.any fun y => decide (x = y)
theorem hasI_yes {zs : List Int} {x : Int} {k : Nat} (hk : k < zs.length) (h : x = zs.getD k 0) : hasI zs x = true := by
  unfold hasI
  rw [List.any_eq_true]
  exact ⟨zs.getD k 0, by simp [List.getD, hk], decide_eq_true h⟩
theorem hasI_no {zs : List Int} {x : Int} (h : ∀ k, k < zs.length → x ≠ zs.getD k 0) : hasI zs x = false := by
  unfold hasI
  rw [List.any_eq_false]
  intro y hy
  obtain ⟨i, hi, rfl⟩ := List.getElem_of_mem hy
  have := h i hi
  simpa [List.getD, hi] using this
theorem hasT_yes {zs : List ByteArray} {x : ByteArray} {k : Nat} (hk : k < zs.length) (h : x = zs.getD k te) : hasT zs x = true := by
  unfold hasT
  rw [List.any_eq_true]
  exact ⟨zs.getD k te, by simp [List.getD, hk], decide_eq_true h⟩
theorem hasT_no {zs : List ByteArray} {x : ByteArray} (h : ∀ k, k < zs.length → x ≠ zs.getD k te) : hasT zs x = false := by
  unfold hasT
  rw [List.any_eq_false]
  intro y hy
  obtain ⟨i, hi, rfl⟩ := List.getElem_of_mem hy
  have := h i hi
  simpa [List.getD, hi] using this
set_option maxHeartbeats 1600000 in
theorem indexI_any (v : Value) (zs : List Int) (x : Int) (w : World) (hR : Row w v zs) (hl : zs.length ≤ 1000) : Calls Tryz.prog 167 #[v, .int .i64 x] w fun e w' => ∃ z : Int, e = .returned (.int .i64 z) ∧ decide (0 ≤ z) = hasI zs x ∧ w = w' := by
  obtain ⟨a, cap, rfl, hc⟩ := hR
  have HC := hide hc
  clear hc
  go_enter Tryz.func167, Tryz.ntmps167
  go_wp2
  go_loop [8] (fun i => ∃ k : Nat, k ≤ zs.length ∧ i = .int .i64 (k : Int) ∧ Hid (∀ j, j < k → x ≠ zs.getD j 0)) (fun i => zs.length - (intOf i).toNat)
  case atStart => exact ⟨0, Nat.zero_le _, rfl, fun j hj => absurd hj (Nat.not_lt_zero _)⟩
  case round =>
    obtain ⟨k, hk, rfl, HK⟩ := hrel
    by_cases hlt : k < zs.length
    · have hzl : (k : Int) < (zs.length : Int) := by omega
      have hz0 : (0 : Int) ≤ (k : Int) := by omega
      obtain ⟨b, off, rfl, hcc⟩ := unhide HC (by omega)
      have q0 := hcc k hlt
      have HY : Hid (x = zs.getD k 0 → hasI zs x = true) := fun h => hasI_yes hlt h
      have HN : Hid (¬ x = zs.getD k 0 → ∀ j, j < k + 1 → x ≠ zs.getD j 0) := fun h j hj => by
        by_cases e : j = k
        · rw [e]; exact h
        · exact unhide HK j (by omega)
      clear hcc HC HK
      generalize zs.getD k 0 = t at *
      by_cases h : x = t
      · have hq : (x == t) = true := by simpa using h
        have HE := hide (unhide HY h)
        clear h HY HN
        go_wp2
        go_ret
        exact ⟨_, rfl, by rw [unhide HE]; exact decide_eq_true hz0, rfl⟩
      · have hq : (x == t) = false := by simpa using h
        have HK2 := hide (unhide HN h)
        clear h HY HN
        go_wp2
        go_round
        case rel => exact ⟨k + 1, by omega, by go_num, unhide HK2⟩
        case measure => simp [intOf]; omega
    · have hzl : ¬ (k : Int) < (zs.length : Int) := by omega
      obtain rfl : k = zs.length := by omega
      have HE := hide (hasI_no (unhide HK))
      clear HK HC
      go_wp2
      go_ret
      exact ⟨_, rfl, by rw [unhide HE]; rfl, rfl⟩
set_option maxHeartbeats 800000 in
theorem containsI_any (v : Value) (zs : List Int) (x : Int) (w : World) (hR : Row w v zs) (hl : zs.length ≤ 1000) : Calls Tryz.prog 127 #[v, .int .i64 x] w fun e w' => e = .returned (.bool (hasI zs x)) ∧ w = w' := by
  have HI := hide (indexI_any v zs x w hR hl)
  clear hR
  go_enter Tryz.func127, Tryz.ntmps127
  go_wp2_with (go_at_call 167; refine (unhide HI).mono ?_; rintro e w2 ⟨z, rfl, hz, rfl⟩)
  go_ret
  exact ⟨rfl, rfl⟩
set_option maxHeartbeats 800000 in
theorem known_any (s : Int) (w : World) : Calls Tryz.prog 83 #[.int .i64 s] w fun e w' => e = .returned (.bool (decide (1 ≤ s ∧ s ≤ 10))) ∧ w = w' := by
  by_cases h1 : 1 ≤ s
  · by_cases h2 : s ≤ 10
    · rw [decide_eq_true (show 1 ≤ s ∧ s ≤ 10 from ⟨h1, h2⟩)]
      go_enter Tryz.func83, Tryz.ntmps83
      go_wp2
      go_ret
      exact ⟨rfl, rfl⟩
    · rw [decide_eq_false (show ¬ (1 ≤ s ∧ s ≤ 10) from fun q => h2 q.2)]
      go_enter Tryz.func83, Tryz.ntmps83
      go_wp2
      go_ret
      exact ⟨rfl, rfl⟩
  · rw [decide_eq_false (show ¬ (1 ≤ s ∧ s ≤ 10) from fun q => h1 q.1)]
    go_enter Tryz.func83, Tryz.ntmps83
    go_wp2
    go_ret
    exact ⟨rfl, rfl⟩
set_option maxHeartbeats 1600000 in
theorem rules_any (s : Int) (w : World) : Calls Tryz.prog 128 #[.int .i64 s] w fun e w' => ∃ u, e = .returned u ∧ Row w' u (rulL s) ∧ Below w.heap.size w w' := by
  by_cases h : 1 ≤ s ∧ s ≤ 10
  · have hn : s = 1 ∨ s = 2 ∨ s = 3 ∨ s = 4 ∨ s = 5 ∨ s = 6 ∨ s = 7 ∨ s = 8 ∨ s = 9 ∨ s = 10 := by omega
    clear h
    rcases hn with rfl | rfl | rfl | rfl | rfl | rfl | rfl | rfl | rfl | rfl
    all_goals
      go_enter Tryz.func128, Tryz.ntmps128
      go_wp2
      go_ret
      refine ⟨_, rfl, ?_, Below.one _ _⟩
      refine row_of20 ?_ ?_ <;> rfl
  · have HE : Hid (rulL s = []) := by
      show _ = _
      unfold rulL
      rw [if_neg (by omega), if_neg (by omega), if_neg (by omega)]
    have e1 : (s == 1) = false := by rw [beq_eq_false_iff_ne]; omega
    have e2 : (s == 2) = false := by rw [beq_eq_false_iff_ne]; omega
    have e3 : (s == 3) = false := by rw [beq_eq_false_iff_ne]; omega
    have e4 : (s == 4) = false := by rw [beq_eq_false_iff_ne]; omega
    have e5 : (s == 5) = false := by rw [beq_eq_false_iff_ne]; omega
    have e6 : (s == 6) = false := by rw [beq_eq_false_iff_ne]; omega
    have e7 : (s == 7) = false := by rw [beq_eq_false_iff_ne]; omega
    have e8 : (s == 8) = false := by rw [beq_eq_false_iff_ne]; omega
    have e9 : (s == 9) = false := by rw [beq_eq_false_iff_ne]; omega
    have e10 : (s == 10) = false := by rw [beq_eq_false_iff_ne]; omega
    rw [unhide HE]
    clear h HE
    go_enter Tryz.func128, Tryz.ntmps128
    go_wp2
    go_ret
    exact ⟨_, rfl, Row.nil _ _ _, Below.refl _ _⟩
theorem rul_fit (s r : Int) : fitR s r = (decide (1 ≤ s ∧ s ≤ 10) && hasI (rulL s) r) := by
  by_cases h : 1 ≤ s ∧ s ≤ 10
  · rw [decide_eq_true h, Bool.true_and]
    unfold fitR hasI
    rw [if_neg (by omega)]
    have hn : s = 1 ∨ s = 2 ∨ s = 3 ∨ s = 4 ∨ s = 5 ∨ s = 6 ∨ s = 7 ∨ s = 8 ∨ s = 9 ∨ s = 10 := by omega
    clear h
    rcases hn with rfl | rfl | rfl | rfl | rfl | rfl | rfl | rfl | rfl | rfl
    all_goals
      rw [Bool.eq_iff_iff]
      simp [rulL]
      try omega
  · rw [decide_eq_false h, Bool.false_and]
    unfold fitR
    rw [if_pos (by omega)]
set_option maxHeartbeats 3200000 in
theorem fit_any (a : Ty) (w : World) : Calls Tryz.prog 91 #[.agg #[.string a.nam, .string a.abv, .int .i64 a.syn, .int .i64 a.rul, .bool a.sgl, .bool a.cls]] w fun e w' => e = .returned (.bool (fitA a)) ∧ Below w.heap.size w w' := by
  have mx : Tryz.prog.follows .mixedOrders = true := by kernel_rfl
  have HF : Hid (fitA a = (wrdB (nums a.nam) && (decide (1 ≤ a.syn ∧ a.syn ≤ 10) && hasI (rulL a.syn) a.rul))) := by show _ = _; unfold fitA; rw [rul_fit]
  have CW := hide (fun W => (word_any a.nam W))
  have CK := hide (fun W => (known_any a.syn W))
  have CR := hide (fun W => (rules_any a.syn W))
  have CC := hide (fun v W (h : Row W v (rulL a.syn)) => containsI_any v (rulL a.syn) a.rul W h (by have := rul_len a.syn; omega))
  have B0 : Hid (Bt w.heap.size a (w.alloc (.cells #[.string a.nam, .string a.abv, .int .i64 a.syn, .int .i64 a.rul, .bool a.sgl, .bool a.cls] 67))) := heap_new w _
  have b0 := Below.one w (.cells #[.string a.nam, .string a.abv, .int .i64 a.syn, .int .i64 a.rul, .bool a.sgl, .bool a.cls] 67)
  generalize fitA a = R at *
  generalize wrdB (nums a.nam) = p at *
  generalize decide (1 ≤ a.syn ∧ a.syn ≤ 10) = q at *
  generalize hasI (rulL a.syn) a.rul = z at *
  generalize rulL a.syn = L at *
  obtain ⟨c0, _, c2, c3, _, _⟩ := (unhide B0).cells
  simp only [Nat.zero_add] at c2 c3
  go_enter Tryz.func91, Tryz.ntmps91
  go_wp2
  cases p
  · clear CK CR CC
    rw [Bool.false_and] at HF
    replace c0 := cell_bb c0
    refine wp_region_below (by first | exact mx | assumption) (by kernel_rfl) ?_
    intro nebb
    repeat (go_big_quiet_step ((go_at_call 95; exact callsBB ((unhide CW _).mono fun _ _ h => ⟨h.1, by rw [← h.2]; exact Below.refl _ _⟩))))
    refine wpQuiet_nil ?_
    intro _ hw'
    obtain ⟨pq, hw''⟩ := hw'
    subst hw''
    have bq := pq.b
    generalize pq.W = wq at *
    go_wp2
    go_ret
    exact ⟨ret_bool (unhide HF).symm, b0.trans (bq.mono b0.size)⟩
  cases q
  · clear CR CC
    rw [Bool.true_and, Bool.false_and] at HF
    replace c0 := cell_bb c0
    replace c2 := cell_bb c2
    refine wp_region_below (by first | exact mx | assumption) (by kernel_rfl) ?_
    intro nebb
    repeat (go_big_quiet_step (first | (go_at_call 83; exact callsBB ((unhide CK _).mono fun _ _ h => ⟨h.1, by rw [← h.2]; exact Below.refl _ _⟩)) | (go_at_call 95; exact callsBB ((unhide CW _).mono fun _ _ h => ⟨h.1, by rw [← h.2]; exact Below.refl _ _⟩))))
    refine wpQuiet_nil ?_
    intro _ hw'
    obtain ⟨pq, hw''⟩ := hw'
    subst hw''
    have bq := pq.b
    generalize pq.W = wq at *
    go_wp2
    go_ret
    exact ⟨ret_bool (unhide HF).symm, b0.trans (bq.mono b0.size)⟩
  rw [Bool.true_and, Bool.true_and] at HF
  go_region_held3 (fun W => W.cell? ⟨w.heap.size, 0, none⟩ = some (.string a.nam) ∧ W.cell? ⟨w.heap.size, 2, none⟩ = some (.int .i64 a.syn) ∧ W.cell? ⟨w.heap.size, 3, none⟩ = some (.int .i64 a.rul)) (first | exact ⟨c0, c2, c3⟩ | exact ⟨d0, d2, d3⟩ | assumption | go_keep)
    (first
      | (go_at_call 95; refine (unhide CW _).mono ?_; rintro e w2 ⟨rfl, rfl⟩)
      | (go_at_call 83; refine (unhide CK _).mono ?_; rintro e w2 ⟨rfl, rfl⟩)
      | (go_at_call 128; refine (unhide CR _).mono ?_; rintro e w3 ⟨u, rfl, hu, b3⟩; have HU := hide hu; clear hu; have k3 := ((Below.refl _ (w.alloc (.cells #[.string a.nam, .string a.abv, .int .i64 a.syn, .int .i64 a.rul, .bool a.sgl, .bool a.cls] 67))).drew).trans b3; obtain ⟨d0, _, d2, d3, _, _⟩ := ((unhide B0).keep k3).cells; simp only [Nat.zero_add] at d2 d3)
      | (go_at_call 127; refine (unhide CC _ _ (unhide HU)).mono ?_; rintro e w4 ⟨rfl, rfl⟩))
  all_goals
    go_wp2
    go_ret
    exact ⟨ret_bool (unhide HF).symm, b0.trans (k3.mono b0.size)⟩
end Go.Proofs.YtefobkgifigclaaGreatDoor.S20
