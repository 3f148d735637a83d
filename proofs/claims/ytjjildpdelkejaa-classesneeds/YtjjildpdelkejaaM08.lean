/- The document's Rules of layer 20; texts held against each other (layer 16); the law's Few. -/
import Derived.Test.YtjjildpdelkejaaM05
import Derived.Test.YtjjildpdelkejaaM07
namespace Go.Proofs.Ytjjildpdelkejaa
open Go.RowKit

theorem row_new20 (W : World) (zs : List Int) (cs : Array Value) (T : TypeId) (hcs : cs.toList = zs.map (Value.int .i64)) : Row (W.alloc (.cells cs T)) (.slice (some ⟨W.heap.size, 0, none⟩) zs.length zs.length) zs := by
  refine ⟨_, _, rfl, fun _ => ⟨W.heap.size, 0, rfl, fun j hj => ?_⟩⟩
  rw [World.cell?_alloc_mark, Nat.zero_add]
  have : cs.toList[j]? = some (.int .i64 (zs.getD j 0)) := by rw [hcs]; simp [List.getD, hj]
  simpa using this
theorem row_of20 {W : World} {zs : List Int} {cs : Array Value} {T : TypeId} {v : Value} (hv : v = .slice (some ⟨W.heap.size, 0, none⟩) zs.length zs.length) (hcs : cs.toList = zs.map (Value.int .i64)) : Row (W.alloc (.cells cs T)) v zs := by rw [hv]; exact row_new20 W zs cs T hcs
theorem rul_len (s : Int) : (rulL s).length ≤ 3 := by
  unfold rulL
  repeat' split
  all_goals simp
theorem lists_eq {L M : List ByteArray} (hl : L.length = M.length) (h : ∀ j, j < L.length → L.getD j te = M.getD j te) : L = M := by
  apply List.ext_getElem hl
  intro i h1 h2
  have := h i h1
  simpa [List.getD, h1, h2] using this
set_option maxHeartbeats 1600000 in
theorem rsm_any (u v : Value) (L M : List ByteArray) (w : World) (hu : TsV w u L) (hv : TsV w v M) : Calls Try.prog 12 #[u, v] w fun e w' => e = .returned (.bool (decide (L = M))) ∧ Below w.heap.size w w' := by
  have mx : Try.prog.follows .mixedOrders = true := by kernel_rfl
  obtain ⟨ua, uc, rfl, hn1, hc1⟩ := hu
  obtain ⟨va, vc, rfl, hn2, hc2⟩ := hv
  have H1 := hide hc1
  have H2 := hide hc2
  clear hc1 hc2
  by_cases hl : L.length = M.length
  · have z : ((L.length : Int) == (M.length : Int)) = true := by rw [hl]; simp
    have HQ : Hid ((∀ j, j < L.length → L.getD j te = M.getD j te) → decide (L = M) = true) := fun h => decide_eq_true (lists_eq hl h)
    have HD : Hid (∀ k, L.getD k te ≠ M.getD k te → decide (L = M) = false) := fun k h => decide_eq_false (fun e => h (by rw [e]))
    generalize decide (L = M) = R at *
    go_enter Try.func12, Try.ntmps12
    go_wp2
    go_loopw [5] (fun i wr => ∃ k : Nat, k ≤ L.length ∧ i = .int .i64 (k : Int) ∧ Hid (∀ j, j < k → L.getD j te = M.getD j te) ∧ Below w.heap.size w wr) (fun i _ => L.length - (intOf i).toNat)
    case atStart => exact ⟨0, Nat.zero_le _, rfl, fun j hj => absurd hj (Nat.not_lt_zero _), Below.refl _ _⟩
    case round =>
      obtain ⟨k, hk, rfl, HK, hb⟩ := hrel
      by_cases hlt : k < L.length
      · have hzl : (k : Int) < (L.length : Int) := by omega
        have hzm : (k : Int) < (M.length : Int) := by omega
        have hz0 : (0 : Int) ≤ (k : Int) := by omega
        obtain ⟨b, off, rfl, hcc⟩ := unhide H1 (by omega)
        obtain ⟨b2, off2, rfl, hcd⟩ := unhide H2 (by omega)
        have q1 := cell_bb ((hb.cell (cell_lt (hcc k hlt))).trans (hcc k hlt))
        have q2 := cell_bb ((hb.cell (cell_lt (hcd k (by omega)))).trans (hcd k (by omega)))
        have hq := txt_beq (L.getD k te) (M.getD k te)
        have hn : ((L.getD k te).toList != (M.getD k te).toList) = !decide (L.getD k te = M.getD k te) := by unfold bne; rw [hq]
        by_cases h : L.getD k te = M.getD k te
        · rw [decide_eq_true h] at hq hn
          have HK2 : Hid (∀ j, j < k + 1 → L.getD j te = M.getD j te) := fun j hj => by
            by_cases e : j = k
            · rw [e]; exact h
            · exact unhide HK j (by omega)
          clear h HK hcc hcd H1 H2 HD HQ
          generalize L.getD k te = x at *
          generalize M.getD k te = y at *
          go_wp2
          refine wp_region_below (by first | exact mx | assumption) (by kernel_rfl) ?_
          intro nebb
          repeat (go_big_quiet_step (fail))
          refine wpQuiet_nil ?_
          intro _ hw'
          obtain ⟨pq, hw''⟩ := hw'
          subst hw''
          have bq := pq.b
          generalize pq.W = wq at *
          go_wp2
          go_roundw
          case rel => exact ⟨k + 1, by omega, by go_num, unhide HK2, hb.trans (bq.mono hb.size)⟩
          case measure => simp [intOf]; omega
        · rw [decide_eq_false h] at hq hn
          have HE := hide (unhide HD k h)
          clear h HK hcc hcd H1 H2 HD HQ
          generalize L.getD k te = x at *
          generalize M.getD k te = y at *
          go_wp2
          refine wp_region_below (by first | exact mx | assumption) (by kernel_rfl) ?_
          intro nebb
          repeat (go_big_quiet_step (fail))
          refine wpQuiet_nil ?_
          intro _ hw'
          obtain ⟨pq, hw''⟩ := hw'
          subst hw''
          have bq := pq.b
          generalize pq.W = wq at *
          go_wp2
          go_ret
          exact ⟨ret_bool (unhide HE).symm, hb.trans (bq.mono hb.size)⟩
      · have hzl : ¬ (k : Int) < (L.length : Int) := by omega
        have HE := hide (unhide HQ (fun j hj => unhide HK j (by omega)))
        clear HK HQ HD
        go_wp2
        go_ret
        exact ⟨ret_bool (unhide HE).symm, hb⟩
  · have z : ((L.length : Int) == (M.length : Int)) = false := by rw [beq_eq_false_iff_ne]; omega
    have HE : Hid (decide (L = M) = false) := decide_eq_false (fun e => hl (by rw [e]))
    clear hl
    go_enter Try.func12, Try.ntmps12
    go_wp2
    go_ret
    exact ⟨ret_bool (unhide HE).symm, Below.refl _ _⟩
/-- Are types so few, and their names so short? -/
def smT (t : Ty) : Bool := decide (t.nam.size ≤ 1000 ∧ t.abv.size ≤ 1000)
def fewT (l : List Ty) : Bool := decide (l.length ≤ 40) && l.all smT
theorem few_len {l : List Ty} (h : fewT l = true) : l.length ≤ 40 := by
  unfold fewT at h
  rw [Bool.and_eq_true] at h
  exact of_decide_eq_true h.1
set_option maxHeartbeats 1600000 in
theorem few20_any (v : Value) (l : List Ty) (w : World) (hV : TysV w v l) : Calls Try.prog 23 #[v] w fun e w' => e = .returned (.bool (fewT l)) ∧ w = w' := by
  obtain ⟨va, vc, rfl, hn, hc⟩ := hV
  have HC := hide hc
  clear hc
  by_cases h40 : 40 < l.length
  · have z : (40 : Int) < (l.length : Int) := by omega
    have HE : Hid (fewT l = false) := by show _ = _; unfold fewT; rw [decide_eq_false (by omega)]; rfl
    go_enter Try.func23, Try.ntmps23
    go_wp2
    go_ret
    exact ⟨ret_bool (unhide HE).symm, rfl⟩
  have z : ¬ (40 : Int) < (l.length : Int) := by omega
  have HF : Hid (fewT l = l.all smT) := by show _ = _; unfold fewT; rw [decide_eq_true (show l.length ≤ 40 by omega)]; rfl
  rw [unhide HF]
  have HNO : Hid (∀ k, k < l.length → smT (l.getD k ty0) = false → l.all smT = false) := fun k hk h => by
    cases hq : l.all smT
    · rfl
    · rw [List.all_eq_true] at hq
      have := hq (l.getD k ty0) (by simp [List.getD, hk])
      rw [h] at this
      cases this
  have HYE : Hid ((∀ k, k < l.length → smT (l.getD k ty0) = true) → l.all smT = true) := fun h => by
    rw [List.all_eq_true]
    intro x hx
    obtain ⟨k, hk, rfl⟩ := List.getElem_of_mem hx
    have := h k hk
    simpa [List.getD, hk] using this
  clear HF
  generalize l.all smT = R at *
  go_enter Try.func23, Try.ntmps23
  go_wp2
  go_loop [3] (fun i => ∃ k : Nat, k ≤ l.length ∧ i = .int .i64 (k : Int) ∧ Hid (∀ j, j < k → smT (l.getD j ty0) = true)) (fun i => l.length - (intOf i).toNat)
  case atStart => exact ⟨0, Nat.zero_le _, rfl, fun j hj => absurd hj (Nat.not_lt_zero _)⟩
  case round =>
    obtain ⟨k, hk, rfl, HK⟩ := hrel
    by_cases hlt : k < l.length
    · have hzl : (k : Int) < (l.length : Int) := by omega
      have hz0 : (0 : Int) ≤ (k : Int) := by omega
      obtain ⟨b, off, rfl, hcc⟩ := unhide HC (by omega)
      obtain ⟨q0, q1, _⟩ := hcc k hlt
      have HN := hide (unhide HNO k hlt)
      have HK2 : Hid (smT (l.getD k ty0) = true → ∀ j, j < k + 1 → smT (l.getD j ty0) = true) := fun h j hj => by
        by_cases e : j = k
        · rw [e]; exact h
        · exact unhide HK j (by omega)
      clear HK hcc HC HNO HYE
      generalize l.getD k ty0 = t at *
      by_cases h1 : 1000 < t.nam.size
      · have z1 : (1000 : Int) < (t.nam.size : Int) := by omega
        have HE := hide (unhide HN (decide_eq_false (by omega)))
        clear HK2 HN
        go_wp2
        go_ret
        exact ⟨ret_bool (unhide HE).symm, rfl⟩
      have z1 : ¬ (1000 : Int) < (t.nam.size : Int) := by omega
      by_cases h2 : 1000 < t.abv.size
      · have z2 : (1000 : Int) < (t.abv.size : Int) := by omega
        have HE := hide (unhide HN (decide_eq_false (by omega)))
        clear HK2 HN
        go_wp2
        go_ret
        exact ⟨ret_bool (unhide HE).symm, rfl⟩
      have z2 : ¬ (1000 : Int) < (t.abv.size : Int) := by omega
      have HK3 := hide (unhide HK2 (decide_eq_true (by omega)))
      clear HK2 HN
      go_wp2
      go_round
      case rel => exact ⟨k + 1, by omega, by go_num, unhide HK3⟩
      case measure => simp [intOf]; omega
    · have hzl : ¬ (k : Int) < (l.length : Int) := by omega
      have HE := hide (unhide HYE (fun j hj => unhide HK j (by omega)))
      clear HK HYE HNO
      go_wp2
      go_ret
      exact ⟨ret_bool (unhide HE).symm, rfl⟩
end Go.Proofs.Ytjjildpdelkejaa
/- Going up a line, plainly; what the landed code asks of types is what the document asks. -/
namespace Go.Proofs.Ytjjildpdelkejaa
open Go.RowKit

/-- From o on the types pre come, and then o'. -/
def wlk (l : List Ty) : Option Ty → List Ty → Option Ty → Prop
  | o, [], o' => o' = o
  | o, x :: t, o' => o = some x ∧ wlk l (fndT l x.abv) t o'
theorem wlk_snoc {l : List Ty} {x : Ty} : ∀ {pre : List Ty} {o : Option Ty}, wlk l o pre (some x) → wlk l o (pre ++ [x]) (fndT l x.abv)
  | [], _, h => ⟨h.symm, rfl⟩
  | _ :: _, _, h => ⟨h.1, wlk_snoc h.2⟩
theorem wlk_in {l : List Ty} : ∀ {pre : List Ty} {n : ByteArray} {o : Option Ty}, wlk l (fndT l n) pre o → ∀ x ∈ pre, x ∈ l
  | [], _, _, _, x, hx => by cases hx
  | y :: t, n, o, h, x, hx => by
    rcases List.mem_cons.1 hx with rfl | hx
    · exact (fnd_in h.1).1
    · exact wlk_in h.2 x hx
/-- The names of what came open the line. -/
theorem wlk_part {l : List Ty} : ∀ {pre : List Ty} {a : Ty} {k : Nat} {o : Option Ty}, wlk l (some a) pre o → pre.length ≤ k + 1 → ∃ rest, lnF l k a = pre.map (·.nam) ++ rest
  | [], a, k, _, _, _ => ⟨lnF l k a, rfl⟩
  | y :: t, a, k, o, h, hk => by
    obtain ⟨e, h⟩ := h
    obtain rfl : a = y := Option.some.inj e
    cases k with
    | zero =>
      have : t = [] := List.eq_nil_of_length_eq_zero (by simp only [List.length_cons] at hk; omega)
      subst this
      exact ⟨[], by simp [lnF]⟩
    | succ k =>
      rw [lnF]
      cases t with
      | nil => exact ⟨_, rfl⟩
      | cons z t =>
        have e : fndT l a.abv = some z := h.1
        rw [e] at h ⊢
        obtain ⟨rest, hr⟩ := wlk_part (k := k) h (by simp at hk ⊢; omega)
        exact ⟨rest, by simp only [hr]; simp⟩
/-- Where the line has ended they are all of it. -/
theorem wlk_whole {l : List Ty} : ∀ {pre : List Ty} {a : Ty} {k : Nat}, wlk l (some a) pre none → pre.length ≤ k + 1 → lnF l k a = pre.map (·.nam)
  | [], _, _, h, _ => by cases h
  | y :: t, a, k, h, hk => by
    obtain ⟨e, h⟩ := h
    obtain rfl : a = y := Option.some.inj e
    cases t with
    | nil =>
      have e : none = fndT l a.abv := h
      cases k with
      | zero => rfl
      | succ k => rw [lnF, ← e]; rfl
    | cons z t =>
      have e : fndT l a.abv = some z := h.1
      cases k with
      | zero => simp at hk
      | succ k =>
        rw [e] at h
        rw [lnF, e]
        simp only
        rw [wlk_whole (k := k) h (by simp at hk ⊢; omega)]
        rfl
theorem wlk_none {l : List Ty} {pre : List Ty} {o : Option Ty} (h : wlk l none pre o) : pre = [] := by
  cases pre with
  | nil => rfl
  | cons y t => cases h.1
/-- A line that ends by the document's steps. -/
theorem wlk_len {l : List Ty} (hk : okT l = true) : ∀ {k : Nat} {a : Ty} {pre : List Ty} {o : Option Ty}, upT l k a = true → wlk l (some a) pre o → pre.length ≤ k + 1
  | k, a, [], _, _, _ => by simp
  | k, a, y :: t, o, hu, h => by
    obtain ⟨e, h⟩ := h
    obtain rfl : a = y := Option.some.inj e
    by_cases e : a.abv = te
    · rw [e, fnd_empty hk] at h
      rw [wlk_none h]
      simp
    · cases k with
      | zero => exact absurd (of_decide_eq_true hu) e
      | succ k =>
        rw [upT, if_neg e] at hu
        cases hf : fndT l a.abv with
        | none => rw [hf] at h; rw [wlk_none h]; simp
        | some b =>
          rw [hf] at h hu
          simp only at hu
          split at hu
          · have := wlk_len hk hu h
            simp
            omega
          · cases hu
/-- Texts that are all apart, all among others, are no more than those. -/
theorem apart_len : ∀ (L M : List ByteArray), (∀ i k, i < L.length → k < i → L.getD k te ≠ L.getD i te) → (∀ x ∈ L, x ∈ M) → L.length ≤ M.length
  | [], _, _, _ => by simp
  | x :: t, M, h, hm => by
    have hx : x ∈ M := hm x (by simp)
    have h1 := apart_len t (M.eraseP fun y => decide (y = x)) (fun i k hi hk => by
      have := h (i + 1) (k + 1) (by simp; omega) (by omega)
      simpa using this) (fun y hy => by
      obtain ⟨i, hi, rfl⟩ := List.getElem_of_mem hy
      have hne : ¬ t[i] = x := fun e => by
        have := h (i + 1) 0 (by simp; omega) (by omega)
        apply this
        simp [List.getD, hi, e]
      exact (List.mem_eraseP_of_neg (by simpa using hne)).2 (hm _ (by simp)))
    rw [List.length_eraseP_of_mem hx (by simp)] at h1
    have := List.length_pos_of_mem hx
    simp
    omega
theorem line_few {l : List Ty} (n : ByteArray) : (lineT l n).length ≤ l.length := by
  cases hf : findT l n with
  | none => unfold lineT; rw [hf]; simp
  | some a =>
    have := apart_len (lineT l n) (l.map (·.nam)) (fun i k hi hk => lines20_apart hf i k hi hk) (fun x hx => by
      obtain ⟨i, hi, rfl⟩ := List.getElem_of_mem hx
      obtain ⟨b, hb, _⟩ := lines20 hf i hi
      obtain ⟨_, h1, h2⟩ := find_some hb
      have e : (lineT l n).getD i te = (lineT l n)[i] := by simp [List.getD, hi]
      rw [← e, ← h2]
      exact List.mem_map_of_mem h1)
    rw [List.length_map] at this
    exact this
theorem wlk_few {l : List Ty} (hk : okT l = true) {n : ByteArray} {pre : List Ty} {o : Option Ty} (h : wlk l (fndT l n) pre o) : pre.length ≤ l.length ∧ ∃ rest, lineT l n = pre.map (·.nam) ++ rest := by
  cases hf : fndT l n with
  | none =>
    rw [hf] at h
    rw [wlk_none h]
    exact ⟨by simp, lineT l n, rfl⟩
  | some a =>
    rw [hf] at h
    have ha := (fnd_in hf).1
    have h1 := wlk_len hk (okT_up hk ha) h
    have e : lineT l n = lnF l (l.length + 1) a := by unfold lineT; rw [find_ok hk, hf]
    obtain ⟨rest, hr⟩ := wlk_part (k := l.length + 1) h (by omega)
    have h2 := line_few (l := l) n
    rw [e, hr] at h2
    exact ⟨by simp at h2; omega, rest, by rw [e, hr]⟩
theorem wlk_line {l : List Ty} (hk : okT l = true) {n : ByteArray} {xs : List Ty} (h : wlk l (fndT l n) xs none) : lineT l n = xs.map (·.nam) := by
  have h0 := (wlk_few hk h).1
  cases hf : fndT l n with
  | none =>
    rw [hf] at h
    rw [wlk_none h]
    unfold lineT
    rw [find_ok hk, hf]
    rfl
  | some a =>
    rw [hf] at h
    have e : lineT l n = lnF l (l.length + 1) a := by unfold lineT; rw [find_ok hk, hf]
    rw [e, wlk_whole h (by omega)]
/-- What the landed code asks of a type's Above. -/
def abvB (l : List Ty) (a : Ty) : Bool := if a.abv = te then true else match fndT l a.abv with
  | none => false
  | some b => decide (b.syn = a.syn)
def fitA (a : Ty) : Bool := wrdB (nums a.nam) && fitR a.syn a.rul
def bsAt (l : List Ty) (k : Nat) : Prop := fitA (l.getD k ty0) = true ∧ (k = 0 ∨ lsT (l.getD (k - 1) ty0).nam (l.getD k ty0).nam = true)
theorem up_abv {l : List Ty} {a : Ty} {k : Nat} (h : upT l (k + 1) a = true) : abvB l a = true := by
  unfold abvB
  rw [upT] at h
  split
  · rfl
  · rename_i e
    rw [if_neg e] at h
    cases hf : fndT l a.abv with
    | none => rw [hf] at h; cases h
    | some b =>
      rw [hf] at h
      simp only at h ⊢
      split at h
      · exact decide_eq_true (by assumption)
      · cases h
theorem okT_abv {l : List Ty} (h : okT l = true) {a : Ty} (ha : a ∈ l) : abvB l a = true := up_abv (okT_up h ha)
theorem up_of {l : List Ty} (h0 : fndT l te = none) (ha : ∀ x ∈ l, abvB l x = true) : ∀ {xs : List Ty} {a : Ty} {k : Nat}, a ∈ l → wlk l (some a) xs none → xs.length ≤ k + 1 → upT l k a = true
  | [], _, _, _, h, _ => by cases h
  | y :: t, a, k, hm, h, hk => by
    obtain ⟨e, h⟩ := h
    obtain rfl : a = y := Option.some.inj e
    by_cases e : a.abv = te
    · exact up_stop e k
    · have hb := ha a hm
      unfold abvB at hb
      rw [if_neg e] at hb
      cases hf : fndT l a.abv with
      | none => rw [hf] at hb; cases hb
      | some b =>
        rw [hf] at hb h
        have hs := of_decide_eq_true hb
        cases t with
        | nil => cases h
        | cons z t =>
          cases k with
          | zero => simp at hk
          | succ k =>
            rw [up_more e hf hs]
            exact up_of h0 ha (fnd_in hf).1 h (by simp at hk ⊢; omega)
/-- Names that rise are all apart. -/
theorem bs_rise {l : List Ty} (h : ∀ k, k < l.length → bsAt l k) : ∀ (d i : Nat), i + d + 1 < l.length → lsT (l.getD i ty0).nam (l.getD (i + d + 1) ty0).nam = true := by
  have one : ∀ i, i + 1 < l.length → lsT (l.getD i ty0).nam (l.getD (i + 1) ty0).nam = true := fun i hi => by
    rcases (h (i + 1) hi).2 with q | q
    · omega
    · simpa using q
  intro d
  induction d with
  | zero => exact fun i hi => one i hi
  | succ d ih =>
    intro i hi
    exact ls_tr _ _ _ (ih i (by omega)) (one (i + d + 1) (by omega))
theorem bs_inj {l : List Ty} (h : ∀ k, k < l.length → bsAt l k) {i j : Nat} (hi : i < l.length) (hj : j < l.length) (e : (l.getD i ty0).nam = (l.getD j ty0).nam) : i = j := by
  apply Classical.byContradiction
  intro hn
  rcases Nat.lt_or_ge i j with q | q
  · have := bs_rise h (j - i - 1) i (by omega)
    rw [show i + (j - i - 1) + 1 = j by omega, e] at this
    unfold lsT at this
    rw [ls_irr] at this
    cases this
  · have := bs_rise h (i - j - 1) j (by omega)
    rw [show j + (i - j - 1) + 1 = i by omega, e] at this
    unfold lsT at this
    rw [ls_irr] at this
    cases this
theorem bs_fnd {l : List Ty} (h : ∀ k, k < l.length → bsAt l k) {a : Ty} (ha : a ∈ l) : fndT l a.nam = some a := by
  cases hf : fndT l a.nam with
  | none =>
    unfold fndT at hf
    rw [List.find?_eq_none] at hf
    exact absurd (decide_eq_true rfl) (hf a ha)
  | some b =>
    obtain ⟨hb, e⟩ := fnd_in hf
    obtain ⟨i, hi, rfl⟩ := List.getElem_of_mem ha
    obtain ⟨j, hj, rfl⟩ := List.getElem_of_mem hb
    have := bs_inj h hj hi (by simpa [List.getD, hi, hj] using e)
    subst this
    rfl
theorem bs_empty {l : List Ty} (h : ∀ k, k < l.length → bsAt l k) : fndT l te = none := by
  cases hf : fndT l te with
  | none => rfl
  | some b =>
    obtain ⟨hb, e⟩ := fnd_in hf
    obtain ⟨i, hi, rfl⟩ := List.getElem_of_mem hb
    have := (h i hi).1
    unfold fitA at this
    rw [show l.getD i ty0 = l[i] by simp [List.getD, hi], e] at this
    have hw : wrdB (nums te) = false := by kernel_rfl
    rw [hw] at this
    simp at this
theorem okTo_of {l : List Ty} : ∀ n, n ≤ l.length → (∀ k, k < n → okAt20 l k = true) → okTo20 l n = true
  | 0, _, _ => rfl
  | n + 1, hn, h => by rw [okTo20, okTo_of n (by omega) (fun k hk => h k (by omega)), h n (by omega)]; rfl
/-- Types that the landed code lets be may be. -/
theorem ok_of {l : List Ty} (hl : l.length ≤ 24) (hb : ∀ k, k < l.length → bsAt l k) (ha : ∀ k, k < l.length → abvB l (l.getD k ty0) = true ∧ ∃ xs, xs.length ≤ l.length ∧ wlk l (fndT l (l.getD k ty0).nam) xs none) : okT l = true := by
  unfold okT
  rw [decide_eq_true hl, Bool.true_and]
  have ha2 : ∀ x ∈ l, abvB l x = true := fun x hx => by
    obtain ⟨i, hi, rfl⟩ := List.getElem_of_mem hx
    have := (ha i hi).1
    rwa [show l.getD i ty0 = l[i] by simp [List.getD, hi]] at this
  refine okTo_of _ (Nat.le_refl _) fun k hk => ?_
  obtain ⟨h1, h2⟩ := hb k hk
  obtain ⟨_, xs, hx, hw⟩ := ha k hk
  have hm : l.getD k ty0 ∈ l := by simp [List.getD, hk]
  rw [bs_fnd hb hm] at hw
  have hu := up_of (bs_empty hb) ha2 (k := l.length + 1) hm hw (by omega)
  unfold fitA at h1
  rw [Bool.and_eq_true] at h1
  unfold okAt20 oneT
  rw [h1.1, h1.2, hu]
  rcases h2 with rfl | h2
  · rfl
  · rw [h2]; simp
theorem ok_fit {l : List Ty} (h : okT l = true) {k : Nat} (hk : k < l.length) : bsAt l k := by
  have := okT_at h hk
  unfold okAt20 oneT at this
  rw [Bool.and_eq_true, Bool.and_eq_true, Bool.and_eq_true, Bool.or_eq_true] at this
  refine ⟨by unfold fitA; rw [this.1.1.1, this.1.1.2]; rfl, ?_⟩
  rcases this.2 with q | q
  · exact .inl (of_decide_eq_true q)
  · exact .inr q
theorem not_ok {l : List Ty} (h : ¬ okT l = true) : okT l = false := by
  cases hq : okT l
  · rfl
  · exact absurd hq h
end Go.Proofs.Ytjjildpdelkejaa
/- Object classes, plainly: what the document says of layer 21. -/
namespace Go.Proofs.Ytjjildpdelkejaa
open Go.RowKit

/-- A class: its name, the name above, whether it is bare, what it must and may have. -/
structure Cl where
  nam : ByteArray
  abv : ByteArray
  bar : Bool
  mus : List ByteArray
  may : List ByteArray
def cl0 : Cl := ⟨te, te, false, [], []⟩
/-- The class of a name. -/
def fndC (cs : List Cl) (n : ByteArray) : Option Cl := cs.find? fun x => decide (x.nam = n)
/-- Names that rise, of types that there are. -/
def namAt (l : List Ty) (L : List ByteArray) (i : Nat) : Bool := (findT l (L.getD i te)).isSome && (decide (i = 0) || lsT (L.getD (i - 1) te) (L.getD i te))
def namTo (l : List Ty) (L : List ByteArray) : Nat → Bool
  | 0 => true
  | n + 1 => namTo l L n && namAt l L n
def namT (l : List Ty) (L : List ByteArray) : Bool := namTo l L L.length && decide (L.length ≤ 8)
/-- Does a line of classes end? -/
def upC (cs : List Cl) : Nat → Cl → Bool
  | 0, a => decide (a.abv = te)
  | k + 1, a => if a.abv = te then true else match fndC cs a.abv with
    | none => false
    | some b => upC cs k b
def oneC (l : List Ty) (cs : List Cl) (c : Cl) : Bool := wrdB (nums c.nam) && namT l c.mus && namT l c.may && upC cs (cs.length + 1) c
def okAtC (l : List Ty) (cs : List Cl) (n : Nat) : Bool := oneC l cs (cs.getD n cl0) && (decide (n = 0) || lsT (cs.getD (n - 1) cl0).nam (cs.getD n cl0).nam)
def okToC (l : List Ty) (cs : List Cl) : Nat → Bool
  | 0 => true
  | n + 1 => okToC l cs n && okAtC l cs n
def okC (l : List Ty) (cs : List Cl) : Bool := decide (cs.length ≤ 12) && okToC l cs cs.length
def chkC (l : List Ty) (cs : List Cl) : Int := if okT l then (if okC l cs then 0 else 200) else 190
/-- The classes of a line. -/
def lnC (cs : List Cl) : Nat → Cl → List Cl
  | 0, a => [a]
  | k + 1, a => a :: match fndC cs a.abv with
    | none => []
    | some b => lnC cs k b
def linC (cs : List Cl) (n : ByteArray) : List Cl := match fndC cs n with
  | none => []
  | some a => lnC cs (cs.length + 1) a
def lineC (l : List Ty) (cs : List Cl) (n : ByteArray) : List ByteArray := if chkC l cs = 0 then (linC cs n).map (·.nam) else []
/-- A text in its place, if it is not there. -/
def putS : List ByteArray → ByteArray → List ByteArray
  | [], s => [s]
  | x :: t, s => if lsT x s then x :: putS t s else if x = s then x :: t else s :: x :: t
def srt (L : List ByteArray) : List ByteArray := L.foldl putS []
/-- What classes must have, may have. -/
def allC (cs : List Cl) (ns : List ByteArray) : List Cl := ns.flatMap fun n => linC cs n
def musL (cs : List Cl) (ns : List ByteArray) : List ByteArray := srt ((allC cs ns).flatMap (·.mus))
def malL (cs : List Cl) (ns : List ByteArray) : List ByteArray := srt ((allC cs ns).flatMap (·.may))
def mayL (cs : List Cl) (ns : List ByteArray) : List ByteArray := (malL cs ns).filter fun x => !(musL cs ns).any fun y => decide (y = x)
def thrC (cs : List Cl) (ns : List ByteArray) : Bool := ns.all fun n => (fndC cs n).isSome
def whoC (cs : List Cl) (ns : List ByteArray) : Bool := ns.any fun n => match fndC cs n with
  | none => false
  | some c => !c.bar
/-- Needs. -/
def nedE (l : List Ty) (cs : List Cl) (ns : List ByteArray) : Int := if chkC l cs = 0 then (if thrC cs ns && whoC cs ns then 0 else 200) else chkC l cs
def nedM (l : List Ty) (cs : List Cl) (ns : List ByteArray) : List ByteArray := if nedE l cs ns = 0 then musL cs ns else []
def nedY (l : List Ty) (cs : List Cl) (ns : List ByteArray) : List ByteArray := if nedE l cs ns = 0 then mayL cs ns else []
/-- Fit. -/
def mtA (l : List Ty) (hs : List ByteArray) (m : ByteArray) : Bool := hs.any fun h => isT l h m
def frA (l : List Ty) (M Y : List ByteArray) (h : ByteArray) : Bool := (lineT l h).any fun x => (M.any fun y => decide (y = x)) || (Y.any fun y => decide (y = x))
def fitC (l : List Ty) (cs : List Cl) (ns hs : List ByteArray) : Int :=
  if nedE l cs ns = 0 then
    if hs.all fun h => (findT l h).isSome then
      if ((nedM l cs ns).all fun m => mtA l hs m) && (hs.all fun h => frA l (nedM l cs ns) (nedY l cs ns) h) then 0 else 200
    else 190
  else nedE l cs ns

theorem fndC_in {cs : List Cl} {n : ByteArray} {a : Cl} (h : fndC cs n = some a) : a ∈ cs ∧ a.nam = n := by
  unfold fndC at h
  exact ⟨List.mem_of_find?_eq_some h, by simpa using List.find?_some h⟩
theorem okToC_at {l : List Ty} {cs : List Cl} {n k : Nat} (h : okToC l cs n = true) (hk : k < n) : okAtC l cs k = true := by
  induction n with
  | zero => omega
  | succ n ih =>
    simp only [okToC, Bool.and_eq_true] at h
    rcases Nat.lt_or_ge k n with h1 | h1
    · exact ih h.1 h1
    · obtain rfl : k = n := by omega
      exact h.2
theorem okToC_bad {l : List Ty} {cs : List Cl} {n k : Nat} (hk : k < n) (h : okAtC l cs k = false) : okToC l cs n = false := by
  cases hq : okToC l cs n
  · rfl
  · rw [okToC_at hq hk] at h; cases h
theorem okC_at {l : List Ty} {cs : List Cl} (h : okC l cs = true) {k : Nat} (hk : k < cs.length) : okAtC l cs k = true := by
  unfold okC at h
  rw [Bool.and_eq_true] at h
  exact okToC_at h.2 hk
theorem okC_one {l : List Ty} {cs : List Cl} (h : okC l cs = true) {a : Cl} (ha : a ∈ cs) : oneC l cs a = true := by
  obtain ⟨k, hk, rfl⟩ := List.getElem_of_mem ha
  have := okC_at h hk
  unfold okAtC at this
  rw [Bool.and_eq_true] at this
  simpa [List.getD, hk] using this.1
theorem okC_rise {l : List Ty} {cs : List Cl} (h : okC l cs = true) : ∀ (d i : Nat), i + d + 1 < cs.length → lsT (cs.getD i cl0).nam (cs.getD (i + d + 1) cl0).nam = true := by
  have one : ∀ i, i + 1 < cs.length → lsT (cs.getD i cl0).nam (cs.getD (i + 1) cl0).nam = true := fun i hi => by
    have := okC_at h hi
    unfold okAtC at this
    rw [Bool.and_eq_true, Bool.or_eq_true] at this
    rcases this.2 with q | q
    · simp at q
    · simpa using q
  intro d
  induction d with
  | zero => exact fun i hi => one i hi
  | succ d ih =>
    intro i hi
    exact ls_tr _ _ _ (ih i (by omega)) (one (i + d + 1) (by omega))
theorem okC_inj {l : List Ty} {cs : List Cl} (h : okC l cs = true) {i j : Nat} (hi : i < cs.length) (hj : j < cs.length) (e : (cs.getD i cl0).nam = (cs.getD j cl0).nam) : i = j := by
  apply Classical.byContradiction
  intro hn
  rcases Nat.lt_or_ge i j with q | q
  · have := okC_rise h (j - i - 1) i (by omega)
    rw [show i + (j - i - 1) + 1 = j by omega, e] at this
    unfold lsT at this
    rw [ls_irr] at this
    cases this
  · have := okC_rise h (i - j - 1) j (by omega)
    rw [show j + (i - j - 1) + 1 = i by omega, e] at this
    unfold lsT at this
    rw [ls_irr] at this
    cases this
theorem fndC_of {l : List Ty} {cs : List Cl} (h : okC l cs = true) {a : Cl} (ha : a ∈ cs) : fndC cs a.nam = some a := by
  cases hf : fndC cs a.nam with
  | none =>
    unfold fndC at hf
    rw [List.find?_eq_none] at hf
    exact absurd (decide_eq_true rfl) (hf a ha)
  | some b =>
    obtain ⟨hb, e⟩ := fndC_in hf
    obtain ⟨i, hi, rfl⟩ := List.getElem_of_mem ha
    obtain ⟨j, hj, rfl⟩ := List.getElem_of_mem hb
    have := okC_inj h hj hi (by simpa [List.getD, hi, hj] using e)
    subst this
    rfl
theorem fndC_empty {l : List Ty} {cs : List Cl} (h : okC l cs = true) : fndC cs te = none := by
  cases hf : fndC cs te with
  | none => rfl
  | some b =>
    obtain ⟨hb, e⟩ := fndC_in hf
    have := okC_one h hb
    unfold oneC at this
    rw [e] at this
    have hw : wrdB (nums te) = false := by kernel_rfl
    rw [hw] at this
    simp at this
theorem upC_line {l : List Ty} {cs : List Cl} (h : okC l cs = true) : ∀ (k k' : Nat) (a : Cl), upC cs k a = true → k ≤ k' → lnC cs k' a = lnC cs k a := by
  have stop : ∀ (k : Nat) (a : Cl), a.abv = te → lnC cs k a = [a] := fun k a e => by
    cases k with
    | zero => rfl
    | succ k => rw [lnC, e, fndC_empty h]
  intro k
  induction k with
  | zero =>
    intro k' a hu _
    have e : a.abv = te := of_decide_eq_true hu
    rw [stop k' a e, stop 0 a e]
  | succ k ih =>
    intro k' a hu hk
    by_cases e : a.abv = te
    · rw [stop k' a e, stop (k + 1) a e]
    · obtain ⟨k', rfl⟩ : ∃ m, k' = m + 1 := ⟨k' - 1, by omega⟩
      rw [upC, if_neg e] at hu
      rw [lnC, lnC]
      cases hf : fndC cs a.abv with
      | none => rfl
      | some b =>
        rw [hf] at hu
        simp only at hu ⊢
        rw [ih k' b hu (by omega)]
theorem okC_up {l : List Ty} {cs : List Cl} (h : okC l cs = true) {a : Cl} (ha : a ∈ cs) : upC cs (cs.length + 1) a = true := by
  have := okC_one h ha
  unfold oneC at this
  rw [Bool.and_eq_true] at this
  exact this.2
theorem lnC_in {cs : List Cl} : ∀ (k : Nat) (a : Cl), a ∈ cs → ∀ x ∈ lnC cs k a, x ∈ cs
  | 0, a, ha, x, hx => by rw [lnC, List.mem_singleton] at hx; rw [hx]; exact ha
  | k + 1, a, ha, x, hx => by
    rw [lnC, List.mem_cons] at hx
    rcases hx with rfl | hx
    · exact ha
    · cases hf : fndC cs a.abv with
      | none => rw [hf] at hx; cases hx
      | some b => rw [hf] at hx; exact lnC_in k b (fndC_in hf).1 x hx
theorem linC_in {cs : List Cl} {n : ByteArray} : ∀ x ∈ linC cs n, x ∈ cs := fun x hx => by
  unfold linC at hx
  cases hf : fndC cs n with
  | none => rw [hf] at hx; cases hx
  | some a => rw [hf] at hx; exact lnC_in _ a (fndC_in hf).1 x hx
/-- The line of one in a line is the rest. -/
theorem lnC_all {l : List Ty} {cs : List Cl} (h : okC l cs = true) : ∀ (k : Nat) (a : Cl), a ∈ cs → upC cs k a = true → k ≤ cs.length + 1 → ∀ b ∈ lnC cs k a, ∀ x ∈ linC cs b.nam, x ∈ lnC cs k a := by
  intro k
  have own : ∀ (k : Nat) (a : Cl), a ∈ cs → upC cs k a = true → k ≤ cs.length + 1 → linC cs a.nam = lnC cs k a := fun k a ha hu hk => by
    unfold linC
    rw [fndC_of h ha]
    exact upC_line h k _ a hu hk
  induction k with
  | zero =>
    intro a ha hu hk b hb x hx
    rw [lnC, List.mem_singleton] at hb
    subst hb
    rw [own 0 b ha hu hk] at hx
    exact hx
  | succ k ih =>
    intro a ha hu hk b hb x hx
    have hb' := hb
    rw [lnC, List.mem_cons] at hb
    rcases hb with rfl | hb
    · rw [own (k + 1) b ha hu hk] at hx
      exact hx
    · cases hf : fndC cs a.abv with
      | none => rw [hf] at hb; cases hb
      | some c =>
        rw [hf] at hb
        have e : ¬ a.abv = te := fun q => by rw [q, fndC_empty h] at hf; cases hf
        rw [upC, if_neg e, hf] at hu
        rw [lnC, hf]
        exact List.mem_cons_of_mem _ (ih c (fndC_in hf).1 hu (by omega) b hb x hx)
theorem linC_all {l : List Ty} {cs : List Cl} (h : okC l cs = true) {n : ByteArray} {b : Cl} (hb : b ∈ linC cs n) : ∀ x ∈ linC cs b.nam, x ∈ linC cs n := by
  intro x hx
  unfold linC at hb ⊢
  cases hf : fndC cs n with
  | none => rw [hf] at hb; cases hb
  | some a =>
    rw [hf] at hb
    have ha := (fndC_in hf).1
    exact lnC_all h _ a ha (okC_up h ha) (Nat.le_refl _) b hb x hx

/-! Texts put in their places. -/
theorem ls_or : ∀ (a b : List UInt8), Op.bytesLess a b = true ∨ a = b ∨ Op.bytesLess b a = true
  | [], [] => .inr (.inl rfl)
  | [], _ :: _ => .inl rfl
  | _ :: _, [] => .inr (.inr rfl)
  | x :: a, y :: b => by
    by_cases e : x = y
    · subst e
      rcases ls_or a b with h | h | h
      · left; simp [Op.bytesLess, h]
      · right; left; rw [h]
      · right; right; simp [Op.bytesLess, h]
    · have e' : ¬ y = x := fun q => e q.symm
      rcases Nat.lt_or_ge x.toNat y.toNat with h | h
      · left; simp [Op.bytesLess, e]; exact h
      · right; right
        have : y.toNat < x.toNat := by
          rcases Nat.lt_or_eq_of_le h with q | q
          · exact q
          · exact absurd (UInt8.toNat_inj.1 q.symm) e
        simp [Op.bytesLess, e']; exact this
theorem lsT_or (a b : ByteArray) : lsT a b = true ∨ a = b ∨ lsT b a = true := by
  rcases ls_or a.toList b.toList with h | h | h
  · exact .inl h
  · have hq := txt_beq a b
    rw [h, beq_self_eq_true] at hq
    exact .inr (.inl (of_decide_eq_true hq.symm))
  · exact .inr (.inr h)
theorem lsT_irr (a : ByteArray) : lsT a a = false := ls_irr _
theorem lsT_tr {a b c : ByteArray} (h : lsT a b = true) (k : lsT b c = true) : lsT a c = true := ls_tr _ _ _ h k
theorem mem_putS {x s : ByteArray} : ∀ {L : List ByteArray}, x ∈ putS L s ↔ x ∈ L ∨ x = s
  | [] => by simp [putS]
  | y :: t => by
    rw [putS]
    split
    · rw [List.mem_cons, mem_putS, List.mem_cons, or_assoc]
    · split
      · rename_i e
        subst e
        rw [List.mem_cons]
        constructor
        · exact .inl
        · rintro (h | h)
          · exact h
          · exact .inl h
      · rw [List.mem_cons, or_comm]
def Ris (L : List ByteArray) : Prop := L.Pairwise fun a b => lsT a b = true
theorem ris_putS {s : ByteArray} : ∀ {L : List ByteArray}, Ris L → Ris (putS L s)
  | [], _ => by simp [putS, Ris]
  | y :: t, h => by
    obtain ⟨h1, h2⟩ := List.pairwise_cons.1 h
    rw [putS]
    split
    · rename_i hy
      refine List.pairwise_cons.2 ⟨fun z hz => ?_, ris_putS h2⟩
      rcases mem_putS.1 hz with hz | rfl
      · exact h1 z hz
      · exact hy
    · rename_i hy
      split
      · exact h
      · rename_i e
        have hs : lsT s y = true := by
          rcases lsT_or y s with q | q | q
          · exact absurd q hy
          · exact absurd q e
          · exact q
        refine List.pairwise_cons.2 ⟨fun z hz => ?_, h⟩
        rcases List.mem_cons.1 hz with rfl | hz
        · exact hs
        · exact lsT_tr hs (h1 z hz)
theorem fold_mem {x : ByteArray} : ∀ (M L : List ByteArray), x ∈ M.foldl putS L ↔ x ∈ L ∨ x ∈ M
  | [], L => by simp
  | y :: t, L => by
    rw [List.foldl_cons, fold_mem t, mem_putS, List.mem_cons, or_assoc]
theorem fold_ris : ∀ (M : List ByteArray) {L : List ByteArray}, Ris L → Ris (M.foldl putS L)
  | [], _, h => h
  | _ :: t, _, h => fold_ris t (ris_putS h)
theorem mem_srt {x : ByteArray} {L : List ByteArray} : x ∈ srt L ↔ x ∈ L := by unfold srt; rw [fold_mem]; simp
theorem ris_srt (L : List ByteArray) : Ris (srt L) := fold_ris L (by simp [Ris])
theorem ris_ext : ∀ {L M : List ByteArray}, Ris L → Ris M → (∀ x, x ∈ L ↔ x ∈ M) → L = M
  | [], [], _, _, _ => rfl
  | [], y :: t, _, _, h => absurd ((h y).2 (by simp)) (by simp)
  | x :: s, [], _, _, h => absurd ((h x).1 (by simp)) (by simp)
  | x :: s, y :: t, hL, hM, h => by
    obtain ⟨l1, l2⟩ := List.pairwise_cons.1 hL
    obtain ⟨m1, m2⟩ := List.pairwise_cons.1 hM
    have e : x = y := by
      rcases List.mem_cons.1 ((h x).1 (by simp)) with q | q
      · exact q
      · rcases List.mem_cons.1 ((h y).2 (by simp)) with r | r
        · exact r.symm
        · have := lsT_tr (m1 x q) (l1 y r)
          rw [lsT_irr] at this
          cases this
    subst e
    have : s = t := ris_ext l2 m2 fun z => by
      constructor
      · intro hz
        rcases List.mem_cons.1 ((h z).1 (List.mem_cons_of_mem _ hz)) with q | q
        · subst q
          have := l1 z hz
          rw [lsT_irr] at this
          cases this
        · exact q
      · intro hz
        rcases List.mem_cons.1 ((h z).2 (List.mem_cons_of_mem _ hz)) with q | q
        · subst q
          have := m1 z hz
          rw [lsT_irr] at this
          cases this
        · exact q
    rw [this]
theorem srt_ext {L M : List ByteArray} (h : ∀ x, x ∈ L ↔ x ∈ M) : srt L = srt M := ris_ext (ris_srt L) (ris_srt M) fun x => by rw [mem_srt, mem_srt]; exact h x
/-! P21.5 -/
theorem mem_allC {cs : List Cl} {ns : List ByteArray} {c : Cl} : c ∈ allC cs ns ↔ ∃ n ∈ ns, c ∈ linC cs n := by
  unfold allC
  rw [List.mem_flatMap]
theorem mem_musL {cs : List Cl} {ns : List ByteArray} {x : ByteArray} : x ∈ musL cs ns ↔ ∃ c ∈ allC cs ns, x ∈ c.mus := by
  unfold musL
  rw [mem_srt, List.mem_flatMap]
theorem mem_malL {cs : List Cl} {ns : List ByteArray} {x : ByteArray} : x ∈ malL cs ns ↔ ∃ c ∈ allC cs ns, x ∈ c.may := by
  unfold malL
  rw [mem_srt, List.mem_flatMap]
theorem mem_mayL {cs : List Cl} {ns : List ByteArray} {x : ByteArray} : x ∈ mayL cs ns ↔ x ∈ malL cs ns ∧ ¬ x ∈ musL cs ns := by
  unfold mayL
  rw [List.mem_filter, Bool.not_eq_true', List.any_eq_false]
  constructor
  · rintro ⟨h1, h2⟩
    exact ⟨h1, fun q => h2 x q (by simp)⟩
  · rintro ⟨h1, h2⟩
    exact ⟨h1, fun y hy q => h2 ((of_decide_eq_true q : y = x) ▸ hy)⟩
theorem mus_ext {cs : List Cl} {ns ms : List ByteArray} (h : ∀ c, c ∈ allC cs ns ↔ c ∈ allC cs ms) : musL cs ns = musL cs ms ∧ mayL cs ns = mayL cs ms := by
  have h1 : musL cs ns = musL cs ms := by
    unfold musL
    refine srt_ext fun x => ?_
    rw [List.mem_flatMap, List.mem_flatMap]
    exact ⟨fun ⟨c, hc, q⟩ => ⟨c, (h c).1 hc, q⟩, fun ⟨c, hc, q⟩ => ⟨c, (h c).2 hc, q⟩⟩
  have h2 : malL cs ns = malL cs ms := by
    unfold malL
    refine srt_ext fun x => ?_
    rw [List.mem_flatMap, List.mem_flatMap]
    exact ⟨fun ⟨c, hc, q⟩ => ⟨c, (h c).1 hc, q⟩, fun ⟨c, hc, q⟩ => ⟨c, (h c).2 hc, q⟩⟩
  refine ⟨h1, ?_⟩
  unfold mayL
  rw [h1, h2]
end Go.Proofs.Ytjjildpdelkejaa
/- Object classes and schemas in memory. -/
namespace Go.Proofs.Ytjjildpdelkejaa
open Go.RowKit

/-- The five cells of a class. -/
def CellsC (w : World) (b o : Nat) (c : Cl) : Prop :=
  w.cell? ⟨b, o, none⟩ = some (.string c.nam) ∧ w.cell? ⟨b, o + 1, none⟩ = some (.string c.abv) ∧ w.cell? ⟨b, o + 2, none⟩ = some (.bool c.bar) ∧ (∃ vm, w.cell? ⟨b, o + 3, none⟩ = some vm ∧ TsV w vm c.mus) ∧ (∃ vy, w.cell? ⟨b, o + 4, none⟩ = some vy ∧ TsV w vy c.may)
theorem CellsC.below {w w2 : World} {b o : Nat} {c : Cl} (h : CellsC w b o c) (hb : Below w.heap.size w w2) : CellsC w2 b o c := by
  obtain ⟨h0, h1, h2, ⟨vm, h3, k3⟩, ⟨vy, h4, k4⟩⟩ := h
  exact ⟨(hb.cell (cell_lt h0)).trans h0, (hb.cell (cell_lt h1)).trans h1, (hb.cell (cell_lt h2)).trans h2, ⟨vm, (hb.cell (cell_lt h3)).trans h3, k3.below hb⟩, ⟨vy, (hb.cell (cell_lt h4)).trans h4, k4.below hb⟩⟩
/-- A slice that holds the classes cs. -/
def ClsV (w : World) (v : Value) (cs : List Cl) : Prop :=
  ∃ a cap, v = .slice a cs.length cap ∧ (cs.length ≤ cap ∧ cs.length ≤ 9223372036854775807) ∧ (0 < cs.length → ∃ b off, a = some ⟨b, off, none⟩ ∧ ∀ j, j < cs.length → CellsC w b (off + j * 5) (cs.getD j cl0))
theorem ClsV.below {w w2 : World} {v : Value} {cs : List Cl} (h : ClsV w v cs) (hb : Below w.heap.size w w2) : ClsV w2 v cs := by
  obtain ⟨a, cap, rfl, hn, hc⟩ := h
  refine ⟨a, cap, rfl, hn, fun i => ?_⟩
  obtain ⟨b, off, rfl, hcc⟩ := hc i
  exact ⟨b, off, rfl, fun j hj => (hcc j hj).below hb⟩
theorem ClsV.shape {w : World} {v : Value} {cs : List Cl} (h : ClsV w v cs) : ∃ a c, v = .slice a cs.length c := by
  obtain ⟨a, c, h, _⟩ := h
  exact ⟨a, c, h⟩
/-- A box of a schema. -/
def Bs (b : Nat) (va vc : Value) (w : World) : Prop := w.heap[b]? = some (.cells #[va, vc] 25)
theorem Bs.keep {b : Nat} {va vc : Value} {w w2 : World} (h : Bs b va vc w) (hb : Below w.heap.size w w2) : Bs b va vc w2 := (hb.block _ (bt_lt h)).trans h
theorem Bs.cells {b : Nat} {va vc : Value} {w : World} (h : Bs b va vc w) : w.cell? ⟨b, 0, none⟩ = some va ∧ w.cell? ⟨b, 1, none⟩ = some vc := by
  have hc : ∀ o, w.cell? ⟨b, o, none⟩ = (#[va, vc] : Array Value)[o]? := fun o => by
    unfold World.cell?
    rw [show w.heap[(⟨b, o, none⟩ : Addr).block]? = w.heap[b]? from rfl, h]
    rfl
  exact ⟨hc 0, hc 1⟩
/-- The place of a name. -/
def ixG (n : ByteArray) : List Cl → Nat → Int
  | [], _ => -1
  | x :: t, k => if x.nam = n then (k : Int) else ixG n t (k + 1)
def ixC (cs : List Cl) (n : ByteArray) : Int := ixG n cs 0
theorem drop_consC (l : List Cl) (i : Nat) (h : i < l.length) : l.drop i = l.getD i cl0 :: l.drop (i + 1) := by
  rw [List.drop_eq_getElem_cons h]
  simp [List.getD, h]
theorem ixG_fnd (n : ByteArray) : ∀ (l : List Cl) (k : Nat), (fndC l n = none ∧ ixG n l k = -1) ∨ ∃ j : Nat, j < l.length ∧ ixG n l k = ((k + j : Nat) : Int) ∧ fndC l n = some (l.getD j cl0)
  | [], k => .inl ⟨rfl, rfl⟩
  | x :: t, k => by
    unfold fndC ixG
    by_cases h : x.nam = n
    · right
      refine ⟨0, by simp, by rw [if_pos h]; simp, ?_⟩
      rw [List.find?_cons_of_pos (by simpa using h)]
      rfl
    · rw [List.find?_cons_of_neg (by simpa using h), if_neg h]
      rcases ixG_fnd n t (k + 1) with ⟨h1, h2⟩ | ⟨j, h1, h2, h3⟩
      · exact .inl ⟨h1, h2⟩
      · refine .inr ⟨j + 1, by simp; omega, by rw [h2]; omega, ?_⟩
        have := h3
        unfold fndC at this
        rw [this]
        simp
theorem ixC_fnd (l : List Cl) (n : ByteArray) : (fndC l n = none ∧ ixC l n = -1) ∨ ∃ j : Nat, j < l.length ∧ ixC l n = (j : Int) ∧ fndC l n = some (l.getD j cl0) := by
  rcases ixG_fnd n l 0 with h | ⟨j, h1, h2, h3⟩
  · exact .inl h
  · exact .inr ⟨j, h1, by unfold ixC; rw [h2]; simp, h3⟩
set_option maxHeartbeats 1600000 in
theorem rcat_any (va vc : Value) (cs : List Cl) (n : ByteArray) (w : World) (hV : ClsV w vc cs) : Calls Try.prog 30 #[.agg #[va, vc], .string n] w fun e w' => e = .returned (.int .i64 (ixC cs n)) ∧ Below w.heap.size w w' := by
  obtain ⟨a, cap, rfl, hn, hc⟩ := hV
  have hn2 : (cs.length : Int) ≤ 9223372036854775807 := by omega
  have b0 := Below.one w (.cells #[va, .slice a cs.length cap] 25)
  have h0 : Bs w.heap.size va (.slice a cs.length cap) (w.alloc (.cells #[va, .slice a cs.length cap] 25)) := heap_new w _
  have c1 := h0.cells.2
  have HC := hide hc
  clear hc h0
  go_enter Try.func30, Try.ntmps30
  go_wp2
  go_loop [5] (fun i => ∃ k : Nat, k ≤ cs.length ∧ i = .int .i64 (k : Int) ∧ Hid (ixG n (cs.drop k) k = ixC cs n)) (fun i => cs.length - (intOf i).toNat)
  case atStart => exact ⟨0, Nat.zero_le _, rfl, rfl⟩
  case round =>
    obtain ⟨k, hk, rfl, HK⟩ := hrel
    by_cases hlt : k < cs.length
    · have hzl : (k : Int) < (cs.length : Int) := by omega
      have hz0 : (0 : Int) ≤ (k : Int) := by omega
      obtain ⟨b, off, rfl, hcc⟩ := unhide HC (by omega)
      obtain ⟨q0, _⟩ := hcc k hlt
      replace q0 := (b0.cell (cell_lt q0)).trans q0
      have HD := hide (drop_consC cs k hlt)
      clear hcc HC
      generalize cs.getD k cl0 = t at *
      have hq := txt_beq t.nam n
      by_cases h : t.nam = n
      · rw [decide_eq_true h] at hq
        have HE : Hid ((k : Int) = ixC cs n) := by show _ = _; rw [← unhide HK, unhide HD, ixG, if_pos h]
        clear h HK HD
        go_wp2
        go_ret
        exact ⟨ret_int (unhide HE), b0⟩
      · rw [decide_eq_false h] at hq
        have HK2 : Hid (ixG n (cs.drop (k + 1)) (k + 1) = ixC cs n) := by show _ = _; rw [← unhide HK, unhide HD, ixG, if_neg h]
        clear h HK HD
        go_wp2
        go_round
        case rel => exact ⟨k + 1, by omega, by go_num, unhide HK2⟩
        case measure => simp [intOf]; omega
    · have hzl : ¬ (k : Int) < (cs.length : Int) := by omega
      have HE : Hid (-1 = ixC cs n) := by show _ = _; rw [← unhide HK, List.drop_eq_nil_of_le (by omega)]; rfl
      clear HK
      go_wp2
      go_ret
      exact ⟨ret_int (unhide HE), b0⟩
end Go.Proofs.Ytjjildpdelkejaa
