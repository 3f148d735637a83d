/- The document's Word and Check of layer 18. -/
import Derived.Test.YtjjildpdelkejaaM03
import Derived.Test.YtjjildpdelkejaaM01
namespace Go.Proofs.Ytjjildpdelkejaa
open Go.RowKit

theorem wrd_long {l : List Int} (h : l.length < 1 ∨ 16 < l.length) : wrdB l = false := by
  unfold wrdB
  rw [decide_eq_false (by omega)]
  rfl
/-- A word, told byte by byte. -/
def wrdK (l : List Int) (k : Nat) : Bool := wrdC (l.getD k 0) && (decide (k ≠ 0) || lowB (l.getD k 0))
theorem wrd_yes {l : List Int} (h1 : 1 ≤ l.length) (h2 : l.length ≤ 16) (h : ∀ k, k < l.length → wrdK l k = true) : wrdB l = true := by
  unfold wrdB
  rw [decide_eq_true ⟨h1, h2⟩, all_of wrdC 0 l (fun k hk => by have := h k hk; unfold wrdK at this; simp only [Bool.and_eq_true] at this; exact this.1)]
  have := h 0 (by omega)
  unfold wrdK at this
  simp at this
  simp [this.2]
theorem wrd_no {l : List Int} {k : Nat} (hk : k < l.length) (h : wrdK l k = false) : wrdB l = false := by
  cases hw : wrdB l
  · rfl
  · exfalso
    unfold wrdB at hw
    simp only [Bool.and_eq_true] at hw
    have ha := all_at (d := 0) hw.2.2 k hk
    unfold wrdK at h
    rw [ha, Bool.true_and, Bool.or_eq_false_iff, decide_eq_false_iff_not] at h
    obtain ⟨h1, h2⟩ := h
    have e : k = 0 := by omega
    subst e
    rw [hw.2.1] at h2
    cases h2
theorem wrdK_eq (l : List Int) (k : Nat) (c : Int) (hc : l.getD k 0 = c) : wrdK l k = ((decide (97 ≤ c) && decide (c ≤ 122)) || (decide (k ≠ 0) && ((decide (48 ≤ c) && decide (c ≤ 57)) || decide (c = 45)))) := by
  unfold wrdK wrdC lowB digB
  rw [hc, Bool.eq_iff_iff]
  simp
  omega
set_option maxHeartbeats 3200000 in
theorem rword_any (s : ByteArray) (w : World) : Calls Try.prog 52 #[.string s] w fun e w' => e = .returned (.bool (wrdB (nums s))) ∧ w' = w := by
  by_cases h1 : s.size < 1
  · have z1 : (s.size : Int) < 1 := by omega
    have HE := hide (wrd_long (l := nums s) (by rw [nums_length]; omega))
    generalize wrdB (nums s) = r at *
    go_enter Try.func52, Try.ntmps52
    go_wp2
    go_ret
    exact ⟨ret_bool (unhide HE).symm, rfl⟩
  · by_cases h2 : 16 < s.size
    · have z1 : ¬ (s.size : Int) < 1 := by omega
      have z2 : 16 < (s.size : Int) := by omega
      have HE := hide (wrd_long (l := nums s) (by rw [nums_length]; omega))
      generalize wrdB (nums s) = r at *
      go_enter Try.func52, Try.ntmps52
      go_wp2
      go_ret
      exact ⟨ret_bool (unhide HE).symm, rfl⟩
    · have z1 : ¬ (s.size : Int) < 1 := by omega
      have z2 : ¬ 16 < (s.size : Int) := by omega
      go_enter Try.func52, Try.ntmps52
      go_wp2
      go_loopw [3] (fun i wr => ∃ k : Nat, k ≤ s.size ∧ i = .int .i64 k ∧ Hid (∀ j, j < k → wrdK (nums s) j = true) ∧ wr = w) (fun i _ => s.size - (intOf i).toNat)
      case atStart => exact ⟨0, Nat.zero_le _, rfl, fun j hj => absurd hj (Nat.not_lt_zero _), rfl⟩
      case round =>
        obtain ⟨k, hk, rfl, HK, rfl⟩ := hrel
        by_cases hlt : k < s.size
        · have hzl : (k : Int) < (s.size : Int) := by omega
          have hz0 : (0 : Int) ≤ (k : Int) := by omega
          obtain ⟨c, hc⟩ : ∃ c : Int, (s[k].toNat : Int) = c := ⟨_, rfl⟩
          have HQ := hide (wrdK_eq (nums s) k c (by rw [nums_at s k hlt]; exact hc))
          have HN : Hid (wrdK (nums s) k = false → wrdB (nums s) = false) := fun h => wrd_no (by rw [nums_length]; exact hlt) h
          have HY : Hid (wrdK (nums s) k = true → ∀ j, j < k + 1 → wrdK (nums s) j = true) := fun h j hj => by
            by_cases e : j = k
            · rw [e]; exact h
            · exact unhide HK j (by omega)
          have hk0 : ((k : Int) = 0 ∧ k = 0) ∨ (¬ (k : Int) = 0 ∧ k ≠ 0) := by omega
          by_cases a1 : 97 ≤ c <;> by_cases a2 : c ≤ 122 <;> by_cases a3 : 48 ≤ c <;> by_cases a4 : c ≤ 57 <;> by_cases a5 : c = 45 <;> first
            | (exfalso; omega)
            | (have h00 : 0 < s.size := by omega
               have hc0 : k = 0 → (s[0].toNat : Int) = c := fun e => by subst e; exact hc
               rcases hk0 with ⟨k1, k2⟩ | ⟨k1, k2⟩ <;> (
                try have hc1 := hc0 k2
                clear hc0
                have HV : Hid (wrdK (nums s) k = ((decide (97 ≤ c) && decide (c ≤ 122)) || (decide (k ≠ 0) && ((decide (48 ≤ c) && decide (c ≤ 57)) || decide (c = 45))))) := HQ
                clear HQ
                first
                  | rw [decide_eq_false (p := k ≠ 0) (by omega)] at HV
                  | rw [decide_eq_true (p := k ≠ 0) k2] at HV
                clear k2
                have a5' : (c == 45) = decide (c = 45) := by rfl
                simp only [a1, a2, a3, a4, a5, decide_true, decide_false, Bool.and_true, Bool.and_false, Bool.or_true, Bool.or_false] at HV
                go_wp2
                first
                  | (go_ret; exact ⟨ret_bool (unhide HN (unhide HV)).symm, rfl⟩)
                  | (go_roundw
                     case rel => exact ⟨k + 1, by omega, by go_num, unhide HY (unhide HV), trivial⟩
                     case measure => simp [intOf]; omega)))
        · have hzl : ¬ (k : Int) < (s.size : Int) := by omega
          have HE : Hid (wrdB (nums s) = true) := wrd_yes (by rw [nums_length]; omega) (by rw [nums_length]; omega) (fun j hj => unhide HK j (by rw [nums_length] at hj; omega))
          go_wp2
          go_ret
          exact ⟨ret_bool (unhide HE).symm, rfl⟩
theorem okP_no {p : Pr} (h : wrdB (nums p.nam) = false ∨ p.val.size = 0 ∨ 400 < p.val.size) : okP p = false := by
  unfold okP
  rcases h with h | h
  · rw [h]; rfl
  · rw [decide_eq_false (by omega), Bool.and_false]
theorem okP_yes {p : Pr} (h : wrdB (nums p.nam) = true) (h1 : p.val.size ≠ 0) (h2 : ¬ 400 < p.val.size) : okP p = true := by
  unfold okP
  rw [h, decide_eq_true (by omega)]
  rfl
theorem okR_len {r : List Pr} (h : r.length = 0 ∨ 3 < r.length) : okR r = false := by
  unfold okR
  rw [decide_eq_false (by omega)]
  rfl
theorem okR_no {r : List Pr} {k : Nat} (hk : k < r.length) (h : okP (r.getD k pr0) = false) : okR r = false := by
  cases hr : okR r
  · rfl
  · have := (okR_parts hr).2 _ (getD_memP r k hk)
    rw [this] at h
    cases h
theorem okR_yes {r : List Pr} (h0 : r.length ≠ 0) (h1 : ¬ 3 < r.length) (h : ∀ k, k < r.length → okP (r.getD k pr0) = true) : okR r = true := by
  unfold okR
  rw [decide_eq_true (by omega), all_of okP pr0 r h]
  rfl
theorem okN_len {n : List (List Pr)} (h : 6 < n.length) : okN n = false := by
  unfold okN
  rw [decide_eq_false (by omega)]
  rfl
theorem okN_no {n : List (List Pr)} {k : Nat} (hk : k < n.length) (h : okR (n.getD k []) = false) : okN n = false := by
  cases hr : okN n
  · rfl
  · have := (okN_parts hr).2 _ (getD_memR n k hk)
    rw [this] at h
    cases h
theorem okN_yes {n : List (List Pr)} (h1 : ¬ 6 < n.length) (h : ∀ k, k < n.length → okR (n.getD k []) = true) : okN n = true := by
  unfold okN
  rw [decide_eq_true (by omega), all_of okR [] n h]
  rfl
theorem ok_next {α : Type} {p : α → Bool} {d : α} {l : List α} {k : Nat} (h : ∀ j, j < k → p (l.getD j d) = true) (h1 : p (l.getD k d) = true) : ∀ j, j < k + 1 → p (l.getD j d) = true := fun j hj => by
  by_cases e : j = k
  · rw [e]; exact h1
  · exact h j (by omega)
end Go.Proofs.Ytjjildpdelkejaa
/- The document's at, fits, one of layer 20. -/
namespace Go.Proofs.Ytjjildpdelkejaa
open Go.RowKit

set_option maxHeartbeats 1600000 in
theorem rat_any (v : Value) (l : List Ty) (n : ByteArray) (w : World) (hV : TysV w v l) : Calls Try.prog 64 #[v, .string n] w fun e w' => e = .returned (.int .i64 (ixT l n)) ∧ w = w' := by
  obtain ⟨a, cap, rfl, hn, hc⟩ := hV
  have HC := hide hc
  have hn2 : (l.length : Int) ≤ 9223372036854775807 := by omega
  clear hc
  go_enter Try.func64, Try.ntmps64
  go_wp2
  go_loop [5] (fun i => ∃ k : Nat, k ≤ l.length ∧ i = .int .i64 (k : Int) ∧ Hid (ixF n (l.drop k) k = ixT l n)) (fun i => l.length - (intOf i).toNat)
  case atStart => exact ⟨0, Nat.zero_le _, rfl, rfl⟩
  case round =>
    obtain ⟨k, hk, rfl, HK⟩ := hrel
    by_cases hlt : k < l.length
    · have hzl : (k : Int) < (l.length : Int) := by omega
      have hz0 : (0 : Int) ≤ (k : Int) := by omega
      obtain ⟨b, off, rfl, hcc⟩ := unhide HC (by omega)
      obtain ⟨q0, _⟩ := hcc k hlt
      have HD := hide (drop_consT l k hlt)
      clear hcc HC
      generalize l.getD k ty0 = t at *
      have hq := txt_beq t.nam n
      by_cases h : t.nam = n
      · rw [decide_eq_true h] at hq
        have HE : Hid ((k : Int) = ixT l n) := by show _ = _; rw [← unhide HK, unhide HD, ixF, if_pos h]
        clear h HK HD
        go_wp2
        go_ret
        exact ⟨ret_int (unhide HE), rfl⟩
      · rw [decide_eq_false h] at hq
        have HK2 : Hid (ixF n (l.drop (k + 1)) (k + 1) = ixT l n) := by show _ = _; rw [← unhide HK, unhide HD, ixF, if_neg h]
        clear h HK HD
        go_wp2
        go_round
        case rel => exact ⟨k + 1, by omega, by go_num, unhide HK2⟩
        case measure => simp [intOf]; omega
    · have hzl : ¬ (k : Int) < (l.length : Int) := by omega
      have HE : Hid (-1 = ixT l n) := by show _ = _; rw [← unhide HK, List.drop_eq_nil_of_le (by omega)]; rfl
      clear HK
      go_wp2
      go_ret
      exact ⟨ret_int (unhide HE), rfl⟩
set_option maxHeartbeats 1600000 in
theorem rfits_any (s r : Int) (w : World) : Calls Try.prog 71 #[.int .i64 s, .int .i64 r] w fun e w' => e = .returned (.bool (fitR s r)) ∧ w = w' := by
  by_cases h1 : s < 1
  · have HE : Hid (fitR s r = false) := by show _ = _; unfold fitR; rw [if_pos (.inl h1)]
    go_enter Try.func71, Try.ntmps71
    go_wp2
    go_ret
    exact ⟨ret_bool (unhide HE).symm, rfl⟩
  by_cases h2 : 10 < s
  · have HE : Hid (fitR s r = false) := by show _ = _; unfold fitR; rw [if_pos (.inr h2)]
    go_enter Try.func71, Try.ntmps71
    go_wp2
    go_ret
    exact ⟨ret_bool (unhide HE).symm, rfl⟩
  have HF : Hid (fitR s r = if s = 1 ∨ s = 2 then decide (0 ≤ r ∧ r ≤ 2) else if s = 10 then decide (r = 0 ∨ r = 10 ∨ r = 11) else decide (r = 0 ∨ r = s)) := by show _ = _; unfold fitR; rw [if_neg (by omega)]
  by_cases h3 : s = 1 ∨ s = 2
  · rw [if_pos h3] at HF
    by_cases a1 : 0 ≤ r <;> by_cases a2 : r ≤ 2
    all_goals
      have HE : Hid (fitR s r = _) := (unhide HF).trans (by first | exact decide_eq_true ⟨a1, a2⟩ | exact decide_eq_false (fun q => a1 q.1) | exact decide_eq_false (fun q => a2 q.2))
      clear HF
      rcases h3 with rfl | rfl
      all_goals
        clear h1 h2
        go_enter Try.func71, Try.ntmps71
        go_wp2
        go_ret
        exact ⟨ret_bool (unhide HE).symm, rfl⟩
  rw [if_neg h3] at HF
  have e1 : (s == 1) = false := by rw [beq_eq_false_iff_ne]; omega
  have e2 : (s == 2) = false := by rw [beq_eq_false_iff_ne]; omega
  by_cases h4 : s = 10
  · rw [if_pos h4] at HF
    subst h4
    by_cases a1 : r = 0
    · have HE : Hid (fitR 10 r = true) := (unhide HF).trans (decide_eq_true (.inl a1))
      subst a1
      clear HF h1 h2 h3 e1 e2
      go_enter Try.func71, Try.ntmps71
      go_wp2
      go_ret
      exact ⟨ret_bool (unhide HE).symm, rfl⟩
    have b1 : (r == 0) = false := by rw [beq_eq_false_iff_ne]; exact a1
    by_cases a2 : r = 10
    · have HE : Hid (fitR 10 r = true) := (unhide HF).trans (decide_eq_true (.inr (.inl a2)))
      subst a2
      clear HF h1 h2 h3 e1 e2 a1 b1
      go_enter Try.func71, Try.ntmps71
      go_wp2
      go_ret
      exact ⟨ret_bool (unhide HE).symm, rfl⟩
    have b2 : (r == 10) = false := by rw [beq_eq_false_iff_ne]; exact a2
    by_cases a3 : r = 11
    · have HE : Hid (fitR 10 r = true) := (unhide HF).trans (decide_eq_true (.inr (.inr a3)))
      subst a3
      clear HF h1 h2 h3 e1 e2 a1 b1 a2 b2
      go_enter Try.func71, Try.ntmps71
      go_wp2
      go_ret
      exact ⟨ret_bool (unhide HE).symm, rfl⟩
    have b3 : (r == 11) = false := by rw [beq_eq_false_iff_ne]; exact a3
    have HE : Hid (fitR 10 r = false) := (unhide HF).trans (decide_eq_false (by omega))
    clear HF h1 h2 h3 e1 e2 a1 a2 a3
    go_enter Try.func71, Try.ntmps71
    go_wp2
    go_ret
    exact ⟨ret_bool (unhide HE).symm, rfl⟩
  rw [if_neg h4] at HF
  have e3 : (s == 10) = false := by rw [beq_eq_false_iff_ne]; exact h4
  by_cases a1 : r = 0
  · have HE : Hid (fitR s r = true) := (unhide HF).trans (decide_eq_true (.inl a1))
    subst a1
    clear HF h3 h4
    go_enter Try.func71, Try.ntmps71
    go_wp2
    go_ret
    exact ⟨ret_bool (unhide HE).symm, rfl⟩
  have b1 : (r == 0) = false := by rw [beq_eq_false_iff_ne]; exact a1
  by_cases a2 : r = s
  · have HE : Hid (fitR s r = true) := (unhide HF).trans (decide_eq_true (.inr a2))
    have b2 : (r == s) = true := by simpa using a2
    clear HF h3 h4 a1 a2
    go_enter Try.func71, Try.ntmps71
    go_wp2
    go_ret
    exact ⟨ret_bool (unhide HE).symm, rfl⟩
  have b2 : (r == s) = false := by rw [beq_eq_false_iff_ne]; exact a2
  have HE : Hid (fitR s r = false) := (unhide HF).trans (decide_eq_false (by omega))
  clear HF h3 h4 a1 a2
  go_enter Try.func71, Try.ntmps71
  go_wp2
  go_ret
  exact ⟨ret_bool (unhide HE).symm, rfl⟩
end Go.Proofs.Ytjjildpdelkejaa
/- A region that draws, whose own operations only read, and whose callees leave all that lay as it lay: one walk. -/
namespace Go.Proofs.Ytjjildpdelkejaa
open Go.RowKit

/-- A world in which all that lay in w lies as it lay. -/
structure BB (w : World) where
  W : World
  b : Below w.heap.size w W
theorem wp_region_below {P : Program} {id : Nat} {Q : Exit → Act → World → Prop} {a : Act} {w : World} {l : List Oper} (hm : P.follows .mixedOrders = true) (hB : Region.lexB .any l.toArray = true)
    (h : Nonempty (BB w) → wpQuiet P l.toArray (fun w' => ∃ p : BB w, w' = p.W) (fun a' => ∀ w', (∃ p : BB w, w' = p.W) → Q .normal a' w') l a) : (Code.region id l.toArray true).wp P Q a w :=
  wp_region_quiet (C := fun w' => ∃ p : BB w, w' = p.W) hm hB ⟨⟨w.drewN 1, ((Gr.refl w).drewN 1).below⟩, rfl⟩ (by simpa using h ⟨⟨w, Below.refl _ _⟩⟩)
theorem callsBB {P : Program} {f : FuncId} {args : Array Value} {w : World} {p : BB w} {v : Value} (h : Calls P f args p.W fun e w' => e = .returned v ∧ Below p.W.heap.size p.W w') : Calls P f args p.W fun e w'' => e = .returned v ∧ ∃ q : BB w, w'' = q.W :=
  h.mono fun _ w' ⟨he, hb⟩ => ⟨he, ⟨w', p.b.trans (hb.mono p.b.size)⟩, rfl⟩
theorem cell_bb {w : World} {a : Addr} {v : Value} (h : w.cell? a = some v) (p : BB w) : p.W.cell? a = some v := (p.b.cell (cell_lt h)).trans h
end Go.Proofs.Ytjjildpdelkejaa
/- The document's one of layer 20. -/
namespace Go.Proofs.Ytjjildpdelkejaa
open Go.RowKit

theorem up_stop {l : List Ty} {x : Ty} (h : x.abv = te) : ∀ m, upT l m x = true
  | 0 => decide_eq_true h
  | m + 1 => by rw [upT, if_pos h]
theorem up_none {l : List Ty} {x : Ty} (h : ¬ x.abv = te) (hf : fndT l x.abv = none) : ∀ m, upT l m x = false
  | 0 => decide_eq_false h
  | m + 1 => by rw [upT, if_neg h, hf]
theorem up_syn {l : List Ty} {x y : Ty} (h : ¬ x.abv = te) (hf : fndT l x.abv = some y) (hs : ¬ y.syn = x.syn) : ∀ m, upT l m x = false
  | 0 => decide_eq_false h
  | m + 1 => by rw [upT, if_neg h, hf]; simp only; rw [if_neg hs]
theorem up_more {l : List Ty} {x y : Ty} (h : ¬ x.abv = te) (hf : fndT l x.abv = some y) (hs : y.syn = x.syn) (m : Nat) : upT l (m + 1) x = upT l m y := by
  rw [upT, if_neg h, hf]; simp only; rw [if_pos hs]
theorem emp_iff (s : ByteArray) : s.toList.isEmpty = decide (s = te) := by
  rw [Lib.toList_data]
  cases s with | mk a =>
  cases a with | mk l =>
  cases l with
  | nil => rfl
  | cons x t =>
    rw [decide_eq_false (fun h => by unfold te at h; injection h with h; injection h with h; cases h)]
    rfl
set_option maxHeartbeats 3200000 in
theorem rone_any (v : Value) (l : List Ty) (a : Ty) (w : World) (hV : TysV w v l) (hl : l.length ≤ 100000) :
    Calls Try.prog 51 #[v, .agg #[.string a.nam, .string a.abv, .int .i64 a.syn, .int .i64 a.rul, .bool a.sgl, .bool a.cls]] w fun e w' => e = .returned (.bool (oneT l a)) ∧ Below w.heap.size w w' := by
  have mx : Try.prog.follows .mixedOrders = true := by kernel_rfl
  have CF := hide (rfits_any a.syn a.rul)
  have CW := hide (fun W => (rword_any a.nam W).mono fun _ _ ⟨p, q⟩ => (⟨p, q.symm⟩ : _ ∧ W = _))
  have HV := hide hV
  obtain ⟨va, vc, rfl⟩ := hV.shape
  have B0 : Hid (Bt w.heap.size a (w.alloc (.cells #[.string a.nam, .string a.abv, .int .i64 a.syn, .int .i64 a.rul, .bool a.sgl, .bool a.cls] 65))) := heap_new w _
  have b0 := Below.one w (.cells #[.string a.nam, .string a.abv, .int .i64 a.syn, .int .i64 a.rul, .bool a.sgl, .bool a.cls] 65)
  have HO : Hid (oneT l a = (fitR a.syn a.rul && wrdB (nums a.nam) && upT l (l.length + 1) a)) := rfl
  have HU : Hid (upT l (l.length + 1) a = upT l (l.length + 1) a) := rfl
  clear hV
  generalize oneT l a = R at *
  generalize fitR a.syn a.rul = p at *
  generalize wrdB (nums a.nam) = q at *
  generalize hU : upT l (l.length + 1) a = U at HO
  rw [hU] at HU
  have HU2 := hide hU
  clear hU HU
  cases p
  · clear CW HU2
    go_enter Try.func51, Try.ntmps51
    go_wp2_with (go_at_call 71; refine (unhide CF _).mono ?_; rintro e w2 ⟨rfl, rfl⟩)
    go_ret
    exact ⟨ret_bool (unhide HO).symm, b0⟩
  cases q
  · clear HU2
    go_enter Try.func51, Try.ntmps51
    go_wp2_with (first
      | (go_at_call 52; refine (unhide CW _).mono ?_; rintro e w2 ⟨rfl, rfl⟩)
      | (go_at_call 71; refine (unhide CF _).mono ?_; rintro e w2 ⟨rfl, rfl⟩))
    go_ret
    exact ⟨ret_bool (unhide HO).symm, b0⟩
  have HR : Hid (R = U) := by show _ = _; rw [unhide HO]; simp
  clear HO
  go_enter Try.func51, Try.ntmps51
  go_wp2_with (first
    | (go_at_call 52; refine (unhide CW _).mono ?_; rintro e w2 ⟨rfl, rfl⟩)
    | (go_at_call 71; refine (unhide CF _).mono ?_; rintro e w2 ⟨rfl, rfl⟩))
  go_loopw [5] (fun vi wr => ∃ (k : Nat) (x : Ty), vi = .int .i64 (k : Int) ∧ k ≤ l.length + 1 ∧ Hid (upT l (l.length + 1 - k) x = U) ∧ Hid (Bt w.heap.size x wr) ∧ Below w.heap.size w wr) (fun i _ => l.length + 2 - (intOf i).toNat)
  case atStart => exact ⟨0, a, rfl, Nat.zero_le _, unhide HU2, unhide B0, b0⟩
  case round =>
    obtain ⟨k, x, rfl, hk, HX, HB, hb⟩ := hrel
    obtain ⟨c0, c1, c2, c3, c4, c5⟩ := (unhide HB).cells
    simp only [Nat.zero_add] at c1 c2 c3 c4 c5
    have hem := emp_iff x.abv
    have hVr := (unhide HV).below hb
    have CT := hide (rat_any _ l x.abv wr hVr)
    have HVR := hide hVr
    clear hVr CF CW HV B0 HU2
    by_cases e : x.abv = te
    · rw [decide_eq_true e] at hem
      have HE : Hid (true = R) := by show _ = _; rw [unhide HR, ← unhide HX, up_stop e]
      clear e HX
      go_wp2
      go_ret
      exact ⟨ret_bool (unhide HE), hb⟩
    rw [decide_eq_false e] at hem
    rcases ixT_fnd l x.abv with ⟨hf, hi⟩ | ⟨j, hj, hi, hf⟩
    · rw [hi] at CT
      have HE : Hid (false = R) := by show _ = _; rw [unhide HR, ← unhide HX, up_none e hf]
      clear e HX hf hi
      go_wp2_with (go_at_call 64; refine (unhide CT).mono ?_; rintro e w2 ⟨rfl, rfl⟩)
      refine wp_region_below (by first | exact mx | assumption) (by kernel_rfl) ?_
      intro nebb
      repeat (go_big_quiet_step (fail))
      refine wpQuiet_nil ?_
      intro _ hw'
      obtain ⟨pq, hw''⟩ := hw'
      subst hw''
      have bq := pq.b
      generalize pq.W = wq at *
      go_wp2
      go_ret
      exact ⟨ret_bool (unhide HE), hb.trans (bq.mono hb.size)⟩
    rw [hi] at CT
    clear hi
    obtain ⟨va', vc', hvv, hn9, hcc⟩ := unhide HVR
    cases hvv
    obtain ⟨b, off, rfl, hce⟩ := hcc (by omega)
    obtain ⟨d0, d1, d2, d3, d4, d5⟩ := hce j hj
    have hj0 : ¬ (j : Int) < 0 := by omega
    have hjd : decide ((j : Int) < 0) = false := decide_eq_false hj0
    have hj1 : (j : Int) < (l.length : Int) := by omega
    have hj2 : (0 : Int) ≤ (j : Int) := by omega
    have f0 := (unhide HB).free 0
    have f1 := (unhide HB).free 1
    have f2 := (unhide HB).free 2
    have f3 := (unhide HB).free 3
    have f4 := (unhide HB).free 4
    have f5 := (unhide HB).free 5
    clear hcc hce hn9
    generalize l.getD j ty0 = y at *
    by_cases hs : y.syn = x.syn
    · have hs' : (y.syn == x.syn) = true := by simpa using hs
      have hsn : (y.syn != x.syn) = false := by unfold bne; rw [hs']; rfl
      by_cases hk2 : l.length < k
      · have zk : (l.length : Int) < (k : Int) := by omega
        have zkd : decide ((l.length : Int) < (k : Int)) = true := decide_eq_true zk
        have zkd2 : decide ((k : Int) > (l.length : Int)) = true := decide_eq_true zk
        have HE : Hid (false = R) := by
          show _ = _
          rw [unhide HR, ← unhide HX, show l.length + 1 - k = 0 by omega]
          exact (decide_eq_false e).symm
        clear e HX hf hs
        go_wp2_with (go_at_call 64; refine (unhide CT).mono ?_; rintro e w2 ⟨rfl, rfl⟩)
        replace c2 := cell_bb c2
        replace d2 := cell_bb d2
        refine wp_region_below (by first | exact mx | assumption) (by kernel_rfl) ?_
        intro nebb
        repeat (go_big_quiet_step (fail))
        refine wpQuiet_nil ?_
        intro _ hw'
        obtain ⟨pq, hw''⟩ := hw'
        subst hw''
        have bq := pq.b
        generalize pq.W = wq at *
        go_wp2
        go_ret
        exact ⟨ret_bool (unhide HE), hb.trans (bq.mono hb.size)⟩
      · have zk : ¬ (l.length : Int) < (k : Int) := by omega
        have zkd : decide ((l.length : Int) < (k : Int)) = false := decide_eq_false zk
        have zkd2 : decide ((k : Int) > (l.length : Int)) = false := decide_eq_false zk
        have HX2 : Hid (upT l (l.length + 1 - (k + 1)) y = U) := by
          show _ = _
          rw [← unhide HX, show l.length + 1 - k = (l.length + 1 - (k + 1)) + 1 by omega, up_more e hf hs]
        clear e HX hf hs
        go_wp2_with (go_at_call 64; refine (unhide CT).mono ?_; rintro e w2 ⟨rfl, rfl⟩)
        have HDD := hide d2
        replace c2 := cell_bb c2
        replace d2 := cell_bb d2
        refine wp_region_below (by first | exact mx | assumption) (by kernel_rfl) ?_
        intro nebb
        repeat (go_big_quiet_step (fail))
        refine wpQuiet_nil ?_
        intro _ hw'
        obtain ⟨pq, hw''⟩ := hw'
        subst hw''
        have bq := pq.b
        generalize pq.W = wq at *
        have HB2 := hide ((unhide HB).keep bq)
        replace d0 := (bq.cell (cell_lt d0)).trans d0
        replace d1 := (bq.cell (cell_lt d1)).trans d1
        have d2' := (bq.cell (cell_lt (unhide HDD))).trans (unhide HDD)
        replace d3 := (bq.cell (cell_lt d3)).trans d3
        replace d4 := (bq.cell (cell_lt d4)).trans d4
        replace d5 := (bq.cell (cell_lt d5)).trans d5
        obtain ⟨b0', b1', b2', b3', b4', b5'⟩ := (unhide HB2).cells
        simp only [Nat.zero_add] at b1' b2' b3' b4' b5'
        replace f0 := (unhide HB2).free 0
        replace f1 := (unhide HB2).free 1
        replace f2 := (unhide HB2).free 2
        replace f3 := (unhide HB2).free 3
        replace f4 := (unhide HB2).free 4
        replace f5 := (unhide HB2).free 5
        have hbq := hb.trans (bq.mono hb.size)
        clear c0 c1 c2 c3 c4 c5 d2
        go_wp2
        go_roundw
        case rel => exact ⟨k + 1, y, by go_num, by omega, unhide HX2, Bt.put (unhide HB2) y, put_below hbq (Nat.le_refl _) y⟩
        case measure => simp [intOf]; omega
    · have hs' : (y.syn == x.syn) = false := by rw [beq_eq_false_iff_ne]; exact hs
      have hsn : (y.syn != x.syn) = true := by unfold bne; rw [hs']; rfl
      have HE : Hid (false = R) := by show _ = _; rw [unhide HR, ← unhide HX, up_syn e hf hs]
      clear e HX hf hs
      go_wp2_with (go_at_call 64; refine (unhide CT).mono ?_; rintro e w2 ⟨rfl, rfl⟩)
      replace c2 := cell_bb c2
      replace d2 := cell_bb d2
      refine wp_region_below (by first | exact mx | assumption) (by kernel_rfl) ?_
      intro nebb
      repeat (go_big_quiet_step (fail))
      refine wpQuiet_nil ?_
      intro _ hw'
      obtain ⟨pq, hw''⟩ := hw'
      subst hw''
      have bq := pq.b
      generalize pq.W = wq at *
      go_wp2
      go_ret
      exact ⟨ret_bool (unhide HE), hb.trans (bq.mono hb.size)⟩
end Go.Proofs.Ytjjildpdelkejaa
/- The document's Check of layer 20. -/
namespace Go.Proofs.Ytjjildpdelkejaa
open Go.RowKit

theorem chkT_long {l : List Ty} (h : 24 < l.length) : chkT l = 190 := by
  unfold chkT okT
  rw [decide_eq_false (by omega)]
  rfl
theorem chkT_no {l : List Ty} {k : Nat} (hk : k < l.length) (h : okAt20 l k = false) : chkT l = 190 := by
  unfold chkT okT
  rw [okTo20_bad hk h, Bool.and_false]
  rfl
theorem chkT_yes {l : List Ty} (h1 : ¬ 24 < l.length) (h : okTo20 l l.length = true) : chkT l = 0 := by
  unfold chkT okT
  rw [h, decide_eq_true (show l.length ≤ 24 by omega)]
  rfl
set_option maxHeartbeats 3200000 in
theorem rchk20_any (v : Value) (l : List Ty) (w : World) (hV : TysV w v l) : Calls Try.prog 27 #[v] w fun e w' => e = .returned (.int .i64 (chkT l)) ∧ Below w.heap.size w w' := by
  have mx : Try.prog.follows .mixedOrders = true := by kernel_rfl
  have HV := hide hV
  obtain ⟨va, vc, rfl⟩ := hV.shape
  clear hV
  by_cases h24 : 24 < l.length
  · have z : (24 : Int) < (l.length : Int) := by omega
    rw [chkT_long h24]
    go_enter Try.func27, Try.ntmps27
    go_wp2
    go_ret
    exact ⟨rfl, Below.refl _ _⟩
  have z : ¬ (24 : Int) < (l.length : Int) := by omega
  have HNO := hide (fun k hk h => chkT_no (l := l) (k := k) hk h)
  have HYE := hide (fun h => chkT_yes (l := l) h24 h)
  have H24 := hide h24
  clear h24
  generalize chkT l = R at *
  go_enter Try.func27, Try.ntmps27
  go_wp2
  go_loopw [3] (fun vi wr => ∃ k : Nat, k ≤ l.length ∧ vi = .int .i64 (k : Int) ∧ Hid (okTo20 l k = true) ∧ Below w.heap.size w wr) (fun i _ => l.length - (intOf i).toNat)
  case atStart => exact ⟨0, Nat.zero_le _, rfl, rfl, Below.refl _ _⟩
  case round =>
    obtain ⟨k, hk, rfl, HK, hb⟩ := hrel
    by_cases hlt : k < l.length
    · have hzl : (k : Int) < (l.length : Int) := by omega
      have hz0 : (0 : Int) ≤ (k : Int) := by omega
      have hVr := (unhide HV).below hb
      have C1 := hide (fun p : BB wr => rone_any _ l (l.getD k ty0) p.W (hVr.below p.b) (by have := unhide H24; omega))
      obtain ⟨va', vc', hvv, hn9, hcc⟩ := hVr
      cases hvv
      obtain ⟨b, off, rfl, hce⟩ := hcc (by omega)
      obtain ⟨d0, d1, d2, d3, d4, d5⟩ := hce k hlt
      have HOK : Hid (okAt20 l k = (oneT l (l.getD k ty0) && (decide (k = 0) || lsT (l.getD (k - 1) ty0).nam (l.getD k ty0).nam))) := rfl
      have HN := hide (unhide HNO k hlt)
      have HS : Hid (okAt20 l k = true → okTo20 l (k + 1) = true) := fun h => by rw [okTo20, unhide HK, h]; rfl
      have HPV : Hid (∀ j, j < l.length → wr.cell? ⟨b, off + j * 6, none⟩ = some (.string (l.getD j ty0).nam)) := fun j hj => (hce j hj).1
      clear hcc hce hn9 HNO HYE HK
      generalize okAt20 l k = ok at *
      generalize l.getD k ty0 = y at *
      generalize oneT l y = on at *
      replace d0 := cell_bb d0
      replace d1 := cell_bb d1
      replace d2 := cell_bb d2
      replace d3 := cell_bb d3
      replace d4 := cell_bb d4
      replace d5 := cell_bb d5
      cases on
      · have HE : Hid (190 = R) := (unhide HN (by rw [unhide HOK]; rfl)).symm
        clear HOK HN HS
        go_wp2
        refine wp_region_below (by first | exact mx | assumption) (by kernel_rfl) ?_
        intro nebb
        repeat (go_big_quiet_step ((go_at_call 51; exact callsBB (unhide C1 _))))
        refine wpQuiet_nil ?_
        intro _ hw'
        obtain ⟨pq, hw''⟩ := hw'
        subst hw''
        have bq := pq.b
        generalize pq.W = wq at *
        go_wp2
        go_ret
        exact ⟨ret_int (unhide HE), hb.trans (bq.mono hb.size)⟩
      by_cases k0 : k = 0
      · have zk : decide ((k : Int) > 0) = false := decide_eq_false (by omega)
        have zk2 : decide ((0 : Int) < (k : Int)) = false := decide_eq_false (by omega)
        have zk3 : decide (0 < k) = false := decide_eq_false (by omega)
        have HS2 := hide (unhide HS (by rw [unhide HOK, decide_eq_true k0]; rfl))
        clear HOK HN HS k0
        go_wp2
        refine wp_region_below (by first | exact mx | assumption) (by kernel_rfl) ?_
        intro nebb
        repeat (go_big_quiet_step ((go_at_call 51; exact callsBB (unhide C1 _))))
        refine wpQuiet_nil ?_
        intro _ hw'
        obtain ⟨pq, hw''⟩ := hw'
        subst hw''
        have bq := pq.b
        generalize pq.W = wq at *
        go_wp2
        go_roundw
        case rel => exact ⟨k + 1, by omega, by go_num, unhide HS2, hb.trans (bq.mono hb.size)⟩
        case measure => simp [intOf]; omega
      have zk : decide ((k : Int) > 0) = true := decide_eq_true (by omega)
      have zk2 : decide ((0 : Int) < (k : Int)) = true := decide_eq_true (by omega)
      have zk3 : decide (0 < k) = true := decide_eq_true (by omega)
      obtain ⟨j, hj⟩ : ∃ j, j = k - 1 := ⟨_, rfl⟩
      have p0 := cell_bb (unhide HPV j (by omega))
      rw [← hj, decide_eq_false k0, Bool.false_or] at HOK
      have wj : IntKind.i64.wrap ((k : Int) - 1) = (j : Int) := by rw [IntKind.wrap_i64]; omega
      have wj2 : (k : Int) - 1 = (j : Int) := by omega
      have hj0 : (0 : Int) ≤ (j : Int) := by omega
      have hj1 : (j : Int) < (l.length : Int) := by omega
      generalize l.getD j ty0 = x at *
      have hls : Op.bytesLess x.nam.toList y.nam.toList = lsT x.nam y.nam := rfl
      clear hj
      cases hq : lsT x.nam y.nam <;> rw [hq] at hls HOK
      · have HE : Hid (190 = R) := (unhide HN (by rw [unhide HOK]; rfl)).symm
        clear HOK HN HS k0 hq HPV
        go_wp2
        refine wp_region_below (by first | exact mx | assumption) (by kernel_rfl) ?_
        intro nebb
        repeat (go_big_quiet_step ((go_at_call 51; exact callsBB (unhide C1 _))))
        refine wpQuiet_nil ?_
        intro _ hw'
        obtain ⟨pq, hw''⟩ := hw'
        subst hw''
        have bq := pq.b
        generalize pq.W = wq at *
        go_wp2
        go_ret
        exact ⟨ret_int (unhide HE), hb.trans (bq.mono hb.size)⟩
      · have HS2 := hide (unhide HS (by rw [unhide HOK]; rfl))
        clear HOK HN HS k0 hq HPV
        go_wp2
        refine wp_region_below (by first | exact mx | assumption) (by kernel_rfl) ?_
        intro nebb
        repeat (go_big_quiet_step ((go_at_call 51; exact callsBB (unhide C1 _))))
        refine wpQuiet_nil ?_
        intro _ hw'
        obtain ⟨pq, hw''⟩ := hw'
        subst hw''
        have bq := pq.b
        generalize pq.W = wq at *
        go_wp2
        go_roundw
        case rel => exact ⟨k + 1, by omega, by go_num, unhide HS2, hb.trans (bq.mono hb.size)⟩
        case measure => simp [intOf]; omega
    · have hzl : ¬ (k : Int) < (l.length : Int) := by omega
      obtain rfl : k = l.length := by omega
      have HE : Hid (0 = R) := (unhide HYE (unhide HK)).symm
      clear HK HNO HYE
      go_wp2
      go_ret
      exact ⟨ret_int (unhide HE), hb⟩
end Go.Proofs.Ytjjildpdelkejaa
