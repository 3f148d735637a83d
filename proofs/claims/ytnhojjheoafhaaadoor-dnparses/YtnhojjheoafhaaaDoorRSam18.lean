/- The document's Same of layer 18. -/
import Derived.Test.YtnhojjheoafhaaaDoorEq18
namespace Go.Proofs.YtnhojjheoafhaaaDoor
set_option maxRecDepth 100000
open Go.RowKit

/-- Are two parts, two names the same? -/
def eqR : List Pr → List Pr → Bool
  | [], [] => true
  | [], _ :: _ => false
  | _ :: _, [] => false
  | a :: l, b :: m => eqP a b && eqR l m
def eqN : List (List Pr) → List (List Pr) → Bool
  | [], [] => true
  | [], _ :: _ => false
  | _ :: _, [] => false
  | a :: l, b :: m => eqR a b && eqN l m
theorem eqR_iff : ∀ a b : List Pr, eqR a b = true ↔ a = b
  | [], [] => by simp [eqR]
  | [], _ :: _ => by simp [eqR]
  | _ :: _, [] => by simp [eqR]
  | a :: l, b :: m => by simp [eqR, eqP_iff, eqR_iff l m]
theorem eqN_iff : ∀ a b : List (List Pr), eqN a b = true ↔ a = b
  | [], [] => by simp [eqN]
  | [], _ :: _ => by simp [eqN]
  | _ :: _, [] => by simp [eqN]
  | a :: l, b :: m => by simp [eqN, eqR_iff, eqN_iff l m]
theorem eqR_len {a b : List Pr} (h : a.length ≠ b.length) : eqR a b = false := by
  cases e : eqR a b
  · rfl
  · exact absurd (congrArg List.length ((eqR_iff a b).1 e)) h
theorem eqN_len {a b : List (List Pr)} (h : a.length ≠ b.length) : eqN a b = false := by
  cases e : eqN a b
  · rfl
  · exact absurd (congrArg List.length ((eqN_iff a b).1 e)) h
theorem eqR_no {a b : List Pr} {k : Nat} (h : eqP (a.getD k pr0) (b.getD k pr0) = false) : eqR a b = false := by
  cases e : eqR a b
  · rfl
  · rw [(eqR_iff a b).1 e, (eqP_iff _ _).2 rfl] at h; cases h
theorem eqN_no {a b : List (List Pr)} {k : Nat} (h : eqR (a.getD k []) (b.getD k []) = false) : eqN a b = false := by
  cases e : eqN a b
  · rfl
  · rw [(eqN_iff a b).1 e, (eqR_iff _ _).2 rfl] at h; cases h
theorem ext_getD {α : Type} (d : α) {a b : List α} (hl : a.length = b.length) (h : ∀ k, k < a.length → a.getD k d = b.getD k d) : a = b := by
  apply List.ext_getElem hl
  intro i h1 h2
  have := h i h1
  simpa [List.getD, h1, h2] using this
theorem eqR_yes {a b : List Pr} (hl : a.length = b.length) (h : ∀ k, k < a.length → eqP (a.getD k pr0) (b.getD k pr0) = true) : eqR a b = true :=
  (eqR_iff a b).2 (ext_getD pr0 hl fun k hk => (eqP_iff _ _).1 (h k hk))
theorem eqN_yes {a b : List (List Pr)} (hl : a.length = b.length) (h : ∀ k, k < a.length → eqR (a.getD k []) (b.getD k []) = true) : eqN a b = true :=
  (eqN_iff a b).2 (ext_getD [] hl fun k hk => (eqR_iff _ _).1 (h k hk))
theorem same_next {p : Nat → Bool} {k : Nat} (h : ∀ j, j < k → p j = true) (h1 : p k = true) : ∀ j, j < k + 1 → p j = true := fun j hj => by
  by_cases e : j = k
  · rw [e]; exact h1
  · exact h j (by omega)
set_option maxHeartbeats 6400000 in
theorem rsame_any (v1 v2 : Value) (a b : List (List Pr)) (w : World) (hA : NmV w v1 a) (hB : NmV w v2 b) :
    Calls Tryd.prog 8 #[v1, v2] w fun e w' => e = .returned (.bool (eqN a b)) ∧ Gr w w' := by
  have hgd := pair_guard
  obtain ⟨a1, cap1, rfl, _, hn1, hc1⟩ := hA
  obtain ⟨a2, cap2, rfl, _, hn2, hc2⟩ := hB
  have HC1 := hide hc1
  have HC2 := hide hc2
  clear hc1 hc2
  by_cases hl : a.length ≠ b.length
  · have zl : ((a.length : Int) == (b.length : Int)) = false := by rw [beq_eq_false_iff_ne]; omega
    have HE := hide (eqN_len hl)
    generalize eqN a b = x at *
    clear HC1 HC2 hl
    generalize a.length = n at *
    generalize b.length = m at *
    go_enter Tryd.func8, Tryd.ntmps8
    go_wp2
    go_ret
    exact ⟨ret_bool (unhide HE).symm, Gr.refl _⟩
  replace hl : a.length = b.length := by omega
  rw [← hl] at HC2 ⊢
  have HL := hide hl
  clear hl hn2
  go_enter Tryd.func8, Tryd.ntmps8
  go_wp2
  go_loopw [5] (fun i wr => ∃ k : Nat, k ≤ a.length ∧ i = .int .i64 k ∧ Hid (∀ j, j < k → eqR (a.getD j []) (b.getD j []) = true) ∧ Gr w wr) (fun i _ => a.length - (intOf i).toNat)
  case atStart => exact ⟨0, Nat.zero_le _, rfl, fun j hj => absurd hj (Nat.not_lt_zero _), Gr.refl _⟩
  case round =>
    obtain ⟨i, hi, rfl, HK, hg⟩ := hrel
    by_cases hlt : i < a.length
    · have hzl : (i : Int) < (a.length : Int) := by omega
      have hz0 : (0 : Int) ≤ (i : Int) := by omega
      obtain ⟨b1, o1, rfl, hcc1⟩ := unhide HC1 (by omega)
      obtain ⟨b2, o2, rfl, hcc2⟩ := unhide HC2 (by omega)
      obtain ⟨rv1, c1, x1, y1, rfl, m1, d1⟩ := hcc1 i hlt
      obtain ⟨rv2, c2, x2, y2, rfl, m2, d2⟩ := hcc2 i hlt
      have C1 := hide c1
      have C2 := hide c2
      replace c1 := hg.cell c1
      replace c2 := hg.cell c2
      clear hcc1 hcc2
      have HN : Hid (eqR (a.getD i []) (b.getD i []) = false → eqN a b = false) := fun h => eqN_no h
      have HY : Hid (eqR (a.getD i []) (b.getD i []) = true → ∀ j, j < i + 1 → eqR (a.getD j []) (b.getD j []) = true) := fun h => same_next (p := fun j => eqR (a.getD j []) (b.getD j [])) (unhide HK) h
      generalize a.getD i [] = r at *
      generalize b.getD i [] = s at *
      have HD1 := hide d1
      have HD2 := hide d2
      clear d1 d2
      have c1N : ∀ n, (wr.drewN n).cell? ⟨b1, o1 + i, none⟩ = some (.slice x1 r.length y1) := fun n => c1
      have c2N : ∀ n, (wr.drewN n).cell? ⟨b2, o2 + i, none⟩ = some (.slice x2 s.length y2) := fun n => c2
      by_cases l0 : r.length ≠ s.length
      · have z0 : ((r.length : Int) == (s.length : Int)) = false := by rw [beq_eq_false_iff_ne]; omega
        have HE := hide (unhide HN (eqR_len l0))
        clear l0
        go_wp2
        go_quiet (fail)
        go_wp2
        go_ret
        exact ⟨ret_bool (unhide HE).symm, hg.drewN _⟩
      replace l0 : r.length = s.length := by omega
      rw [← l0] at c2 c2N HD2 m2 C2
      have HLR := hide l0
      clear l0
      go_wp2
      go_quiet (fail)
      go_wp2
      clear c1 c2 c1N c2N
      go_loopw [6] (fun i wr2 => ∃ k : Nat, k ≤ r.length ∧ i = .int .i64 k ∧ Hid (∀ j, j < k → eqP (r.getD j pr0) (s.getD j pr0) = true) ∧ Gr w wr2) (fun i _ => r.length - (intOf i).toNat)
      case atStart => exact ⟨0, Nat.zero_le _, rfl, fun j hj => absurd hj (Nat.not_lt_zero _), hg.drewN _⟩
      case round =>
        obtain ⟨k, hk, rfl, HP, hg2⟩ := hrel
        have c1 := hg2.cell (unhide C1)
        have c2 := hg2.cell (unhide C2)
        by_cases hlt2 : k < r.length
        · have yzl : (k : Int) < (r.length : Int) := by omega
          have yz0 : (0 : Int) ≤ (k : Int) := by omega
          obtain ⟨b3, o3, rfl, hp1⟩ := unhide HD1 (by omega)
          obtain ⟨b4, o4, rfl, hp2⟩ := unhide HD2 (by omega)
          obtain ⟨p1, p2⟩ := hp1 k hlt2
          obtain ⟨q1, q2⟩ := hp2 k hlt2
          replace p1 := hg2.cell p1
          replace p2 := hg2.cell p2
          replace q1 := hg2.cell q1
          replace q2 := hg2.cell q2
          clear hp1 hp2
          have HPN : Hid (eqP (r.getD k pr0) (s.getD k pr0) = false → eqN a b = false) := fun h => unhide HN (eqR_no h)
          have HPY : Hid (eqP (r.getD k pr0) (s.getD k pr0) = true → ∀ j, j < k + 1 → eqP (r.getD j pr0) (s.getD j pr0) = true) := fun h => same_next (p := fun j => eqP (r.getD j pr0) (s.getD j pr0)) (unhide HP) h
          have HQ : Hid (eqP (r.getD k pr0) (s.getD k pr0) = (eqT (r.getD k pr0).nam (s.getD k pr0).nam && eqT (r.getD k pr0).val (s.getD k pr0).val)) := rfl
          generalize r.getD k pr0 = x at *
          generalize s.getD k pr0 = y at *
          have hnq := fun w => neq_pair x.nam x.val y.nam y.val w
          have p1N : ∀ n, (wr.drewN n).cell? ⟨b3, o3 + k * 2, none⟩ = some (.string x.nam) := fun n => p1
          have p2N : ∀ n, (wr.drewN n).cell? ⟨b3, o3 + k * 2 + 1, none⟩ = some (.string x.val) := fun n => p2
          have q1N : ∀ n, (wr.drewN n).cell? ⟨b4, o4 + k * 2, none⟩ = some (.string y.nam) := fun n => q1
          have q2N : ∀ n, (wr.drewN n).cell? ⟨b4, o4 + k * 2 + 1, none⟩ = some (.string y.val) := fun n => q2
          cases he : eqP x y
          · have HE := hide (unhide HPN he)
            rw [← unhide HQ, he] at hnq
            clear he HQ HPN HPY
            go_wp2
            go_quiet (fail)
            go_wp2
            go_ret
            exact ⟨ret_bool (unhide HE).symm, hg2.drewN _⟩
          · have HE := hide (unhide HPY he)
            rw [← unhide HQ, he] at hnq
            clear he HQ HPN HPY
            go_wp2
            go_quiet (fail)
            go_wp2
            go_roundw
            case rel => exact ⟨k + 1, by omega, by go_num, unhide HE, hg2.drewN _⟩
            case measure => simp [intOf]; omega
        · have yzl : ¬ (k : Int) < (r.length : Int) := by omega
          obtain rfl : k = r.length := by omega
          have HE := hide (unhide HY (eqR_yes (unhide HLR) (unhide HP)))
          go_wp2
          go_roundw
          case rel => exact ⟨i + 1, by omega, by go_num, unhide HE, hg2⟩
          case measure => simp [intOf]; omega
    · have hzl : ¬ (i : Int) < (a.length : Int) := by omega
      obtain rfl : i = a.length := by omega
      have HE := hide (eqN_yes (unhide HL) (unhide HK))
      go_wp2
      go_ret
      exact ⟨ret_bool (unhide HE).symm, hg⟩
end Go.Proofs.YtnhojjheoafhaaaDoor
