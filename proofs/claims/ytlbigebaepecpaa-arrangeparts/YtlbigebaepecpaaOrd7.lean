/- The document's Ordered and Order. -/
import Derived.Test.YtlbigebaepecpaaRun6
namespace Go.Proofs.Ytlbigebaepecpaa
open Go.RowKit

def Kls : List Int := [0, 8, 202, 220, 230]
theorem Kls_rise : Kls.Pairwise (· < ·) := by decide
theorem Kls_zero : ∃ K', Kls = 0 :: K' := ⟨[8, 202, 220, 230], rfl⟩
theorem cls_in (x : Int) : cls x ∈ Kls := by
  unfold cls cl Kls
  split
  · split
    · simp
    · split
      · simp
      · split <;> simp
  · simp
theorem cls_nn (x : Int) : 0 ≤ cls x := by
  have := cls_in x
  unfold Kls at this
  simp at this
  omega
theorem ordered_two (c : Int → Int) : ∀ (a : List Int) (y x : Int), ordered c (a ++ [y, x]) = (ordered c (a ++ [y]) && nxt c y x)
  | [], y, x => by simp [ordered]
  | [z], y, x => by simp [ordered]
  | z :: z2 :: a, y, x => by
    have := ordered_two c (z2 :: a) y x
    simp only [List.cons_append, ordered] at this ⊢
    rw [this, Bool.and_assoc]
theorem ordered_take (c : Int → Int) (l : List Int) (k : Nat) (h0 : 0 < k) (h : k < l.length) : ordered c (l.take (k + 1)) = (ordered c (l.take k) && nxt c (l.getD (k - 1) 0) (l.getD k 0)) := by
  obtain ⟨j, rfl⟩ : ∃ j, k = j + 1 := ⟨k - 1, by omega⟩
  rw [take_snoc l (j + 1) h, take_snoc l j (by omega), Nat.add_sub_cancel, List.append_assoc]
  exact ordered_two c (l.take j) _ _
theorem ordered_bad (c : Int → Int) (l : List Int) (k : Nat) (h : ordered c (l.take k) = false) : ordered c l = false := by
  cases ho : ordered c l
  · rfl
  · have := ordered_left (l.take k) (l.drop k) (by rw [List.take_append_drop]; exact ho)
    rw [h] at this; cases this

set_option maxHeartbeats 800000 in
theorem rordered_empty (a : Option Addr) (cap : Nat) (w : World) :
    Calls Try.prog 12 #[.slice a 0 cap] w fun e w' => e = .returned (.bool true) ∧ Below w.heap.size w w' := by
  go_enter Try.func12, Try.ntmps12
  go_wp2
  refine wp_loop_rounds 1 ?_
  rw [rounds_succ]
  go_wp2
  go_ret
  exact ⟨rfl, Below.refl _ _⟩

set_option maxHeartbeats 3200000 in
theorem rordered_some (b off cap : Nat) (l : List Int) (w : World) (hlen : l.length ≤ 20000) (h0 : 0 < l.length)
    (hcell : ∀ i, i < l.length → w.cell? ⟨b, off + i, none⟩ = some (.int .i32 (l.getD i 0))) :
    Calls Try.prog 12 #[.slice (some ⟨b, off, none⟩) l.length cap] w fun e w' => e = .returned (.bool (ordered cls l)) ∧ Below w.heap.size w w' := by
  have HC := hide hcell
  have HCL := hide rclass_any
  clear hcell
  go_enter Try.func12, Try.ntmps12
  go_wp2
  go_loopw [3] (fun i wr => ∃ k : Nat, 1 ≤ k ∧ k ≤ l.length ∧ i = .int .i64 (k : Int) ∧ Hid (ordered cls (l.take k) = true) ∧ Below w.heap.size w wr) (fun i _ => l.length - (intOf i).toNat)
  case atStart => exact ⟨1, Nat.le_refl _, h0, rfl, by
    show _ = _
    obtain ⟨y, t, rfl⟩ := List.exists_cons_of_ne_nil (List.length_pos_iff.1 h0)
    rfl, Below.refl _ _⟩
  case round =>
    obtain ⟨k, hk1, hk, rfl, HO, hb⟩ := hrel
    have hsz := hb.size
    by_cases hlt : k < l.length
    · have hzl : (k : Int) < (l.length : Int) := by omega
      have hz0 : (0 : Int) ≤ (k : Int) := by omega
      have e1 : IntKind.i64.wrap ((k : Int) - 1) = ((k - 1 : Nat) : Int) := by rw [IntKind.wrap_i64]; omega
      have g1 := unhide HC k hlt
      have g2 := unhide HC (k - 1) (by omega)
      have HS := hide (ordered_take cls l k hk1 hlt)
      have HBD := hide (ordered_bad cls l (k + 1))
      have HX := hide (unhide HCL (l.getD k 0))
      have HY := hide (unhide HCL (l.getD (k - 1) 0))
      obtain ⟨m, hm⟩ : ∃ m, m = k - 1 := ⟨_, rfl⟩
      rw [← hm] at e1 g2 HS HY
      have hml : (m : Int) < (l.length : Int) := by omega
      have hm0 : (0 : Int) ≤ (m : Int) := by omega
      clear hm
      generalize l.getD k 0 = x at *
      generalize l.getD m 0 = y at *
      obtain ⟨p, hp⟩ : ∃ p, cls x = p := ⟨_, rfl⟩
      obtain ⟨q, hq⟩ : ∃ q, cls y = q := ⟨_, rfl⟩
      rw [hp] at HX
      rw [hq] at HY
      have HN : Hid (nxt cls y x = decide (p = 0 ∨ q ≤ p)) := by show _ = _; unfold nxt; rw [hp, hq]
      clear hp hq
      have k1 : wr.cell? ⟨b, off + k, none⟩ = some (.int .i32 x) := (hb.cell (by exact cell_lt g1)).trans g1
      have G2 := hide g2
      clear g1 g2
      by_cases hp0 : p = 0
      · subst hp0
        have HO2 : Hid (ordered cls (l.take (k + 1)) = true) := by show _ = _; rw [unhide HS, unhide HO, unhide HN]; simp
        go_wp2_with (go_at_call 21; refine (unhide HX _).mono ?_; rintro e w2 ⟨rfl, b2⟩)
        go_roundw
        case rel => exact ⟨k + 1, by omega, by omega, by go_num, HO2, hb.trans (b2.mono hsz)⟩
        case measure => simp [intOf]; omega
      · have hpz : (p == 0) = false := by simpa using hp0
        by_cases hpq : p < q
        · have HO2 : Hid (ordered cls l = false) := by
            refine unhide HBD ?_
            rw [unhide HS, unhide HO, unhide HN]
            simp; omega
          go_wp2_with (first
            | (go_at_call 21; (first
              | (refine (unhide HX _).mono ?_; rintro e w2 ⟨rfl, b2⟩; clear HX; have hb2 := hb.trans (b2.mono hsz); have k2 : w2.cell? ⟨b, off + m, none⟩ = some (.int .i32 y) := (hb2.cell (by exact cell_lt (unhide G2))).trans (unhide G2))
              | (refine (unhide HY _).mono ?_; rintro e w3 ⟨rfl, b3⟩; have hb3 := hb2.trans (b3.mono hb2.size)))))
          go_ret
          exact ⟨ret_bool (unhide HO2).symm, hb3⟩
        · have HO2 : Hid (ordered cls (l.take (k + 1)) = true) := by show _ = _; rw [unhide HS, unhide HO, unhide HN]; simp; omega
          go_wp2_with (first
            | (go_at_call 21; (first
              | (refine (unhide HX _).mono ?_; rintro e w2 ⟨rfl, b2⟩; clear HX; have hb2 := hb.trans (b2.mono hsz); have k2 : w2.cell? ⟨b, off + m, none⟩ = some (.int .i32 y) := (hb2.cell (by exact cell_lt (unhide G2))).trans (unhide G2))
              | (refine (unhide HY _).mono ?_; rintro e w3 ⟨rfl, b3⟩; have hb3 := hb2.trans (b3.mono hb2.size)))))
          go_roundw
          case rel => exact ⟨k + 1, by omega, by omega, by go_num, HO2, hb3⟩
          case measure => simp [intOf]; omega
    · have hzl : ¬ (k : Int) < (l.length : Int) := by omega
      obtain rfl : k = l.length := by omega
      have HE : Hid (ordered cls l = true) := by
        have := unhide HO
        rw [List.take_length] at this
        exact this
      go_wp2
      go_ret
      exact ⟨ret_bool (unhide HE).symm, hb⟩

/-- The document's Ordered, of any row. -/
theorem rordered_any (v : Value) (l : List Int) (w : World) (hlen : l.length ≤ 20000) (h : Row w v l) :
    Calls Try.prog 12 #[v] w fun e w' => e = .returned (.bool (ordered cls l)) ∧ Below w.heap.size w w' := by
  obtain ⟨a, c, rfl, h1⟩ := h
  by_cases h0 : l.length = 0
  · obtain rfl : l = [] := List.eq_nil_of_length_eq_zero h0
    exact rordered_empty a c w
  · obtain ⟨b1, o1, rfl, k1⟩ := h1 (by omega)
    exact rordered_some b1 o1 c l w hlen (by omega) k1
end Go.Proofs.Ytlbigebaepecpaa
