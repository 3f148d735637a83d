/- The landed find of layer 20. -/
import Derived.Test.YtoaoplfbnjajiaaMw20
namespace Go.Proofs.Ytoaoplfbnjajiaa
open Go.RowKit

def fnA (l : List Ty) (n : ByteArray) : Ty := (fndT l n).getD ty0
def fnB (l : List Ty) (n : ByteArray) : Bool := (fndT l n).isSome
theorem fndT_at {l : List Ty} {n : ByteArray} {k : Nat} (hk : k < l.length) (hb : ∀ j, j < k → (l.getD j ty0).nam ≠ n) (h : (l.getD k ty0).nam = n) : fndT l n = some (l.getD k ty0) := by
  induction l generalizing k with
  | nil => simp at hk
  | cons x t ih =>
    unfold fndT at ih ⊢
    cases k with
    | zero => rw [List.find?_cons_of_pos (by simpa using h)]; rfl
    | succ k =>
      have h0 : x.nam ≠ n := by simpa using hb 0 (by omega)
      rw [List.find?_cons_of_neg (by simpa using h0)]
      exact ih (by simpa using hk) (fun j hj => by simpa using hb (j + 1) (by omega)) (by simpa using h)
theorem fndT_not {l : List Ty} {n : ByteArray} (hb : ∀ j, j < l.length → (l.getD j ty0).nam ≠ n) : fndT l n = none := by
  unfold fndT
  rw [List.find?_eq_none]
  intro x hx
  obtain ⟨i, hi, rfl⟩ := List.getElem_of_mem hx
  have := hb i hi
  simpa [List.getD, hi] using this
set_option maxHeartbeats 3200000 in
theorem find_any (v : Value) (l : List Ty) (n : ByteArray) (w : World) (hV : TysV w v l) : Calls Try.prog 25 #[v, .string n] w fun e w' => e = .returned (.tuple #[aggV (fnA l n), .bool (fnB l n)]) ∧ Below w.heap.size w w' := by
  obtain ⟨a, cap, rfl, hn, hc⟩ := hV
  have HC := hide hc
  have hn2 : (l.length : Int) ≤ 9223372036854775807 := by omega
  clear hc
  go_enter Try.func25, Try.ntmps25
  go_wp2
  go_loopw [10] (fun i wr => ∃ k : Nat, k ≤ l.length ∧ i = .int .i64 (k : Int) ∧ Hid (∀ j, j < k → (l.getD j ty0).nam ≠ n) ∧ Hid (Bt w.heap.size ty0 wr) ∧ Below w.heap.size w wr) (fun i _ => l.length - (intOf i).toNat)
  case atStart => exact ⟨0, Nat.zero_le _, rfl, fun j hj => absurd hj (Nat.not_lt_zero _), heap_new w _, Below.one w _⟩
  case round =>
    obtain ⟨k, hk, rfl, HK, HB, hb⟩ := hrel
    have hsz := hb.size
    by_cases hlt : k < l.length
    · have hzl : (k : Int) < (l.length : Int) := by omega
      have hz0 : (0 : Int) ≤ (k : Int) := by omega
      obtain ⟨b, off, rfl, hcc⟩ := unhide HC (by omega)
      obtain ⟨q0, q1, q2, q3, q4, q5⟩ := (hcc k hlt)
      replace q0 := (hb.cell (cell_lt q0)).trans q0
      replace q1 := (hb.cell (cell_lt q1)).trans q1
      replace q2 := (hb.cell (cell_lt q2)).trans q2
      replace q3 := (hb.cell (cell_lt q3)).trans q3
      replace q4 := (hb.cell (cell_lt q4)).trans q4
      replace q5 := (hb.cell (cell_lt q5)).trans q5
      have HY : Hid ((l.getD k ty0).nam = n → fndT l n = some (l.getD k ty0)) := fun h => fndT_at hlt (unhide HK) h
      have HN : Hid (¬ (l.getD k ty0).nam = n → ∀ j, j < k + 1 → (l.getD j ty0).nam ≠ n) := fun h j hj => by
        by_cases e : j = k
        · rw [e]; exact h
        · exact unhide HK j (by omega)
      clear hcc HC HK
      generalize l.getD k ty0 = t at *
      have hq := txt_beq t.nam n
      have b1 : Below wr.heap.size wr (wr.alloc (.cells #[.string t.nam, .string t.abv, .int .i64 t.syn, .int .i64 t.rul, .bool t.sgl, .bool t.cls] 26)) := Below.one wr _
      have HB1 := hide ((unhide HB).keep b1)
      have hb1 := hb.trans (b1.mono hsz)
      by_cases h : t.nam = n
      · rw [decide_eq_true h] at hq
        have HE := hide (unhide HY h)
        obtain ⟨c0, c1, c2, c3, c4, c5⟩ := (unhide HB1).cells
        simp only [Nat.zero_add] at c1 c2 c3 c4 c5
        have f0 := (unhide HB1).free 0
        have f1 := (unhide HB1).free 1
        have f2 := (unhide HB1).free 2
        have f3 := (unhide HB1).free 3
        have f4 := (unhide HB1).free 4
        have f5 := (unhide HB1).free 5
        clear h HY HN HB b1
        go_wp2
        refine bodyPost_ret (res_cell2 rfl _ _ w.heap.size t rfl ((unhide HB1).put t)) rfl ?_
        exact ⟨ret_av (by unfold fnA; rw [unhide HE]; rfl) (by unfold fnB; rw [unhide HE]; rfl), put_below hb1 (Nat.le_refl _) t⟩
      · rw [decide_eq_false h] at hq
        have HK2 := hide (unhide HN h)
        clear h HY HN HB b1
        go_wp2
        go_roundw
        case rel => exact ⟨k + 1, by omega, by go_num, unhide HK2, unhide HB1, hb1⟩
        case measure => simp [intOf]; omega
    · have hzl : ¬ (k : Int) < (l.length : Int) := by omega
      obtain rfl : k = l.length := by omega
      have HE := hide (fndT_not (unhide HK))
      obtain ⟨c0, c1, c2, c3, c4, c5⟩ := (unhide HB).cells
      simp only [Nat.zero_add] at c1 c2 c3 c4 c5
      have f0 := (unhide HB).free 0
      have f1 := (unhide HB).free 1
      have f2 := (unhide HB).free 2
      have f3 := (unhide HB).free 3
      have f4 := (unhide HB).free 4
      have f5 := (unhide HB).free 5
      clear HK HC
      go_wp2
      refine bodyPost_ret (res_cell2 rfl _ _ w.heap.size ty0 rfl ((unhide HB).put ty0)) rfl ?_
      exact ⟨ret_av (by unfold fnA; rw [unhide HE]; rfl) (by unfold fnB; rw [unhide HE]; rfl), put_below hb (Nat.le_refl _) ty0⟩
end Go.Proofs.Ytoaoplfbnjajiaa
