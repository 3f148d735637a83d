/- Pieces: the document's Same and Check of layer 13; texts. -/
import Derived.Test.YthbldkkjjjmegaaDoorProg
import Derived.Test.YthbldkkjjjmegaaDoorM03
import Derived.Lib.Strings
namespace Go.Proofs.YthbldkkjjjmegaaDoor
set_option maxRecDepth 100000
open Go.RowKit

theorem txt24 (a b : ByteArray) : (a.toList == b.toList) = decide (a = b) := by
  rw [Lib.toList_data, Lib.toList_data]
  obtain ⟨⟨x⟩⟩ := a
  obtain ⟨⟨y⟩⟩ := b
  by_cases h : x = y
  · subst h; simp
  · have : ¬ (ByteArray.mk ⟨x⟩ = ByteArray.mk ⟨y⟩) := fun e => h (by injection e with e; injection e)
    rw [decide_eq_false this, beq_eq_false_iff_ne]
    exact h
theorem txt_yes (a : ByteArray) : (a.toList == a.toList) = true := by rw [txt24]; simp
theorem txt_no {a b : ByteArray} (h : ¬ a = b) : (a.toList == b.toList) = false := by rw [txt24]; exact decide_eq_false h
theorem beq_no {a b : Bool} (h : ¬ a = b) : (a == b) = false := by simpa using h
theorem take_next (l : List ByteArray) (j : Nat) (h : j < l.length) : l.take (j + 1) = l.take j ++ [l.getD j ⟨#[]⟩] := by
  rw [List.take_add_one]
  simp [List.getD, h]
theorem TxC.at {w : World} {ad : Option Addr} {l : List ByteArray} (h : TxC w ad l) {j : Nat} (hj : j < l.length) : ∃ g off, ad = some ⟨g, off, none⟩ ∧ w.cell? ⟨g, off + j, none⟩ = some (.string (l.getD j ⟨#[]⟩)) := by
  obtain ⟨g, off, ha, hl⟩ := h.2.resolve_left (by omega)
  exact ⟨g, off, ha, hl j hj⟩
theorem box5c (w : World) (a0 a1 a2 a3 a4 : Value) (T : TypeId) : (w.alloc (.cells #[a0, a1, a2, a3, a4] T)).cell? ⟨w.heap.size, 1, none⟩ = some a1 := by
  rw [World.cell?_alloc_mark]; rfl
/-- Are pieces the same? -/
def smP (i : ByteArray) (a : List ByteArray) (f : ByteArray) (hi hf : Bool) (i' : ByteArray) (a' : List ByteArray) (f' : ByteArray) (hi' hf' : Bool) : Bool := decide (i = i' ∧ a = a' ∧ f = f' ∧ hi = hi' ∧ hf = hf')
set_option maxHeartbeats 3200000 in
theorem rsame13_any (i f i' f' : ByteArray) (hi hf hi' hf' : Bool) (a a' : List ByteArray) (a1 a2 : Option Addr) (c1 c2 : Nat) (w : World) (h1 : TxC w a1 a) (h2 : TxC w a2 a') : Calls Tryd.prog 18 #[.agg #[.string i, .slice a1 a.length c1, .string f, .bool hi, .bool hf], .agg #[.string i', .slice a2 a'.length c2, .string f', .bool hi', .bool hf']] w fun r w' => r = .returned (.bool (smP i a f hi hf i' a' f' hi' hf')) ∧ Gr w w' := by
  have g0 : Gr w ((w.alloc (.cells #[.string i, .slice a1 a.length c1, .string f, .bool hi, .bool hf] 24)).alloc (.cells #[.string i', .slice a2 a'.length c2, .string f', .bool hi', .bool hf'] 24)) := (Gr.one w _).alloc _
  by_cases e1 : i = i'
  · subst e1
    have q1 := txt_yes i
    by_cases e2 : f = f'
    · subst e2
      have q2 := txt_yes f
      by_cases e3 : hi = hi'
      · subst e3
        have q3 : (hi == hi) = true := by simp
        by_cases e4 : hf = hf'
        · subst e4
          have q4 : (hf == hf) = true := by simp
          by_cases e5 : a.length = a'.length
          · have q5 : ((a.length : Int) == (a'.length : Int)) = true := by rw [e5]; simp
            have HA := hide h1
            have hm := h1.1
            have HE : Hid (∀ b, (a = a' ↔ b = true) → smP i a f hi hf i a' f hi hf = b) := by
              intro b hb
              unfold smP
              by_cases h : a = a'
              · rw [decide_eq_true (by simp [h])]; exact (hb.1 h).symm
              · rw [decide_eq_false (by simp [h])]
                cases b
                · rfl
                · exact absurd (hb.2 rfl) h
            rw [← e5] at g0 ⊢
            have HB := hide h2
            have HG := hide g0
            have HL5 := hide e5
            have B1 : ((w.alloc (.cells #[.string i, .slice a1 a.length c1, .string f, .bool hi, .bool hf] 24)).alloc (.cells #[.string i, .slice a2 a.length c2, .string f, .bool hi, .bool hf] 24)).cell? ⟨w.heap.size, 1, none⟩ = some (.slice a1 a.length c1) := (Gr.one _ _).cell (box5c w _ _ _ _ _ _)
            have B2 : ((w.alloc (.cells #[.string i, .slice a1 a.length c1, .string f, .bool hi, .bool hf] 24)).alloc (.cells #[.string i, .slice a2 a.length c2, .string f, .bool hi, .bool hf] 24)).cell? ⟨w.heap.size + 1, 1, none⟩ = some (.slice a2 a.length c2) := by simp
            have HB1 := hide B1
            have HB2 := hide B2
            clear h1 h2 g0 e5 q5 B1 B2
            have q5 : ((a.length : Int) == (a.length : Int)) = true := by simp
            go_enter Tryd.func18, Tryd.ntmps18
            go_wp2
            go_loopw [5] (fun vj wr => ∃ j : Nat, j ≤ a.length ∧ vj = .int .i64 (j : Int) ∧ Hid (a.take j = a'.take j) ∧ Gr ((w.alloc (.cells #[.string i, .slice a1 a.length c1, .string f, .bool hi, .bool hf] 24)).alloc (.cells #[.string i, .slice a2 a.length c2, .string f, .bool hi, .bool hf] 24)) wr) (fun vj _ => a.length - (intOf vj).toNat)
            case atStart => exact ⟨0, Nat.zero_le _, rfl, rfl, Gr.refl _⟩
            case round =>
              obtain ⟨j, hj, rfl, HT, hnx⟩ := hrel
              have b1 := hnx.cell (unhide HB1)
              have b2 := hnx.cell (unhide HB2)
              by_cases hlt : j < a.length
              · have z1 : (j : Int) < (a.length : Int) := by omega
                have z0 : (0 : Int) ≤ (j : Int) := by omega
                obtain ⟨g, off, rfl, k1⟩ := (unhide HA).at hlt
                obtain ⟨g', off', rfl, k2⟩ := (unhide HB).at (j := j) (by rw [← unhide HL5]; exact hlt)
                have gw := (unhide HG).trans hnx
                replace k1 := gw.cell k1
                replace k2 := gw.cell k2
                have k1N : ∀ n, (wr.drewN n).cell? ⟨g, off + j, none⟩ = some (.string (a.getD j ⟨#[]⟩)) := fun n => k1
                have k2N : ∀ n, (wr.drewN n).cell? ⟨g', off' + j, none⟩ = some (.string (a'.getD j ⟨#[]⟩)) := fun n => k2
                have b1N : ∀ n, (wr.drewN n).cell? ⟨w.heap.size, 1, none⟩ = some (.slice (some ⟨g, off, none⟩) a.length c1) := fun n => b1
                have b2N : ∀ n, (wr.drewN n).cell? ⟨w.heap.size + 1, 1, none⟩ = some (.slice (some ⟨g', off', none⟩) a.length c2) := fun n => b2
                by_cases ht : a.getD j ⟨#[]⟩ = a'.getD j ⟨#[]⟩
                · have HN : Hid (a.take (j + 1) = a'.take (j + 1)) := by
                    show _ = _
                    rw [take_next a j hlt, take_next a' j (by rw [← unhide HL5]; exact hlt), unhide HT, ht]
                  rw [ht] at k1 k1N
                  have q6 := txt_yes (a'.getD j ⟨#[]⟩)
                  generalize a'.getD j ⟨#[]⟩ = t at *
                  clear HT ht HE HB1 HB2 HA HB
                  go_wp2
                  go_quiet (fail)
                  go_wp2
                  go_roundw
                  case rel => exact ⟨j + 1, by omega, by go_num, unhide HN, hnx.drewN _⟩
                  case measure => simp [intOf]; omega
                · have HN : Hid (false = smP i a f hi hf i a' f hi hf) := (unhide HE false ⟨fun h => absurd (by rw [h]) ht, fun h => absurd h (by simp)⟩).symm
                  have q6 := txt_no ht
                  generalize a.getD j ⟨#[]⟩ = t at *
                  generalize a'.getD j ⟨#[]⟩ = t' at *
                  clear HT HE ht HB1 HB2 HA HB
                  go_wp2
                  go_quiet (fail)
                  go_wp2
                  go_ret
                  exact ⟨ret_bool (unhide HN), gw.drewN _⟩
              · have z1 : ¬ (j : Int) < (a.length : Int) := by omega
                have HN : Hid (true = smP i a f hi hf i a' f hi hf) := by
                  refine (unhide HE true ⟨fun _ => rfl, fun _ => ?_⟩).symm
                  have := unhide HT
                  rwa [List.take_of_length_le (by omega), List.take_of_length_le (by rw [← unhide HL5]; omega)] at this
                clear HT HE
                go_wp2
                go_ret
                exact ⟨ret_bool (unhide HN), (unhide HG).trans hnx⟩
          · have q5 : ((a.length : Int) == (a'.length : Int)) = false := by rw [beq_eq_false_iff_ne]; omega
            have HE : Hid (false = smP i a f hi hf i a' f hi hf) := (decide_eq_false fun h => e5 (by rw [h.2.1])).symm
            clear h1 h2
            go_enter Tryd.func18, Tryd.ntmps18
            go_wp2
            go_ret
            exact ⟨ret_bool (unhide HE), g0⟩
        · have q4 := beq_no e4
          have HE : Hid (false = smP i a f hi hf i a' f hi hf') := (decide_eq_false fun h => e4 h.2.2.2.2).symm
          clear h1 h2
          go_enter Tryd.func18, Tryd.ntmps18
          go_wp2
          go_ret
          exact ⟨ret_bool (unhide HE), g0⟩
      · have q3 := beq_no e3
        have HE : Hid (false = smP i a f hi hf i a' f hi' hf') := (decide_eq_false fun h => e3 h.2.2.2.1).symm
        clear h1 h2
        go_enter Tryd.func18, Tryd.ntmps18
        go_wp2
        go_ret
        exact ⟨ret_bool (unhide HE), g0⟩
    · have q2 := txt_no e2
      have HE : Hid (false = smP i a f hi hf i a' f' hi' hf') := (decide_eq_false fun h => e2 h.2.2.1).symm
      clear h1 h2
      go_enter Tryd.func18, Tryd.ntmps18
      go_wp2
      go_ret
      exact ⟨ret_bool (unhide HE), g0⟩
  · have q1 := txt_no e1
    have HE : Hid (false = smP i a f hi hf i' a' f' hi' hf') := (decide_eq_false fun h => e1 h.1).symm
    clear h1 h2
    go_enter Tryd.func18, Tryd.ntmps18
    go_wp2
    go_ret
    exact ⟨ret_bool (unhide HE), g0⟩
end Go.Proofs.YthbldkkjjjmegaaDoor
/- Pieces: the document's Check of layer 13, and fine of layer 24. (By gen_pf.py.) -/
namespace Go.Proofs.YthbldkkjjjmegaaDoor
set_option maxRecDepth 100000
open Go.RowKit

/-- May pieces be? -/
def okPc (i : ByteArray) (a : List ByteArray) (f : ByteArray) (hi hf : Bool) : Bool := decide (a.length ≤ 6 ∧ (hi = true ∨ hf = true ∨ a.length ≠ 0) ∧ (hi = true ↔ 0 < i.size) ∧ (hf = true ↔ 0 < f.size)) && a.all fun t => decide (t.size ≠ 0)
theorem okPc_head {i : ByteArray} {a : List ByteArray} {f : ByteArray} {hi hf : Bool} (h : ¬ (a.length ≤ 6 ∧ (hi = true ∨ hf = true ∨ a.length ≠ 0) ∧ (hi = true ↔ 0 < i.size) ∧ (hf = true ↔ 0 < f.size))) : okPc i a f hi hf = false := by
  unfold okPc; rw [decide_eq_false h]; rfl
theorem okPc_tail {i : ByteArray} {a : List ByteArray} {f : ByteArray} {hi hf : Bool} (h : a.length ≤ 6 ∧ (hi = true ∨ hf = true ∨ a.length ≠ 0) ∧ (hi = true ↔ 0 < i.size) ∧ (hf = true ↔ 0 < f.size)) : okPc i a f hi hf = a.all fun t => decide (t.size ≠ 0) := by
  unfold okPc; rw [decide_eq_true h]; rfl
theorem all_dropP (p : ByteArray → Bool) (l : List ByteArray) (j : Nat) (h : j < l.length) : (l.drop j).all p = (p (l.getD j ⟨#[]⟩) && (l.drop (j + 1)).all p) := by
  rw [List.drop_eq_getElem_cons h, List.all_cons]
  simp [List.getD, h]
theorem box5p {w w2 : World} {a0 a1 a2 a3 a4 : Value} {T : TypeId} (h : Gr (w.alloc (.cells #[a0, a1, a2, a3, a4] T)) w2) : w2.cell? ⟨w.heap.size, 0, none⟩ = some a0 ∧ w2.cell? ⟨w.heap.size, 1, none⟩ = some a1 ∧ w2.cell? ⟨w.heap.size, 2, none⟩ = some a2 ∧ w2.cell? ⟨w.heap.size, 3, none⟩ = some a3 ∧ w2.cell? ⟨w.heap.size, 4, none⟩ = some a4 := by
  refine ⟨h.cell ?_, h.cell ?_, h.cell ?_, h.cell ?_, h.cell ?_⟩ <;> rw [World.cell?_alloc_mark] <;> rfl
def chkPc (i : ByteArray) (a : List ByteArray) (f : ByteArray) (hi hf : Bool) : Int := if okPc i a f hi hf then 0 else 2
theorem chkPc_yes {i : ByteArray} {a : List ByteArray} {f : ByteArray} {hi hf : Bool} (h : okPc i a f hi hf = true) : chkPc i a f hi hf = 0 := if_pos h
theorem chkPc_no {i : ByteArray} {a : List ByteArray} {f : ByteArray} {hi hf : Bool} (h : okPc i a f hi hf = false) : chkPc i a f hi hf = 2 := by unfold chkPc; rw [h]; rfl
end Go.Proofs.YthbldkkjjjmegaaDoor
/- The document's fine of layer 24. -/
namespace Go.Proofs.YthbldkkjjjmegaaDoor
set_option maxRecDepth 100000
open Go.RowKit

/-- Are pieces such that may be, and short? -/
def finPc (i : ByteArray) (a : List ByteArray) (f : ByteArray) (hi hf : Bool) : Bool := okPc i a f hi hf && (decide (i.size ≤ 400 ∧ f.size ≤ 400) && a.all fun t => decide (t.size ≤ 400))
end Go.Proofs.YthbldkkjjjmegaaDoor
/- The document's bare of layer 24. (By gen_ba.py.) -/
namespace Go.Proofs.YthbldkkjjjmegaaDoor
set_option maxRecDepth 100000
open Go.RowKit

theorem TxC.nil (w : World) (ad : Option Addr) : TxC w ad [] := ⟨by simp, .inl rfl⟩
/-- Is a filter bare of those that are asked? -/
def barF (n v i : ByteArray) (a : List ByteArray) (f : ByteArray) (hi hf : Bool) (r : ByteArray) (d bn bv bp br : Bool) : Bool := (!bn || decide (n = ByteArray.empty)) && ((!bv || decide (v = ByteArray.empty)) && ((!br || (decide (r = ByteArray.empty) && !d)) && (!bp || smP i a f hi hf ByteArray.empty [] ByteArray.empty false false)))
theorem emp_no {a : ByteArray} (h : ¬ a = ByteArray.empty) : ¬ a.toList = [] ∧ a.toList.isEmpty = false ∧ (a.toList == []) = false := by
  have := txt_no h
  have e : ByteArray.empty.toList = [] := by rw [Lib.toList_data]; rfl
  rw [e] at this
  refine ⟨?_, ?_, this⟩
  · exact beq_eq_false_iff_ne.1 this
  · cases ht : a.toList
    · exact absurd ht (beq_eq_false_iff_ne.1 this)
    · rfl
end Go.Proofs.YthbldkkjjjmegaaDoor
