/- Pieces: the document's Same and Check of layer 13; texts. -/
import Derived.Test.YthbldkkjjjmegaaGreatDoorProg
import Derived.Test.YthbldkkjjjmegaaGreatDoorM03
import Derived.Lib.Strings
namespace Go.Proofs.YthbldkkjjjmegaaGreatDoor
set_option maxRecDepth 100000
open Go.RowKit

theorem txt24 (a b : ByteArray) : (a.toList == b.toList) = decide (a = b) := by
  rw [Lib.toList_data, Lib.toList_data]
  obtain ⟨⟨x⟩⟩ := a
  obtain ⟨⟨y⟩⟩ := b
  by_cases h : x = y
  · subst h; simp
  · have : ¬ (ByteArray.mk ⟨x⟩ = ByteArray.mk ⟨y⟩) := fun e => h (by injection e with e; injection e)
    rw [decide_eq_false this, beq_eq_false_iff_ne]
    exact h
theorem txt_yes (a : ByteArray) : (a.toList == a.toList) = true := by rw [txt24]; simp
theorem txt_no {a b : ByteArray} (h : ¬ a = b) : (a.toList == b.toList) = false := by rw [txt24]; exact decide_eq_false h
theorem beq_no {a b : Bool} (h : ¬ a = b) : (a == b) = false := by simpa using h
theorem take_next (l : List ByteArray) (j : Nat) (h : j < l.length) : l.take (j + 1) = l.take j ++ [l.getD j ⟨#[]⟩] := by
  rw [List.take_add_one]
  simp [List.getD, h]
theorem TxC.at {w : World} {ad : Option Addr} {l : List ByteArray} (h : TxC w ad l) {j : Nat} (hj : j < l.length) : ∃ g off, ad = some ⟨g, off, none⟩ ∧ w.cell? ⟨g, off + j, none⟩ = some (.string (l.getD j ⟨#[]⟩)) := by
  obtain ⟨g, off, ha, hl⟩ := h.2.resolve_left (by omega)
  exact ⟨g, off, ha, hl j hj⟩
theorem box5c (w : World) (a0 a1 a2 a3 a4 : Value) (T : TypeId) : (w.alloc (.cells #[a0, a1, a2, a3, a4] T)).cell? ⟨w.heap.size, 1, none⟩ = some a1 := by
  rw [World.cell?_alloc_mark]; rfl
/-- Are pieces the same? -/
def smP (i : ByteArray) (a : List ByteArray) (f : ByteArray) (hi hf : Bool) (i' : ByteArray) (a' : List ByteArray) (f' : ByteArray) (hi' hf' : Bool) : Bool := decide (i = i' ∧ a = a' ∧ f = f' ∧ hi = hi' ∧ hf = hf')
set_option maxHeartbeats 3200000 in
theorem rsame13_any (i f i' f' : ByteArray) (hi hf hi' hf' : Bool) (a a' : List ByteArray) (a1 a2 : Option Addr) (c1 c2 : Nat) (w : World) (h1 : TxC w a1 a) (h2 : TxC w a2 a') : Calls Tryz.prog 29 #[.agg #[.string i, .slice a1 a.length c1, .string f, .bool hi, .bool hf], .agg #[.string i', .slice a2 a'.length c2, .string f', .bool hi', .bool hf']] w fun r w' => r = .returned (.bool (smP i a f hi hf i' a' f' hi' hf')) ∧ Gr w w' := by
  have g0 : Gr w ((w.alloc (.cells #[.string i, .slice a1 a.length c1, .string f, .bool hi, .bool hf] 24)).alloc (.cells #[.string i', .slice a2 a'.length c2, .string f', .bool hi', .bool hf'] 24)) := (Gr.one w _).alloc _
  by_cases e1 : i = i'
  · subst e1
    have q1 := txt_yes i
    by_cases e2 : f = f'
    · subst e2
      have q2 := txt_yes f
      by_cases e3 : hi = hi'
      · subst e3
        have q3 : (hi == hi) = true := by simp
        by_cases e4 : hf = hf'
        · subst e4
          have q4 : (hf == hf) = true := by simp
          by_cases e5 : a.length = a'.length
          · have q5 : ((a.length : Int) == (a'.length : Int)) = true := by rw [e5]; simp
            have HA := hide h1
            have hm := h1.1
            have HE : Hid (∀ b, (a = a' ↔ b = true) → smP i a f hi hf i a' f hi hf = b) := by
              intro b hb
              unfold smP
              by_cases h : a = a'
              · rw [decide_eq_true (by simp [h])]; exact (hb.1 h).symm
              · rw [decide_eq_false (by simp [h])]
                cases b
                · rfl
                · exact absurd (hb.2 rfl) h
            rw [← e5] at g0 ⊢
            have HB := hide h2
            have HG := hide g0
            have HL5 := hide e5
            have B1 : ((w.alloc (.cells #[.string i, .slice a1 a.length c1, .string f, .bool hi, .bool hf] 24)).alloc (.cells #[.string i, .slice a2 a.length c2, .string f, .bool hi, .bool hf] 24)).cell? ⟨w.heap.size, 1, none⟩ = some (.slice a1 a.length c1) := (Gr.one _ _).cell (box5c w _ _ _ _ _ _)
            have B2 : ((w.alloc (.cells #[.string i, .slice a1 a.length c1, .string f, .bool hi, .bool hf] 24)).alloc (.cells #[.string i, .slice a2 a.length c2, .string f, .bool hi, .bool hf] 24)).cell? ⟨w.heap.size + 1, 1, none⟩ = some (.slice a2 a.length c2) := by simp
            have HB1 := hide B1
            have HB2 := hide B2
            clear h1 h2 g0 e5 q5 B1 B2
            have q5 : ((a.length : Int) == (a.length : Int)) = true := by simp
            go_enter Tryz.func29, Tryz.ntmps29
            go_wp2
            go_loopw [5] (fun vj wr => ∃ j : Nat, j ≤ a.length ∧ vj = .int .i64 (j : Int) ∧ Hid (a.take j = a'.take j) ∧ Gr ((w.alloc (.cells #[.string i, .slice a1 a.length c1, .string f, .bool hi, .bool hf] 24)).alloc (.cells #[.string i, .slice a2 a.length c2, .string f, .bool hi, .bool hf] 24)) wr) (fun vj _ => a.length - (intOf vj).toNat)
            case atStart => exact ⟨0, Nat.zero_le _, rfl, rfl, Gr.refl _⟩
            case round =>
              obtain ⟨j, hj, rfl, HT, hnx⟩ := hrel
              have b1 := hnx.cell (unhide HB1)
              have b2 := hnx.cell (unhide HB2)
              by_cases hlt : j < a.length
              · have z1 : (j : Int) < (a.length : Int) := by omega
                have z0 : (0 : Int) ≤ (j : Int) := by omega
                obtain ⟨g, off, rfl, k1⟩ := (unhide HA).at hlt
                obtain ⟨g', off', rfl, k2⟩ := (unhide HB).at (j := j) (by rw [← unhide HL5]; exact hlt)
                have gw := (unhide HG).trans hnx
                replace k1 := gw.cell k1
                replace k2 := gw.cell k2
                have k1N : ∀ n, (wr.drewN n).cell? ⟨g, off + j, none⟩ = some (.string (a.getD j ⟨#[]⟩)) := fun n => k1
                have k2N : ∀ n, (wr.drewN n).cell? ⟨g', off' + j, none⟩ = some (.string (a'.getD j ⟨#[]⟩)) := fun n => k2
                have b1N : ∀ n, (wr.drewN n).cell? ⟨w.heap.size, 1, none⟩ = some (.slice (some ⟨g, off, none⟩) a.length c1) := fun n => b1
                have b2N : ∀ n, (wr.drewN n).cell? ⟨w.heap.size + 1, 1, none⟩ = some (.slice (some ⟨g', off', none⟩) a.length c2) := fun n => b2
                by_cases ht : a.getD j ⟨#[]⟩ = a'.getD j ⟨#[]⟩
                · have HN : Hid (a.take (j + 1) = a'.take (j + 1)) := by
                    show _ = _
                    rw [take_next a j hlt, take_next a' j (by rw [← unhide HL5]; exact hlt), unhide HT, ht]
                  rw [ht] at k1 k1N
                  have q6 := txt_yes (a'.getD j ⟨#[]⟩)
                  generalize a'.getD j ⟨#[]⟩ = t at *
                  clear HT ht HE HB1 HB2 HA HB
                  go_wp2
                  go_quiet (fail)
                  go_wp2
                  go_roundw
                  case rel => exact ⟨j + 1, by omega, by go_num, unhide HN, hnx.drewN _⟩
                  case measure => simp [intOf]; omega
                · have HN : Hid (false = smP i a f hi hf i a' f hi hf) := (unhide HE false ⟨fun h => absurd (by rw [h]) ht, fun h => absurd h (by simp)⟩).symm
                  have q6 := txt_no ht
                  generalize a.getD j ⟨#[]⟩ = t at *
                  generalize a'.getD j ⟨#[]⟩ = t' at *
                  clear HT HE ht HB1 HB2 HA HB
                  go_wp2
                  go_quiet (fail)
                  go_wp2
                  go_ret
                  exact ⟨ret_bool (unhide HN), gw.drewN _⟩
              · have z1 : ¬ (j : Int) < (a.length : Int) := by omega
                have HN : Hid (true = smP i a f hi hf i a' f hi hf) := by
                  refine (unhide HE true ⟨fun _ => rfl, fun _ => ?_⟩).symm
                  have := unhide HT
                  rwa [List.take_of_length_le (by omega), List.take_of_length_le (by rw [← unhide HL5]; omega)] at this
                clear HT HE
                go_wp2
                go_ret
                exact ⟨ret_bool (unhide HN), (unhide HG).trans hnx⟩
          · have q5 : ((a.length : Int) == (a'.length : Int)) = false := by rw [beq_eq_false_iff_ne]; omega
            have HE : Hid (false = smP i a f hi hf i a' f hi hf) := (decide_eq_false fun h => e5 (by rw [h.2.1])).symm
            clear h1 h2
            go_enter Tryz.func29, Tryz.ntmps29
            go_wp2
            go_ret
            exact ⟨ret_bool (unhide HE), g0⟩
        · have q4 := beq_no e4
          have HE : Hid (false = smP i a f hi hf i a' f hi hf') := (decide_eq_false fun h => e4 h.2.2.2.2).symm
          clear h1 h2
          go_enter Tryz.func29, Tryz.ntmps29
          go_wp2
          go_ret
          exact ⟨ret_bool (unhide HE), g0⟩
      · have q3 := beq_no e3
        have HE : Hid (false = smP i a f hi hf i a' f hi' hf') := (decide_eq_false fun h => e3 h.2.2.2.1).symm
        clear h1 h2
        go_enter Tryz.func29, Tryz.ntmps29
        go_wp2
        go_ret
        exact ⟨ret_bool (unhide HE), g0⟩
    · have q2 := txt_no e2
      have HE : Hid (false = smP i a f hi hf i a' f' hi' hf') := (decide_eq_false fun h => e2 h.2.2.1).symm
      clear h1 h2
      go_enter Tryz.func29, Tryz.ntmps29
      go_wp2
      go_ret
      exact ⟨ret_bool (unhide HE), g0⟩
  · have q1 := txt_no e1
    have HE : Hid (false = smP i a f hi hf i' a' f' hi' hf') := (decide_eq_false fun h => e1 h.1).symm
    clear h1 h2
    go_enter Tryz.func29, Tryz.ntmps29
    go_wp2
    go_ret
    exact ⟨ret_bool (unhide HE), g0⟩
end Go.Proofs.YthbldkkjjjmegaaGreatDoor
/- Pieces: the document's Check of layer 13, and fine of layer 24. (By gen_pf.py.) -/
namespace Go.Proofs.YthbldkkjjjmegaaGreatDoor
set_option maxRecDepth 100000
open Go.RowKit

/-- May pieces be? -/
def okPc (i : ByteArray) (a : List ByteArray) (f : ByteArray) (hi hf : Bool) : Bool := decide (a.length ≤ 6 ∧ (hi = true ∨ hf = true ∨ a.length ≠ 0) ∧ (hi = true ↔ 0 < i.size) ∧ (hf = true ↔ 0 < f.size)) && a.all fun t => decide (t.size ≠ 0)
theorem okPc_head {i : ByteArray} {a : List ByteArray} {f : ByteArray} {hi hf : Bool} (h : ¬ (a.length ≤ 6 ∧ (hi = true ∨ hf = true ∨ a.length ≠ 0) ∧ (hi = true ↔ 0 < i.size) ∧ (hf = true ↔ 0 < f.size))) : okPc i a f hi hf = false := by
  unfold okPc; rw [decide_eq_false h]; rfl
theorem okPc_tail {i : ByteArray} {a : List ByteArray} {f : ByteArray} {hi hf : Bool} (h : a.length ≤ 6 ∧ (hi = true ∨ hf = true ∨ a.length ≠ 0) ∧ (hi = true ↔ 0 < i.size) ∧ (hf = true ↔ 0 < f.size)) : okPc i a f hi hf = a.all fun t => decide (t.size ≠ 0) := by
  unfold okPc; rw [decide_eq_true h]; rfl
theorem all_dropP (p : ByteArray → Bool) (l : List ByteArray) (j : Nat) (h : j < l.length) : (l.drop j).all p = (p (l.getD j ⟨#[]⟩) && (l.drop (j + 1)).all p) := by
  rw [List.drop_eq_getElem_cons h, List.all_cons]
  simp [List.getD, h]
theorem box5p {w w2 : World} {a0 a1 a2 a3 a4 : Value} {T : TypeId} (h : Gr (w.alloc (.cells #[a0, a1, a2, a3, a4] T)) w2) : w2.cell? ⟨w.heap.size, 0, none⟩ = some a0 ∧ w2.cell? ⟨w.heap.size, 1, none⟩ = some a1 ∧ w2.cell? ⟨w.heap.size, 2, none⟩ = some a2 ∧ w2.cell? ⟨w.heap.size, 3, none⟩ = some a3 ∧ w2.cell? ⟨w.heap.size, 4, none⟩ = some a4 := by
  refine ⟨h.cell ?_, h.cell ?_, h.cell ?_, h.cell ?_, h.cell ?_⟩ <;> rw [World.cell?_alloc_mark] <;> rfl
def chkPc (i : ByteArray) (a : List ByteArray) (f : ByteArray) (hi hf : Bool) : Int := if okPc i a f hi hf then 0 else 2
theorem chkPc_yes {i : ByteArray} {a : List ByteArray} {f : ByteArray} {hi hf : Bool} (h : okPc i a f hi hf = true) : chkPc i a f hi hf = 0 := if_pos h
theorem chkPc_no {i : ByteArray} {a : List ByteArray} {f : ByteArray} {hi hf : Bool} (h : okPc i a f hi hf = false) : chkPc i a f hi hf = 2 := by unfold chkPc; rw [h]; rfl
set_option maxHeartbeats 6400000 in
theorem rchk13_bad (i f : ByteArray) (hi hf : Bool) (a : List ByteArray) (a1 : Option Addr) (c1 : Nat) (w : World) (hn : a.length ≤ 1000000) (hbad : ¬ (a.length ≤ 6 ∧ (hi = true ∨ hf = true ∨ a.length ≠ 0) ∧ (hi = true ↔ 0 < i.size) ∧ (hf = true ↔ 0 < f.size))) : Calls Tryz.prog 71 #[.agg #[.string i, .slice a1 a.length c1, .string f, .bool hi, .bool hf]] w fun r w' => r = .returned (.int .i64 (chkPc i a f hi hf)) ∧ Gr w w' := by
  have HE : Hid (2 = chkPc i a f hi hf) := (chkPc_no (okPc_head hbad)).symm
  cases hi <;> cases hf
  all_goals
    by_cases z6 : 6 < a.length
    · have y6 : (6 : Int) < (a.length : Int) := by omega
      have y0 : ((a.length : Int) == 0) = false := by rw [beq_eq_false_iff_ne]; omega
      have y1 : ((a.length : Int) + 1 == 0) = false := by rw [beq_eq_false_iff_ne]; omega
      have y2 : ((a.length : Int) + 1 + 1 == 0) = false := by rw [beq_eq_false_iff_ne]; omega
      clear hbad
      go_enter Tryz.func71, Tryz.ntmps71
      go_wp2
      go_ret
      exact ⟨ret_int (unhide HE), Gr.one w _⟩
    · have y6 : ¬ (6 : Int) < (a.length : Int) := by omega
      by_cases z0 : a.length = 0
      · by_cases zi : 0 < i.size
        · by_cases zf : 0 < f.size
          · first
              | (exfalso; exact hbad ⟨by omega, by first | exact .inl rfl | exact .inr (.inl rfl) | exact .inr (.inr z0), by first | exact ⟨fun _ => zi, fun _ => rfl⟩ | exact ⟨fun h => absurd h Bool.false_ne_true, fun h => absurd h zi⟩, by first | exact ⟨fun _ => zf, fun _ => rfl⟩ | exact ⟨fun h => absurd h Bool.false_ne_true, fun h => absurd h zf⟩⟩)
              | (have yi : (0 : Int) < (i.size : Int) := by omega
                 have yf : (0 : Int) < (f.size : Int) := by omega
                 have y0 : ((a.length : Int) == 0) = true := by rw [beq_iff_eq]; omega
                 have y1 : ((a.length : Int) + 1 == 0) = false := by rw [beq_eq_false_iff_ne]; omega
                 have y2 : ((a.length : Int) + 1 + 1 == 0) = false := by rw [beq_eq_false_iff_ne]; omega
                 clear hbad
                 go_enter Tryz.func71, Tryz.ntmps71
                 go_wp2
                 go_ret
                 exact ⟨ret_int (unhide HE), Gr.one w _⟩)
          · first
              | (exfalso; exact hbad ⟨by omega, by first | exact .inl rfl | exact .inr (.inl rfl) | exact .inr (.inr z0), by first | exact ⟨fun _ => zi, fun _ => rfl⟩ | exact ⟨fun h => absurd h Bool.false_ne_true, fun h => absurd h zi⟩, by first | exact ⟨fun _ => zf, fun _ => rfl⟩ | exact ⟨fun h => absurd h Bool.false_ne_true, fun h => absurd h zf⟩⟩)
              | (have yi : (0 : Int) < (i.size : Int) := by omega
                 have yf : ¬ (0 : Int) < (f.size : Int) := by omega
                 have y0 : ((a.length : Int) == 0) = true := by rw [beq_iff_eq]; omega
                 have y1 : ((a.length : Int) + 1 == 0) = false := by rw [beq_eq_false_iff_ne]; omega
                 have y2 : ((a.length : Int) + 1 + 1 == 0) = false := by rw [beq_eq_false_iff_ne]; omega
                 clear hbad
                 go_enter Tryz.func71, Tryz.ntmps71
                 go_wp2
                 go_ret
                 exact ⟨ret_int (unhide HE), Gr.one w _⟩)
        · by_cases zf : 0 < f.size
          · first
              | (exfalso; exact hbad ⟨by omega, by first | exact .inl rfl | exact .inr (.inl rfl) | exact .inr (.inr z0), by first | exact ⟨fun _ => zi, fun _ => rfl⟩ | exact ⟨fun h => absurd h Bool.false_ne_true, fun h => absurd h zi⟩, by first | exact ⟨fun _ => zf, fun _ => rfl⟩ | exact ⟨fun h => absurd h Bool.false_ne_true, fun h => absurd h zf⟩⟩)
              | (have yi : ¬ (0 : Int) < (i.size : Int) := by omega
                 have yf : (0 : Int) < (f.size : Int) := by omega
                 have y0 : ((a.length : Int) == 0) = true := by rw [beq_iff_eq]; omega
                 have y1 : ((a.length : Int) + 1 == 0) = false := by rw [beq_eq_false_iff_ne]; omega
                 have y2 : ((a.length : Int) + 1 + 1 == 0) = false := by rw [beq_eq_false_iff_ne]; omega
                 clear hbad
                 go_enter Tryz.func71, Tryz.ntmps71
                 go_wp2
                 go_ret
                 exact ⟨ret_int (unhide HE), Gr.one w _⟩)
          · first
              | (exfalso; exact hbad ⟨by omega, by first | exact .inl rfl | exact .inr (.inl rfl) | exact .inr (.inr z0), by first | exact ⟨fun _ => zi, fun _ => rfl⟩ | exact ⟨fun h => absurd h Bool.false_ne_true, fun h => absurd h zi⟩, by first | exact ⟨fun _ => zf, fun _ => rfl⟩ | exact ⟨fun h => absurd h Bool.false_ne_true, fun h => absurd h zf⟩⟩)
              | (have yi : ¬ (0 : Int) < (i.size : Int) := by omega
                 have yf : ¬ (0 : Int) < (f.size : Int) := by omega
                 have y0 : ((a.length : Int) == 0) = true := by rw [beq_iff_eq]; omega
                 have y1 : ((a.length : Int) + 1 == 0) = false := by rw [beq_eq_false_iff_ne]; omega
                 have y2 : ((a.length : Int) + 1 + 1 == 0) = false := by rw [beq_eq_false_iff_ne]; omega
                 clear hbad
                 go_enter Tryz.func71, Tryz.ntmps71
                 go_wp2
                 go_ret
                 exact ⟨ret_int (unhide HE), Gr.one w _⟩)
      · by_cases zi : 0 < i.size
        · by_cases zf : 0 < f.size
          · first
              | (exfalso; exact hbad ⟨by omega, by first | exact .inl rfl | exact .inr (.inl rfl) | exact .inr (.inr z0), by first | exact ⟨fun _ => zi, fun _ => rfl⟩ | exact ⟨fun h => absurd h Bool.false_ne_true, fun h => absurd h zi⟩, by first | exact ⟨fun _ => zf, fun _ => rfl⟩ | exact ⟨fun h => absurd h Bool.false_ne_true, fun h => absurd h zf⟩⟩)
              | (have yi : (0 : Int) < (i.size : Int) := by omega
                 have yf : (0 : Int) < (f.size : Int) := by omega
                 have y0 : ((a.length : Int) == 0) = false := by rw [beq_eq_false_iff_ne]; omega
                 have y1 : ((a.length : Int) + 1 == 0) = false := by rw [beq_eq_false_iff_ne]; omega
                 have y2 : ((a.length : Int) + 1 + 1 == 0) = false := by rw [beq_eq_false_iff_ne]; omega
                 clear hbad
                 go_enter Tryz.func71, Tryz.ntmps71
                 go_wp2
                 go_ret
                 exact ⟨ret_int (unhide HE), Gr.one w _⟩)
          · first
              | (exfalso; exact hbad ⟨by omega, by first | exact .inl rfl | exact .inr (.inl rfl) | exact .inr (.inr z0), by first | exact ⟨fun _ => zi, fun _ => rfl⟩ | exact ⟨fun h => absurd h Bool.false_ne_true, fun h => absurd h zi⟩, by first | exact ⟨fun _ => zf, fun _ => rfl⟩ | exact ⟨fun h => absurd h Bool.false_ne_true, fun h => absurd h zf⟩⟩)
              | (have yi : (0 : Int) < (i.size : Int) := by omega
                 have yf : ¬ (0 : Int) < (f.size : Int) := by omega
                 have y0 : ((a.length : Int) == 0) = false := by rw [beq_eq_false_iff_ne]; omega
                 have y1 : ((a.length : Int) + 1 == 0) = false := by rw [beq_eq_false_iff_ne]; omega
                 have y2 : ((a.length : Int) + 1 + 1 == 0) = false := by rw [beq_eq_false_iff_ne]; omega
                 clear hbad
                 go_enter Tryz.func71, Tryz.ntmps71
                 go_wp2
                 go_ret
                 exact ⟨ret_int (unhide HE), Gr.one w _⟩)
        · by_cases zf : 0 < f.size
          · first
              | (exfalso; exact hbad ⟨by omega, by first | exact .inl rfl | exact .inr (.inl rfl) | exact .inr (.inr z0), by first | exact ⟨fun _ => zi, fun _ => rfl⟩ | exact ⟨fun h => absurd h Bool.false_ne_true, fun h => absurd h zi⟩, by first | exact ⟨fun _ => zf, fun _ => rfl⟩ | exact ⟨fun h => absurd h Bool.false_ne_true, fun h => absurd h zf⟩⟩)
              | (have yi : ¬ (0 : Int) < (i.size : Int) := by omega
                 have yf : (0 : Int) < (f.size : Int) := by omega
                 have y0 : ((a.length : Int) == 0) = false := by rw [beq_eq_false_iff_ne]; omega
                 have y1 : ((a.length : Int) + 1 == 0) = false := by rw [beq_eq_false_iff_ne]; omega
                 have y2 : ((a.length : Int) + 1 + 1 == 0) = false := by rw [beq_eq_false_iff_ne]; omega
                 clear hbad
                 go_enter Tryz.func71, Tryz.ntmps71
                 go_wp2
                 go_ret
                 exact ⟨ret_int (unhide HE), Gr.one w _⟩)
          · first
              | (exfalso; exact hbad ⟨by omega, by first | exact .inl rfl | exact .inr (.inl rfl) | exact .inr (.inr z0), by first | exact ⟨fun _ => zi, fun _ => rfl⟩ | exact ⟨fun h => absurd h Bool.false_ne_true, fun h => absurd h zi⟩, by first | exact ⟨fun _ => zf, fun _ => rfl⟩ | exact ⟨fun h => absurd h Bool.false_ne_true, fun h => absurd h zf⟩⟩)
              | (have yi : ¬ (0 : Int) < (i.size : Int) := by omega
                 have yf : ¬ (0 : Int) < (f.size : Int) := by omega
                 have y0 : ((a.length : Int) == 0) = false := by rw [beq_eq_false_iff_ne]; omega
                 have y1 : ((a.length : Int) + 1 == 0) = false := by rw [beq_eq_false_iff_ne]; omega
                 have y2 : ((a.length : Int) + 1 + 1 == 0) = false := by rw [beq_eq_false_iff_ne]; omega
                 clear hbad
                 go_enter Tryz.func71, Tryz.ntmps71
                 go_wp2
                 go_ret
                 exact ⟨ret_int (unhide HE), Gr.one w _⟩)
set_option maxHeartbeats 3200000 in
theorem rchk13_any (i f : ByteArray) (hi hf : Bool) (a : List ByteArray) (a1 : Option Addr) (c1 : Nat) (w : World) (hn : a.length ≤ 1000000) (ht : TxC w a1 a) : Calls Tryz.prog 71 #[.agg #[.string i, .slice a1 a.length c1, .string f, .bool hi, .bool hf]] w fun r w' => r = .returned (.int .i64 (chkPc i a f hi hf)) ∧ Gr w w' := by
  by_cases hok : a.length ≤ 6 ∧ (hi = true ∨ hf = true ∨ a.length ≠ 0) ∧ (hi = true ↔ 0 < i.size) ∧ (hf = true ↔ 0 < f.size)
  · have HA := hide ht
    have HE : Hid (∀ b, (a.all fun t => decide (t.size ≠ 0)) = b → (if b then 0 else 2) = chkPc i a f hi hf) := by
      intro b hb
      unfold chkPc
      rw [okPc_tail hok, hb]
    have HB1 := hide (box5c w (.string i) (.slice a1 a.length c1) (.string f) (.bool hi) (.bool hf) 24)
    have HG := hide (Gr.one w (.cells #[.string i, .slice a1 a.length c1, .string f, .bool hi, .bool hf] 24))
    obtain ⟨h6, h0, hI, hF⟩ := hok
    have y6 : ¬ (6 : Int) < (a.length : Int) := by omega
    clear ht
    cases hi <;> cases hf
    · have yi : ¬ (0 : Int) < (i.size : Int) := by intro h; exact absurd (hI.2 (by omega)) (by simp)
      obtain rfl : i = ByteArray.empty := ByteArray.size_eq_zero_iff.1 (by omega)
      clear yi
      have yf : ¬ (0 : Int) < (f.size : Int) := by intro h; exact absurd (hF.2 (by omega)) (by simp)
      have y0 : ((a.length : Int) == 0) = false := by rw [beq_eq_false_iff_ne]; intro h; exact (h0.resolve_left (by simp)).resolve_left (by simp) (by omega)
      clear hI hF h0
      go_enter Tryz.func71, Tryz.ntmps71
      go_wp2
      go_loop [4] (fun vj => ∃ j : Nat, j ≤ a.length ∧ vj = .int .i64 (j : Int) ∧ Hid ((a.all fun t => decide (t.size ≠ 0)) = ((a.drop j).all fun t => decide (t.size ≠ 0)))) (fun vj => a.length - (intOf vj).toNat)
      case atStart => exact ⟨0, Nat.zero_le _, rfl, rfl⟩
      case round =>
        obtain ⟨j, hj, rfl, HT⟩ := hrel
        by_cases hlt : j < a.length
        · have z1 : (j : Int) < (a.length : Int) := by omega
          have z0 : (0 : Int) ≤ (j : Int) := by omega
          obtain ⟨g, off, rfl, k1⟩ := (unhide HA).at hlt
          have k1 := (unhide HG).cell k1
          have hs := all_dropP (fun t => decide (t.size ≠ 0)) a j hlt
          generalize a.getD j ⟨#[]⟩ = t at *
          by_cases hz : t.size = 0
          · have zt : ((t.size : Int) == 0) = true := by rw [beq_iff_eq]; omega
            have HN : Hid (2 = chkPc ByteArray.empty a f false false) := by
              refine unhide HE false ?_
              rw [unhide HT, hs]
              simp [hz]
            clear HT HE hs hz
            go_wp2
            go_ret
            exact ⟨ret_int (unhide HN), Gr.one w _⟩
          · have zt : ((t.size : Int) == 0) = false := by rw [beq_eq_false_iff_ne]; omega
            have HN : Hid ((a.all fun t => decide (t.size ≠ 0)) = ((a.drop (j + 1)).all fun t => decide (t.size ≠ 0))) := by
              show _ = _
              rw [unhide HT, hs]
              simp [hz]
            clear HT hs hz
            go_wp2
            go_round
            case rel => exact ⟨j + 1, by omega, by go_num, unhide HN⟩
            case measure => simp [intOf]; omega
        · have z1 : ¬ (j : Int) < (a.length : Int) := by omega
          have HN : Hid (0 = chkPc ByteArray.empty a f false false) := by
            refine unhide HE true ?_
            rw [unhide HT, List.drop_eq_nil_of_le (by omega)]
            rfl
          clear HT HE
          go_wp2
          go_ret
          exact ⟨ret_int (unhide HN), Gr.one w _⟩
    · have yi : ¬ (0 : Int) < (i.size : Int) := by intro h; exact absurd (hI.2 (by omega)) (by simp)
      obtain rfl : i = ByteArray.empty := ByteArray.size_eq_zero_iff.1 (by omega)
      clear yi
      have yf : (0 : Int) < (f.size : Int) := by have := hF.1 rfl; omega
      have yfd : decide (0 < f.size) = true := decide_eq_true (by omega)
      have y0 : ((a.length : Int) + 1 == 0) = false := by rw [beq_eq_false_iff_ne]; omega
      clear hI hF h0
      go_enter Tryz.func71, Tryz.ntmps71
      go_wp2
      go_loop [4] (fun vj => ∃ j : Nat, j ≤ a.length ∧ vj = .int .i64 (j : Int) ∧ Hid ((a.all fun t => decide (t.size ≠ 0)) = ((a.drop j).all fun t => decide (t.size ≠ 0)))) (fun vj => a.length - (intOf vj).toNat)
      case atStart => exact ⟨0, Nat.zero_le _, rfl, rfl⟩
      case round =>
        obtain ⟨j, hj, rfl, HT⟩ := hrel
        by_cases hlt : j < a.length
        · have z1 : (j : Int) < (a.length : Int) := by omega
          have z0 : (0 : Int) ≤ (j : Int) := by omega
          obtain ⟨g, off, rfl, k1⟩ := (unhide HA).at hlt
          have k1 := (unhide HG).cell k1
          have hs := all_dropP (fun t => decide (t.size ≠ 0)) a j hlt
          generalize a.getD j ⟨#[]⟩ = t at *
          by_cases hz : t.size = 0
          · have zt : ((t.size : Int) == 0) = true := by rw [beq_iff_eq]; omega
            have HN : Hid (2 = chkPc ByteArray.empty a f false true) := by
              refine unhide HE false ?_
              rw [unhide HT, hs]
              simp [hz]
            clear HT HE hs hz
            go_wp2
            go_ret
            exact ⟨ret_int (unhide HN), Gr.one w _⟩
          · have zt : ((t.size : Int) == 0) = false := by rw [beq_eq_false_iff_ne]; omega
            have HN : Hid ((a.all fun t => decide (t.size ≠ 0)) = ((a.drop (j + 1)).all fun t => decide (t.size ≠ 0))) := by
              show _ = _
              rw [unhide HT, hs]
              simp [hz]
            clear HT hs hz
            go_wp2
            go_round
            case rel => exact ⟨j + 1, by omega, by go_num, unhide HN⟩
            case measure => simp [intOf]; omega
        · have z1 : ¬ (j : Int) < (a.length : Int) := by omega
          have HN : Hid (0 = chkPc ByteArray.empty a f false true) := by
            refine unhide HE true ?_
            rw [unhide HT, List.drop_eq_nil_of_le (by omega)]
            rfl
          clear HT HE
          go_wp2
          go_ret
          exact ⟨ret_int (unhide HN), Gr.one w _⟩
    · have yi : (0 : Int) < (i.size : Int) := by have := hI.1 rfl; omega
      have yf : ¬ (0 : Int) < (f.size : Int) := by intro h; exact absurd (hF.2 (by omega)) (by simp)
      have y0 : ((a.length : Int) + 1 == 0) = false := by rw [beq_eq_false_iff_ne]; omega
      clear hI hF h0
      go_enter Tryz.func71, Tryz.ntmps71
      go_wp2
      go_loop [4] (fun vj => ∃ j : Nat, j ≤ a.length ∧ vj = .int .i64 (j : Int) ∧ Hid ((a.all fun t => decide (t.size ≠ 0)) = ((a.drop j).all fun t => decide (t.size ≠ 0)))) (fun vj => a.length - (intOf vj).toNat)
      case atStart => exact ⟨0, Nat.zero_le _, rfl, rfl⟩
      case round =>
        obtain ⟨j, hj, rfl, HT⟩ := hrel
        by_cases hlt : j < a.length
        · have z1 : (j : Int) < (a.length : Int) := by omega
          have z0 : (0 : Int) ≤ (j : Int) := by omega
          obtain ⟨g, off, rfl, k1⟩ := (unhide HA).at hlt
          have k1 := (unhide HG).cell k1
          have hs := all_dropP (fun t => decide (t.size ≠ 0)) a j hlt
          generalize a.getD j ⟨#[]⟩ = t at *
          by_cases hz : t.size = 0
          · have zt : ((t.size : Int) == 0) = true := by rw [beq_iff_eq]; omega
            have HN : Hid (2 = chkPc i a f true false) := by
              refine unhide HE false ?_
              rw [unhide HT, hs]
              simp [hz]
            clear HT HE hs hz
            go_wp2
            go_ret
            exact ⟨ret_int (unhide HN), Gr.one w _⟩
          · have zt : ((t.size : Int) == 0) = false := by rw [beq_eq_false_iff_ne]; omega
            have HN : Hid ((a.all fun t => decide (t.size ≠ 0)) = ((a.drop (j + 1)).all fun t => decide (t.size ≠ 0))) := by
              show _ = _
              rw [unhide HT, hs]
              simp [hz]
            clear HT hs hz
            go_wp2
            go_round
            case rel => exact ⟨j + 1, by omega, by go_num, unhide HN⟩
            case measure => simp [intOf]; omega
        · have z1 : ¬ (j : Int) < (a.length : Int) := by omega
          have HN : Hid (0 = chkPc i a f true false) := by
            refine unhide HE true ?_
            rw [unhide HT, List.drop_eq_nil_of_le (by omega)]
            rfl
          clear HT HE
          go_wp2
          go_ret
          exact ⟨ret_int (unhide HN), Gr.one w _⟩
    · have yi : (0 : Int) < (i.size : Int) := by have := hI.1 rfl; omega
      have yf : (0 : Int) < (f.size : Int) := by have := hF.1 rfl; omega
      have yfd : decide (0 < f.size) = true := decide_eq_true (by omega)
      have y0 : ((a.length : Int) + 1 + 1 == 0) = false := by rw [beq_eq_false_iff_ne]; omega
      clear hI hF h0
      go_enter Tryz.func71, Tryz.ntmps71
      go_wp2
      go_loop [4] (fun vj => ∃ j : Nat, j ≤ a.length ∧ vj = .int .i64 (j : Int) ∧ Hid ((a.all fun t => decide (t.size ≠ 0)) = ((a.drop j).all fun t => decide (t.size ≠ 0)))) (fun vj => a.length - (intOf vj).toNat)
      case atStart => exact ⟨0, Nat.zero_le _, rfl, rfl⟩
      case round =>
        obtain ⟨j, hj, rfl, HT⟩ := hrel
        by_cases hlt : j < a.length
        · have z1 : (j : Int) < (a.length : Int) := by omega
          have z0 : (0 : Int) ≤ (j : Int) := by omega
          obtain ⟨g, off, rfl, k1⟩ := (unhide HA).at hlt
          have k1 := (unhide HG).cell k1
          have hs := all_dropP (fun t => decide (t.size ≠ 0)) a j hlt
          generalize a.getD j ⟨#[]⟩ = t at *
          by_cases hz : t.size = 0
          · have zt : ((t.size : Int) == 0) = true := by rw [beq_iff_eq]; omega
            have HN : Hid (2 = chkPc i a f true true) := by
              refine unhide HE false ?_
              rw [unhide HT, hs]
              simp [hz]
            clear HT HE hs hz
            go_wp2
            go_ret
            exact ⟨ret_int (unhide HN), Gr.one w _⟩
          · have zt : ((t.size : Int) == 0) = false := by rw [beq_eq_false_iff_ne]; omega
            have HN : Hid ((a.all fun t => decide (t.size ≠ 0)) = ((a.drop (j + 1)).all fun t => decide (t.size ≠ 0))) := by
              show _ = _
              rw [unhide HT, hs]
              simp [hz]
            clear HT hs hz
            go_wp2
            go_round
            case rel => exact ⟨j + 1, by omega, by go_num, unhide HN⟩
            case measure => simp [intOf]; omega
        · have z1 : ¬ (j : Int) < (a.length : Int) := by omega
          have HN : Hid (0 = chkPc i a f true true) := by
            refine unhide HE true ?_
            rw [unhide HT, List.drop_eq_nil_of_le (by omega)]
            rfl
          clear HT HE
          go_wp2
          go_ret
          exact ⟨ret_int (unhide HN), Gr.one w _⟩
  · exact rchk13_bad i f hi hf a a1 c1 w hn hok
end Go.Proofs.YthbldkkjjjmegaaGreatDoor
/- The document's fine of layer 24. -/
namespace Go.Proofs.YthbldkkjjjmegaaGreatDoor
set_option maxRecDepth 100000
open Go.RowKit

/-- Are pieces such that may be, and short? -/
def finPc (i : ByteArray) (a : List ByteArray) (f : ByteArray) (hi hf : Bool) : Bool := okPc i a f hi hf && (decide (i.size ≤ 400 ∧ f.size ≤ 400) && a.all fun t => decide (t.size ≤ 400))
set_option maxHeartbeats 3200000 in
theorem rfine_any (i f : ByteArray) (hi hf : Bool) (a : List ByteArray) (a1 : Option Addr) (c1 : Nat) (w : World) (hn : a.length ≤ 1000000) (ht : TxC w a1 a) : Calls Tryz.prog 58 #[.agg #[.string i, .slice a1 a.length c1, .string f, .bool hi, .bool hf]] w fun r w' => r = .returned (.bool (finPc i a f hi hf)) ∧ Gr w w' := by
  have g0 := Gr.one w (.cells #[.string i, .slice a1 a.length c1, .string f, .bool hi, .bool hf] 24)
  have CC := hide (rchk13_any i f hi hf a a1 c1 _ hn (ht.below g0.below))
  cases hok : okPc i a f hi hf
  · rw [chkPc_no hok] at CC
    have HE : Hid (false = finPc i a f hi hf) := by show _ = _; unfold finPc; rw [hok]; rfl
    clear hok
    go_enter Tryz.func58, Tryz.ntmps58
    go_wp2_with (go_at_call 71; refine (unhide CC).mono ?_; rintro e w2 ⟨rfl, g2⟩)
    go_ret
    exact ⟨ret_bool (unhide HE), g0.trans g2⟩
  · rw [chkPc_yes hok] at CC
    have HE : Hid (∀ b, (decide (i.size ≤ 400 ∧ f.size ≤ 400) && a.all fun t => decide (t.size ≤ 400)) = b → b = finPc i a f hi hf) := by
      intro b hb
      unfold finPc
      rw [hok, hb]
      rfl
    have HA := hide ht
    clear hok ht
    by_cases y1 : 400 < i.size
    · have z1 : (400 : Int) < (i.size : Int) := by omega
      have HN : Hid (false = finPc i a f hi hf) := unhide HE false (by rw [decide_eq_false (by omega)]; rfl)
      clear HE
      go_enter Tryz.func58, Tryz.ntmps58
      go_wp2_with (go_at_call 71; refine (unhide CC).mono ?_; rintro e w2 ⟨rfl, g2⟩; obtain ⟨b0, b1, b2, b3, b4⟩ := box5p g2)
      go_ret
      exact ⟨ret_bool (unhide HN), g0.trans g2⟩
    · have z1 : ¬ (400 : Int) < (i.size : Int) := by omega
      by_cases y2 : 400 < f.size
      · have z2 : (400 : Int) < (f.size : Int) := by omega
        have HN : Hid (false = finPc i a f hi hf) := unhide HE false (by rw [decide_eq_false (by omega)]; rfl)
        clear HE
        go_enter Tryz.func58, Tryz.ntmps58
        go_wp2_with (go_at_call 71; refine (unhide CC).mono ?_; rintro e w2 ⟨rfl, g2⟩; obtain ⟨b0, b1, b2, b3, b4⟩ := box5p g2)
        go_ret
        exact ⟨ret_bool (unhide HN), g0.trans g2⟩
      · have z2 : ¬ (400 : Int) < (f.size : Int) := by omega
        have HH : Hid (∀ b, (a.all fun t => decide (t.size ≤ 400)) = b → b = finPc i a f hi hf) := fun b hb => unhide HE b (by rw [decide_eq_true (by omega), hb]; rfl)
        clear HE y1 y2
        go_enter Tryz.func58, Tryz.ntmps58
        go_wp2_with (go_at_call 71; refine (unhide CC).mono ?_; rintro e w2 ⟨rfl, g2⟩; obtain ⟨b0, b1, b2, b3, b4⟩ := box5p g2)
        have gw := g0.trans g2
        clear CC g0 g2
        go_loop [3] (fun vj => ∃ j : Nat, j ≤ a.length ∧ vj = .int .i64 (j : Int) ∧ Hid ((a.all fun t => decide (t.size ≤ 400)) = ((a.drop j).all fun t => decide (t.size ≤ 400)))) (fun vj => a.length - (intOf vj).toNat)
        case atStart => exact ⟨0, Nat.zero_le _, rfl, rfl⟩
        case round =>
          obtain ⟨j, hj, rfl, HT⟩ := hrel
          by_cases hlt : j < a.length
          · have x1 : (j : Int) < (a.length : Int) := by omega
            have x0 : (0 : Int) ≤ (j : Int) := by omega
            obtain ⟨g, off, rfl, k1⟩ := (unhide HA).at hlt
            have k1 := gw.cell k1
            have hs := all_dropP (fun t => decide (t.size ≤ 400)) a j hlt
            generalize a.getD j ⟨#[]⟩ = t at *
            by_cases hz : 400 < t.size
            · have zt : (400 : Int) < (t.size : Int) := by omega
              have HN : Hid (false = finPc i a f hi hf) := by
                refine unhide HH false ?_
                rw [unhide HT, hs, decide_eq_false (by omega)]
                rfl
              clear HT HH hs hz
              go_wp2
              go_ret
              exact ⟨ret_bool (unhide HN), gw⟩
            · have zt : ¬ (400 : Int) < (t.size : Int) := by omega
              have HN : Hid ((a.all fun t => decide (t.size ≤ 400)) = ((a.drop (j + 1)).all fun t => decide (t.size ≤ 400))) := by
                show _ = _
                rw [unhide HT, hs, decide_eq_true (by omega)]
                rfl
              clear HT hs hz
              go_wp2
              go_round
              case rel => exact ⟨j + 1, by omega, by go_num, unhide HN⟩
              case measure => simp [intOf]; omega
          · have x1 : ¬ (j : Int) < (a.length : Int) := by omega
            have HN : Hid (true = finPc i a f hi hf) := by
              refine unhide HH true ?_
              rw [unhide HT, List.drop_eq_nil_of_le (by omega)]
              rfl
            clear HT HH
            go_wp2
            go_ret
            exact ⟨ret_bool (unhide HN), gw⟩
end Go.Proofs.YthbldkkjjjmegaaGreatDoor
/- The document's bare of layer 24. (By gen_ba.py.) -/
namespace Go.Proofs.YthbldkkjjjmegaaGreatDoor
set_option maxRecDepth 100000
open Go.RowKit

theorem TxC.nil (w : World) (ad : Option Addr) : TxC w ad [] := ⟨by simp, .inl rfl⟩
/-- Is a filter bare of those that are asked? -/
def barF (n v i : ByteArray) (a : List ByteArray) (f : ByteArray) (hi hf : Bool) (r : ByteArray) (d bn bv bp br : Bool) : Bool := (!bn || decide (n = ByteArray.empty)) && ((!bv || decide (v = ByteArray.empty)) && ((!br || (decide (r = ByteArray.empty) && !d)) && (!bp || smP i a f hi hf ByteArray.empty [] ByteArray.empty false false)))
theorem emp_no {a : ByteArray} (h : ¬ a = ByteArray.empty) : ¬ a.toList = [] ∧ a.toList.isEmpty = false ∧ (a.toList == []) = false := by
  have := txt_no h
  have e : ByteArray.empty.toList = [] := by rw [Lib.toList_data]; rfl
  rw [e] at this
  refine ⟨?_, ?_, this⟩
  · exact beq_eq_false_iff_ne.1 this
  · cases ht : a.toList
    · exact absurd ht (beq_eq_false_iff_ne.1 this)
    · rfl
set_option maxHeartbeats 12800000 in
theorem rbare_any (k : Int) (n v i : ByteArray) (a : List ByteArray) (f : ByteArray) (hi hf : Bool) (r : ByteArray) (d bn bv bp br : Bool) (a1 a2 : Option Addr) (c1 m2 c2 : Nat) (w : World) (ht : TxC w a1 a) : Calls Tryz.prog 57 #[vFl k n v i a1 a.length c1 f hi hf r d a2 m2 c2, .bool bn, .bool bv, .bool bp, .bool br] w fun x w' => x = .returned (.bool (barF n v i a f hi hf r d bn bv bp br)) ∧ Gr w w' := by
  have g0 := Gr.one w (.cells (cFl k n v i a1 a.length c1 f hi hf r d a2 m2 c2) 27)
  have CS : Hid (∀ W, Gr w W → Calls Tryz.prog 29 #[.agg #[.string i, .slice a1 a.length c1, .string f, .bool hi, .bool hf], .agg #[.string ByteArray.empty, .slice none 0 0, .string ByteArray.empty, .bool false, .bool false]] W fun x w' => x = .returned (.bool (smP i a f hi hf ByteArray.empty [] ByteArray.empty false false)) ∧ Gr W w') := fun W hW => rsame13_any i f ByteArray.empty ByteArray.empty hi hf false false a [] a1 none c1 0 W (ht.below hW.below) (TxC.nil _ _)
  clear ht
  cases bn
  · skip
    cases bv
    · skip
      cases br
      · skip
        cases bp
        · skip
          have HN : Hid (true = barF n v i a f hi hf r d false false false false) := by
            show _ = _
            unfold barF
            simp
          go_enter Tryz.func57, Tryz.ntmps57
          go_wp2
          go_ret
          exact ⟨ret_bool (unhide HN), g0⟩
        · skip
          have HN : Hid (smP i a f hi hf ByteArray.empty [] ByteArray.empty false false = barF n v i a f hi hf r d false false true false) := by
            show _ = _
            unfold barF
            simp
          generalize smP i a f hi hf ByteArray.empty [] ByteArray.empty false false = sm at *
          go_enter Tryz.func57, Tryz.ntmps57
          go_wp2_with (go_at_call 29; refine (unhide CS _ g0).mono ?_; rintro e w2 ⟨rfl, g2⟩)
          go_ret
          exact ⟨ret_bool (unhide HN), g0.trans g2⟩
      · by_cases er : r = ByteArray.empty
        · subst er
          cases d
          · skip
            cases bp
            · skip
              have HN : Hid (true = barF n v i a f hi hf ByteArray.empty false false false false true) := by
                show _ = _
                unfold barF
                simp
              go_enter Tryz.func57, Tryz.ntmps57
              go_wp2
              go_ret
              exact ⟨ret_bool (unhide HN), g0⟩
            · skip
              have HN : Hid (smP i a f hi hf ByteArray.empty [] ByteArray.empty false false = barF n v i a f hi hf ByteArray.empty false false false true true) := by
                show _ = _
                unfold barF
                simp
              generalize smP i a f hi hf ByteArray.empty [] ByteArray.empty false false = sm at *
              go_enter Tryz.func57, Tryz.ntmps57
              go_wp2_with (go_at_call 29; refine (unhide CS _ g0).mono ?_; rintro e w2 ⟨rfl, g2⟩)
              go_ret
              exact ⟨ret_bool (unhide HN), g0.trans g2⟩
          · skip
            have HN : Hid (false = barF n v i a f hi hf ByteArray.empty true false false bp true) := by
              show _ = _
              unfold barF
              simp
            go_enter Tryz.func57, Tryz.ntmps57
            go_wp2
            go_ret
            exact ⟨ret_bool (unhide HN), g0⟩
        · obtain ⟨qr, qr2, qr3⟩ := emp_no er
          have HN : Hid (false = barF n v i a f hi hf r d false false bp true) := by
            show _ = _
            unfold barF
            simp [er]
          go_enter Tryz.func57, Tryz.ntmps57
          go_wp2
          go_ret
          exact ⟨ret_bool (unhide HN), g0⟩
    · by_cases ev : v = ByteArray.empty
      · subst ev
        cases br
        · skip
          cases bp
          · skip
            have HN : Hid (true = barF n ByteArray.empty i a f hi hf r d false true false false) := by
              show _ = _
              unfold barF
              simp
            go_enter Tryz.func57, Tryz.ntmps57
            go_wp2
            go_ret
            exact ⟨ret_bool (unhide HN), g0⟩
          · skip
            have HN : Hid (smP i a f hi hf ByteArray.empty [] ByteArray.empty false false = barF n ByteArray.empty i a f hi hf r d false true true false) := by
              show _ = _
              unfold barF
              simp
            generalize smP i a f hi hf ByteArray.empty [] ByteArray.empty false false = sm at *
            go_enter Tryz.func57, Tryz.ntmps57
            go_wp2_with (go_at_call 29; refine (unhide CS _ g0).mono ?_; rintro e w2 ⟨rfl, g2⟩)
            go_ret
            exact ⟨ret_bool (unhide HN), g0.trans g2⟩
        · by_cases er : r = ByteArray.empty
          · subst er
            cases d
            · skip
              cases bp
              · skip
                have HN : Hid (true = barF n ByteArray.empty i a f hi hf ByteArray.empty false false true false true) := by
                  show _ = _
                  unfold barF
                  simp
                go_enter Tryz.func57, Tryz.ntmps57
                go_wp2
                go_ret
                exact ⟨ret_bool (unhide HN), g0⟩
              · skip
                have HN : Hid (smP i a f hi hf ByteArray.empty [] ByteArray.empty false false = barF n ByteArray.empty i a f hi hf ByteArray.empty false false true true true) := by
                  show _ = _
                  unfold barF
                  simp
                generalize smP i a f hi hf ByteArray.empty [] ByteArray.empty false false = sm at *
                go_enter Tryz.func57, Tryz.ntmps57
                go_wp2_with (go_at_call 29; refine (unhide CS _ g0).mono ?_; rintro e w2 ⟨rfl, g2⟩)
                go_ret
                exact ⟨ret_bool (unhide HN), g0.trans g2⟩
            · skip
              have HN : Hid (false = barF n ByteArray.empty i a f hi hf ByteArray.empty true false true bp true) := by
                show _ = _
                unfold barF
                simp
              go_enter Tryz.func57, Tryz.ntmps57
              go_wp2
              go_ret
              exact ⟨ret_bool (unhide HN), g0⟩
          · obtain ⟨qr, qr2, qr3⟩ := emp_no er
            have HN : Hid (false = barF n ByteArray.empty i a f hi hf r d false true bp true) := by
              show _ = _
              unfold barF
              simp [er]
            go_enter Tryz.func57, Tryz.ntmps57
            go_wp2
            go_ret
            exact ⟨ret_bool (unhide HN), g0⟩
      · obtain ⟨qv, qv2, qv3⟩ := emp_no ev
        have HN : Hid (false = barF n v i a f hi hf r d false true bp br) := by
          show _ = _
          unfold barF
          simp [ev]
        go_enter Tryz.func57, Tryz.ntmps57
        go_wp2
        go_ret
        exact ⟨ret_bool (unhide HN), g0⟩
  · by_cases en : n = ByteArray.empty
    · subst en
      cases bv
      · skip
        cases br
        · skip
          cases bp
          · skip
            have HN : Hid (true = barF ByteArray.empty v i a f hi hf r d true false false false) := by
              show _ = _
              unfold barF
              simp
            go_enter Tryz.func57, Tryz.ntmps57
            go_wp2
            go_ret
            exact ⟨ret_bool (unhide HN), g0⟩
          · skip
            have HN : Hid (smP i a f hi hf ByteArray.empty [] ByteArray.empty false false = barF ByteArray.empty v i a f hi hf r d true false true false) := by
              show _ = _
              unfold barF
              simp
            generalize smP i a f hi hf ByteArray.empty [] ByteArray.empty false false = sm at *
            go_enter Tryz.func57, Tryz.ntmps57
            go_wp2_with (go_at_call 29; refine (unhide CS _ g0).mono ?_; rintro e w2 ⟨rfl, g2⟩)
            go_ret
            exact ⟨ret_bool (unhide HN), g0.trans g2⟩
        · by_cases er : r = ByteArray.empty
          · subst er
            cases d
            · skip
              cases bp
              · skip
                have HN : Hid (true = barF ByteArray.empty v i a f hi hf ByteArray.empty false true false false true) := by
                  show _ = _
                  unfold barF
                  simp
                go_enter Tryz.func57, Tryz.ntmps57
                go_wp2
                go_ret
                exact ⟨ret_bool (unhide HN), g0⟩
              · skip
                have HN : Hid (smP i a f hi hf ByteArray.empty [] ByteArray.empty false false = barF ByteArray.empty v i a f hi hf ByteArray.empty false true false true true) := by
                  show _ = _
                  unfold barF
                  simp
                generalize smP i a f hi hf ByteArray.empty [] ByteArray.empty false false = sm at *
                go_enter Tryz.func57, Tryz.ntmps57
                go_wp2_with (go_at_call 29; refine (unhide CS _ g0).mono ?_; rintro e w2 ⟨rfl, g2⟩)
                go_ret
                exact ⟨ret_bool (unhide HN), g0.trans g2⟩
            · skip
              have HN : Hid (false = barF ByteArray.empty v i a f hi hf ByteArray.empty true true false bp true) := by
                show _ = _
                unfold barF
                simp
              go_enter Tryz.func57, Tryz.ntmps57
              go_wp2
              go_ret
              exact ⟨ret_bool (unhide HN), g0⟩
          · obtain ⟨qr, qr2, qr3⟩ := emp_no er
            have HN : Hid (false = barF ByteArray.empty v i a f hi hf r d true false bp true) := by
              show _ = _
              unfold barF
              simp [er]
            go_enter Tryz.func57, Tryz.ntmps57
            go_wp2
            go_ret
            exact ⟨ret_bool (unhide HN), g0⟩
      · by_cases ev : v = ByteArray.empty
        · subst ev
          cases br
          · skip
            cases bp
            · skip
              have HN : Hid (true = barF ByteArray.empty ByteArray.empty i a f hi hf r d true true false false) := by
                show _ = _
                unfold barF
                simp
              go_enter Tryz.func57, Tryz.ntmps57
              go_wp2
              go_ret
              exact ⟨ret_bool (unhide HN), g0⟩
            · skip
              have HN : Hid (smP i a f hi hf ByteArray.empty [] ByteArray.empty false false = barF ByteArray.empty ByteArray.empty i a f hi hf r d true true true false) := by
                show _ = _
                unfold barF
                simp
              generalize smP i a f hi hf ByteArray.empty [] ByteArray.empty false false = sm at *
              go_enter Tryz.func57, Tryz.ntmps57
              go_wp2_with (go_at_call 29; refine (unhide CS _ g0).mono ?_; rintro e w2 ⟨rfl, g2⟩)
              go_ret
              exact ⟨ret_bool (unhide HN), g0.trans g2⟩
          · by_cases er : r = ByteArray.empty
            · subst er
              cases d
              · skip
                cases bp
                · skip
                  have HN : Hid (true = barF ByteArray.empty ByteArray.empty i a f hi hf ByteArray.empty false true true false true) := by
                    show _ = _
                    unfold barF
                    simp
                  go_enter Tryz.func57, Tryz.ntmps57
                  go_wp2
                  go_ret
                  exact ⟨ret_bool (unhide HN), g0⟩
                · skip
                  have HN : Hid (smP i a f hi hf ByteArray.empty [] ByteArray.empty false false = barF ByteArray.empty ByteArray.empty i a f hi hf ByteArray.empty false true true true true) := by
                    show _ = _
                    unfold barF
                    simp
                  generalize smP i a f hi hf ByteArray.empty [] ByteArray.empty false false = sm at *
                  go_enter Tryz.func57, Tryz.ntmps57
                  go_wp2_with (go_at_call 29; refine (unhide CS _ g0).mono ?_; rintro e w2 ⟨rfl, g2⟩)
                  go_ret
                  exact ⟨ret_bool (unhide HN), g0.trans g2⟩
              · skip
                have HN : Hid (false = barF ByteArray.empty ByteArray.empty i a f hi hf ByteArray.empty true true true bp true) := by
                  show _ = _
                  unfold barF
                  simp
                go_enter Tryz.func57, Tryz.ntmps57
                go_wp2
                go_ret
                exact ⟨ret_bool (unhide HN), g0⟩
            · obtain ⟨qr, qr2, qr3⟩ := emp_no er
              have HN : Hid (false = barF ByteArray.empty ByteArray.empty i a f hi hf r d true true bp true) := by
                show _ = _
                unfold barF
                simp [er]
              go_enter Tryz.func57, Tryz.ntmps57
              go_wp2
              go_ret
              exact ⟨ret_bool (unhide HN), g0⟩
        · obtain ⟨qv, qv2, qv3⟩ := emp_no ev
          have HN : Hid (false = barF ByteArray.empty v i a f hi hf r d true true bp br) := by
            show _ = _
            unfold barF
            simp [ev]
          go_enter Tryz.func57, Tryz.ntmps57
          go_wp2
          go_ret
          exact ⟨ret_bool (unhide HN), g0⟩
    · obtain ⟨qn, qn2, qn3⟩ := emp_no en
      have HN : Hid (false = barF n v i a f hi hf r d true bv bp br) := by
        show _ = _
        unfold barF
        simp [en]
      go_enter Tryz.func57, Tryz.ntmps57
      go_wp2
      go_ret
      exact ⟨ret_bool (unhide HN), g0⟩
end Go.Proofs.YthbldkkjjjmegaaGreatDoor
