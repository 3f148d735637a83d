/- awake, and the law PrepSame: over the contracts. -/
import Derived.Test.YticgeabmhmojfaaGreatDoorM15
import Derived.Test.YticgeabmhmojfaaGreatDoorM04
import Derived.Test.YticgeabmhmojfaaGreatDoorRows
import Derived.ProofKit
import Derived.LaidMore
import Derived.Lay
import Derived.OpenShut
import Derived.ChangeSame
import Derived.ChangeArms
import Derived.Stop.Joined
namespace Go.Proofs.YticgeabmhmojfaaGreatDoor
set_option maxRecDepth 100000
open Go.RowKit

theorem below_next12 {a b c : World} (h : Below a.heap.size a b) (k : Below b.heap.size b c) : Below a.heap.size a c := h.trans (k.mono h.size)
set_option maxHeartbeats 2000000 in
theorem awake12 (w : World) (hL : L12 w) : Calls Tryz.prog 4 #[] w fun e w' => e = .returned (.bool true) ∧ Below w.heap.size w w' := by
  have H1 := hide (fun W hW => value_any 2 aw1 W hW (by omega) (by omega) aw1_ez.1)
  have H2 := hide (fun W hW => value_any 1 aw2 W hW (by omega) (by omega) aw2_ez.1)
  have H3 := hide (fun W hW => value_any 3 aw3 W hW (by omega) (by omega) aw3_ez.1)
  have H4 := hide (fun W hW => value_any 2 aw4 W hW (by omega) (by omega) aw4_ez.1)
  have H5 : Hid (∀ v W, L12 W → Strs W v [aw5, aw6] → Calls Tryz.prog 5 #[.int .i64 4, v] W fun e w' => e = .returned (.tuple #[.bool true, .int .i64 0]) ∧ Below W.heap.size W w') :=
    fun v W hW hv => same_yes 4 v [aw5, aw6] aw6 W hW (by omega) (by omega) (by simp) (fun j hj => by
      have hj' : j = 0 ∨ j = 1 := by simp at hj; omega
      rcases hj' with rfl | rfl
      · exact aw5_ez
      · exact aw6_ez) hv
  have H7 := hide (fun W hW => prepared_any 2 aw7 W hW (by omega) (by omega) aw7_ez.1 aw7_ez.2.1)
  have H8 := hide (fun W hW => prepared_any 2 aw8 W hW (by omega) (by omega) aw8_ez.1 aw8_ez.2.1)
  rw [aw1_ez.2.1, aw1_ez.2.2] at H1
  rw [aw2_ez.2.1, aw2_ez.2.2] at H2
  rw [aw3_ez.2.1, aw3_ez.2.2] at H3
  rw [aw4_ez.2.1, aw4_ez.2.2] at H4
  rw [aw7_ez.2.2, beq_self12] at H7
  rw [aw8_ez.2.2, aw78] at H8
  have HL := hide hL
  clear hL
  go_enter Tryz.func4, Tryz.ntmps4
  go_wp2_with (first
    | (go_at_call 9; refine (unhide H8 _ (unhide HL6)).mono ?_; rintro e w7 ⟨rfl, b7⟩; have t7 := below_next12 t6 b7)
    | (go_at_call 9; refine (unhide H7 _ (unhide HL5)).mono ?_; rintro e w6 ⟨rfl, b6⟩; have t6 := below_next12 t5 b6; have HL6 := hide ((unhide HL).keep t6))
    | (go_at_call 5; refine (unhide H5 _ _ (unhide HL4x) (strs_new w4 [aw5, aw6] _ _ rfl)).mono ?_; rintro e w5 ⟨rfl, b5⟩; have t5 := below_next12 t4x b5; have HL5 := hide ((unhide HL).keep t5))
    | (go_at_call 8; refine (unhide H4 _ (unhide HL3)).mono ?_; rintro e w4 ⟨rfl, b4⟩; have t4 := below_next12 t3 b4; have t4x := t4.alloc t4.size (.cells #[.string aw5, .string aw6] 9); have HL4x := hide ((unhide HL).keep t4x))
    | (go_at_call 8; refine (unhide H3 _ (unhide HL2)).mono ?_; rintro e w3 ⟨rfl, b3⟩; have t3 := below_next12 t2 b3; have HL3 := hide ((unhide HL).keep t3))
    | (go_at_call 8; refine (unhide H2 _ (unhide HL1)).mono ?_; rintro e w2 ⟨rfl, b2⟩; have t2 := below_next12 t1 b2; have HL2 := hide ((unhide HL).keep t2))
    | (go_at_call 8; refine (unhide H1 _ (unhide HL)).mono ?_; rintro e w1 ⟨rfl, t1⟩; have HL1 := hide ((unhide HL).keep t1)))
  go_ret
  exact ⟨rfl, t7⟩

/-- The text in great letters. -/
def upS (s : ByteArray) : ByteArray := strOfNums ((nums s).map up)
theorem upS_nums {s : ByteArray} (h : Asc (nums s)) : nums (upS s) = (nums s).map up := nums_strOfNums _ fun x hx => by
  have := asc_up h x hx
  omega
theorem upS_size {s : ByteArray} (h : Asc (nums s)) : (upS s).size = s.size := by rw [← nums_length, upS_nums h, List.length_map, nums_length]
/-- The three texts are the same, folded. -/
theorem easy_up {s : ByteArray} (h : Asc (nums s)) (hs : s.size ≤ 150) : Ez 2 (upS s) ∧ vE 2 (upS s) = 0 ∧ vS 2 (upS s) = encS (frL 2 (mapL (foW 2) (nums s))) := by
  have h1 : Asc (nums (upS s)) := by rw [upS_nums h]; exact asc_up h
  have := easy_asc 2 h1 (by rw [upS_size h]; exact hs)
  rw [upS_nums h, show foW 2 = true from rfl, map_up h] at this
  exact this
theorem easy_usp {s t : ByteArray} (h : Asc (nums s)) (hs : s.size ≤ 150) (ht : nums t = encL (spL (nums (upS s)))) : Ez 2 t ∧ vE 2 t = 0 ∧ vS 2 t = encS (frL 2 (mapL (foW 2) (nums s))) := by
  have h1 : Asc (nums (upS s)) := by rw [upS_nums h]; exact asc_up h
  have := easy_sp 2 h1 (by rw [upS_size h]; exact hs) ht
  rw [upS_nums h, show foW 2 = true from rfl, map_up h] at this
  exact this

set_option maxHeartbeats 2000000 in
/-- A text of ASCII: both calls of Same tell yes. -/
theorem same_walk (way : Int) (s : ByteArray) (w : World) (hL : L12 w) (h0 : 1 ≤ way) (h1 : way ≤ 4) (hs : s.size ≤ 150) (ha : Asc (nums s)) :
    Calls Tryz.prog 3 #[.int .i64 way, .string s] w fun e w' => e = .returned (.bool true) ∧ Below w.heap.size w w' := by
  have HSP : Hid (∀ W, Calls Tryz.prog 6 #[.string s] W fun e w' => ∃ t, e = .returned (.string t) ∧ nums t = encL (spL (nums s)) ∧ W = w') :=
    fun W => (spaced_any s W (by omega)).mono fun e w' ⟨t, he, ht, hw⟩ => ⟨t, he, by rw [ht, spB_enc ha], hw⟩
  have HUP : Hid (∀ W, Calls Tryz.prog 7 #[.string s] W fun e w' => e = .returned (.string (upS s)) ∧ Below W.heap.size W w') := fun W => upS_any s W (by omega)
  have hau : Asc (nums (upS s)) := by rw [upS_nums ha]; exact asc_up ha
  have HSU : Hid (∀ W, Calls Tryz.prog 6 #[.string (upS s)] W fun e w' => ∃ t, e = .returned (.string t) ∧ nums t = encL (spL (nums (upS s))) ∧ W = w') :=
    fun W => (spaced_any (upS s) W (by rw [upS_size ha]; omega)).mono fun e w' ⟨t, he, ht, hw⟩ => ⟨t, he, by rw [ht, spB_enc hau], hw⟩
  have HS1 : Hid (∀ v t W, nums t = encL (spL (nums s)) → L12 W → Strs W v [s, t] → Calls Tryz.prog 5 #[.int .i64 way, v] W fun e w' => e = .returned (.tuple #[.bool true, .int .i64 0]) ∧ Below W.heap.size W w') :=
    fun v t W ht hW hv => same_yes way v [s, t] _ W hW h0 h1 (by simp) (fun j hj => by
      have hj' : j = 0 ∨ j = 1 := by simp at hj; omega
      rcases hj' with rfl | rfl
      · exact easy_asc way ha hs
      · exact easy_sp way ha hs ht) hv
  have HS2 : Hid (∀ v t W, nums t = encL (spL (nums (upS s))) → L12 W → Strs W v [s, upS s, t] → Calls Tryz.prog 5 #[.int .i64 2, v] W fun e w' => e = .returned (.tuple #[.bool true, .int .i64 0]) ∧ Below W.heap.size W w') :=
    fun v t W ht hW hv => same_yes 2 v [s, upS s, t] _ W hW (by omega) (by omega) (by simp) (fun j hj => by
      have hj' : j = 0 ∨ j = 1 ∨ j = 2 := by simp at hj; omega
      rcases hj' with rfl | rfl | rfl
      · exact easy_asc 2 ha hs
      · exact easy_up ha hs
      · exact easy_usp ha hs ht) hv
  have HAW := hide awake12
  have HL := hide hL
  have z1 : ¬ (150 : Int) < (s.size : Int) := by omega
  have z1' : decide ((150 : Int) < (s.size : Int)) = false := by simp; omega
  have z2 : decide (way < 1) = false := by simp; omega
  have z3 : decide (way > 4) = false := by simp; omega
  have z3' : decide (4 < way) = false := by simp; omega
  have HAS : Hid (∀ k (h : k < s.size), 32 ≤ (s[k].toNat : Int) ∧ (s[k].toNat : Int) < 128) := fun k h => by
    rw [← nums_at s k h]
    exact ha _ (by have : k < (nums s).length := by rw [nums_length]; exact h
                   simp [List.getD, this])
  clear hL ha hau
  generalize upS s = u at *
  go_enter Tryz.func3, Tryz.ntmps3
  go_wp2
  go_loop [5] (fun i => ∃ k : Nat, k ≤ s.size ∧ i = .int .i64 (k : Int)) (fun i => s.size - (intOf i).toNat)
  case atStart => exact ⟨0, Nat.zero_le _, rfl⟩
  case round =>
    obtain ⟨k, hk, rfl⟩ := hrel
    by_cases hlt : k < s.size
    · have hzl : (k : Int) < (s.size : Int) := by omega
      have hz0 : (0 : Int) ≤ (k : Int) := by omega
      obtain ⟨a1, a2⟩ := unhide HAS k hlt
      have b1 : decide ((s[k].toNat : Int) ≥ 128) = false := by simp; omega
      have b1' : decide (128 ≤ (s[k].toNat : Int)) = false := by simp; omega
      have b2 : decide ((s[k].toNat : Int) < 32) = false := by simp; omega
      clear HSP HUP HSU HS1 HS2 HAW HL HAS a1 a2
      go_wp2
      go_round
      case rel => exact ⟨k + 1, by omega, by go_num⟩
      case measure => simp [intOf]; omega
    · have hzl : ¬ (k : Int) < (s.size : Int) := by omega
      clear HAS
      go_wp2_with (first
        | (go_at_call 4; refine (unhide HAW _ (unhide HL5)).mono ?_; rintro e w6 ⟨rfl, b6⟩; have t6 := below_next12 t5 b6)
        | (go_at_call 5; refine (unhide HS2 _ t2 _ (unhide HT2) (unhide HL4x) (strs_new w4 [s, u, t2] _ _ rfl)).mono ?_; rintro e w5 ⟨rfl, b5⟩; have t5 := below_next12 t4x b5; have HL5 := hide ((unhide HL).keep t5))
        | (go_at_call_of 6 (u); refine (unhide HSU _).mono ?_; rintro e w9 ⟨t2, rfl, ht2, rfl⟩; have HT2 := hide ht2; clear ht2; have t4x := t4.alloc t4.size (.cells #[.string s, .string u, .string t2] 9); have HL4x := hide ((unhide HL).keep t4x))
        | (go_at_call 7; refine (unhide HUP w3).mono ?_; rintro e w4 ⟨rfl, b4⟩; have t4 := below_next12 t3 b4)
        | (go_at_call 7; refine (unhide HUP w2).mono ?_; rintro e w3 ⟨rfl, b3⟩; have t3 := below_next12 t2' b3)
        | (go_at_call 5; refine (unhide HS1 _ t1 _ (unhide HT1) (unhide HL1x) (strs_new w [s, t1] _ _ rfl)).mono ?_; rintro e w2 ⟨rfl, b2⟩; have t2' := below_next12 t1x b2)
        | (go_at_call 6; refine (unhide HSP _).mono ?_; rintro e w8 ⟨t1, rfl, ht1, rfl⟩; have HT1 := hide ht1; clear ht1; have t1x := Below.one w (.cells #[.string s, .string t1] 9); have HL1x := hide ((unhide HL).keep t1x)))
      go_ret
      exact ⟨rfl, t6⟩
set_option maxHeartbeats 2000000 in
/-- A text that has another byte: the probe alone. -/
theorem same_other (way : Int) (s : ByteArray) (w : World) (hL : L12 w) (h0 : 1 ≤ way) (h1 : way ≤ 4) (hs : s.size ≤ 150) (m : Nat) (hm : m < s.size) (hbad : ¬ (32 ≤ (s[m].toNat : Int) ∧ (s[m].toNat : Int) < 128)) :
    Calls Tryz.prog 3 #[.int .i64 way, .string s] w fun e w' => e = .returned (.bool true) ∧ Below w.heap.size w w' := by
  have HAW := hide (awake12 w hL)
  have z1 : ¬ (150 : Int) < (s.size : Int) := by omega
  have z1' : decide ((150 : Int) < (s.size : Int)) = false := by simp; omega
  have z2 : decide (way < 1) = false := by simp; omega
  have z3 : decide (way > 4) = false := by simp; omega
  have z3' : decide (4 < way) = false := by simp; omega
  have HB := hide hbad
  clear hL hbad
  go_enter Tryz.func3, Tryz.ntmps3
  go_wp2
  go_loop [5] (fun i => ∃ k : Nat, k ≤ m ∧ i = .int .i64 (k : Int)) (fun i => s.size - (intOf i).toNat)
  case atStart => exact ⟨0, Nat.zero_le _, rfl⟩
  case round =>
    obtain ⟨k, hk, rfl⟩ := hrel
    have hlt : k < s.size := by omega
    have hzl : (k : Int) < (s.size : Int) := by omega
    have hz0 : (0 : Int) ≤ (k : Int) := by omega
    by_cases c1 : (128 : Int) ≤ (s[k].toNat : Int)
    · have b1 : decide ((s[k].toNat : Int) ≥ 128) = true := by simp; omega
      have b1' : decide (128 ≤ (s[k].toNat : Int)) = true := by simp; omega
      go_wp2_with (go_at_call 4; refine (unhide HAW).mono ?_; rintro e w6 ⟨rfl, b6⟩)
      go_ret
      exact ⟨rfl, b6⟩
    · have b1 : decide ((s[k].toNat : Int) ≥ 128) = false := by simp; omega
      have b1' : decide (128 ≤ (s[k].toNat : Int)) = false := by simp; omega
      by_cases c2 : (s[k].toNat : Int) < 32
      · have b2 : decide ((s[k].toNat : Int) < 32) = true := by simp; omega
        go_wp2_with (go_at_call 4; refine (unhide HAW).mono ?_; rintro e w6 ⟨rfl, b6⟩)
        go_ret
        exact ⟨rfl, b6⟩
      · have b2 : decide ((s[k].toNat : Int) < 32) = false := by simp; omega
        have hkm : k < m := by
          rcases Nat.lt_or_ge k m with h | h
          · exact h
          · obtain rfl : k = m := by omega
            exact absurd ⟨by omega, by omega⟩ (unhide HB)
        clear HAW HB
        go_wp2
        go_round
        case rel => exact ⟨k + 1, by omega, by go_num⟩
        case measure => simp [intOf]; omega
set_option maxHeartbeats 2000000 in
theorem same_out (way : Int) (s : ByteArray) (w : World) (hL : L12 w) (h : 150 < s.size ∨ way < 1 ∨ 4 < way) :
    Calls Tryz.prog 3 #[.int .i64 way, .string s] w fun e w' => e = .returned (.bool true) ∧ Below w.heap.size w w' := by
  have HAW := hide (awake12 w hL)
  clear hL
  by_cases h1 : 150 < s.size
  · have z1 : (150 : Int) < (s.size : Int) := by omega
    have z1' : decide ((150 : Int) < (s.size : Int)) = true := by simp; omega
    go_enter Tryz.func3, Tryz.ntmps3
    go_wp2_with (go_at_call 4; refine (unhide HAW).mono ?_; rintro e w6 ⟨rfl, b6⟩)
    go_ret
    exact ⟨rfl, b6⟩
  · have z1 : ¬ (150 : Int) < (s.size : Int) := by omega
    have z1' : decide ((150 : Int) < (s.size : Int)) = false := by simp; omega
    by_cases h2 : way < 1
    · have z2 : decide (way < 1) = true := by simp; omega
      go_enter Tryz.func3, Tryz.ntmps3
      go_wp2_with (go_at_call 4; refine (unhide HAW).mono ?_; rintro e w6 ⟨rfl, b6⟩)
      go_ret
      exact ⟨rfl, b6⟩
    · have z2 : decide (way < 1) = false := by simp; omega
      have h3 : 4 < way := by omega
      have z3 : decide (way > 4) = true := by simp; omega
      have z3' : decide (4 < way) = true := by simp; omega
      go_enter Tryz.func3, Tryz.ntmps3
      go_wp2_with (go_at_call 4; refine (unhide HAW).mono ?_; rintro e w6 ⟨rfl, b6⟩)
      go_ret
      exact ⟨rfl, b6⟩
theorem same12_law (way : Int) (s : ByteArray) (w : World) (hL : L12 w) :
    Calls Tryz.prog 3 #[.int .i64 way, .string s] w fun e w' => e = .returned (.bool true) ∧ Below w.heap.size w w' := by
  by_cases h : 150 < s.size ∨ way < 1 ∨ 4 < way
  · exact same_out way s w hL h
  · by_cases ha : Asc (nums s)
    · exact same_walk way s w hL (by omega) (by omega) (by omega) ha
    · have : ∃ m, ∃ hm : m < s.size, ¬ (32 ≤ (s[m].toNat : Int) ∧ (s[m].toNat : Int) < 128) := by
        apply Classical.byContradiction
        intro hn
        refine ha fun x hx => ?_
        obtain ⟨j, hj, hjx⟩ := List.getElem_of_mem hx
        have hj' : j < s.size := by rwa [nums_length] at hj
        have e : x = (s[j].toNat : Int) := by
          rw [← nums_at s j hj', ← hjx]
          simp [List.getD, hj]
        apply Classical.byContradiction
        intro hx2
        exact hn ⟨j, hj', by rw [← e]; exact hx2⟩
      obtain ⟨m, hm, hb⟩ := this
      exact same_other way s w hL (by omega) (by omega) (by omega) m hm hb
end Go.Proofs.YticgeabmhmojfaaGreatDoor
/- From what the row lists to the walks' facts: the tables of hangul, fold, decomp and compose. -/
namespace Go.Proofs.YticgeabmhmojfaaGreatDoor
set_option maxRecDepth 100000
open Go.ChangeShapes Go.WideShapes Go.ChangeAt Go.RowKit

def lst : List (String × DataW Unit) := Rows.prepSameRow.laid
def nm12 (k : Nat) : String := (lst.map (·.1)).getD k ""
theorem laid_at {P : Program} {w : World} : ∀ {l : List (String × DataW Unit)} {ps : List MemPlace}, DataW.LaidVars P w l ps → ∀ {k : Nat} {n : String} {d : DataW Unit}, l[k]? = some (n, d) →
    ∃ g t cs fuel p, P.globalNamed n = some g ∧ (P.globals[g]?).map (·.type) = some t ∧ w.var? P n = some cs ∧ DataW.trod (fun _ => ()) P w 0 (fun _ => true) false fuel t cs.toList = some (d, p)
  | [], _, _, _, _, _, h => by simp at h
  | (n0, d0) :: r, ps, hl, k, n, d, h => by
    obtain ⟨g, t, cs, fuel, p, q, h1, h2, h3, h4, h5, _⟩ := hl
    cases k with
    | zero =>
      simp only [List.getElem?_cons_zero, Option.some.injEq, Prod.mk.injEq] at h
      obtain ⟨rfl, rfl⟩ := h
      exact ⟨g, t, cs, fuel, p, h1, h2, h3, h4⟩
    | succ k =>
      rw [List.getElem?_cons_succ] at h
      exact laid_at h5 h
theorem block_of {P : Program} {w : World} {n : String} {g : Nat} {cs : Array Value} (hg : P.globalNamed n = some g) (hv : w.var? P n = some cs) : ∃ t fr, w.heap[g]? = some (.cells cs t fr) := by
  simp only [World.var?, hg, Option.bind_some] at hv
  cases hw : w.heap[g]? with
  | none => rw [hw] at hv; cases hv
  | some ob =>
    rw [hw] at hv
    cases ob with
    | cells c t fr =>
      dsimp only at hv
      obtain rfl := Option.some.inj hv
      exact ⟨t, fr, rfl⟩
    | _ => cases hv
theorem l12cells1 : Tryz.prog.cellsOf 21 = 1 := by kernel_rfl
theorem l12cells4 : Tryz.prog.cellsOf 64 = 4 := by kernel_rfl
theorem l12cells56 : Tryz.prog.cellsOf 65 = 56 := by kernel_rfl
def lit4 {H : Type} (o : Fo) : DataW H := .agg [.lit (.int .i32 o.f), .lit (.int .i32 o.t), .lit (.int .i32 o.s), .lit (.int .i32 o.u)]
theorem laid_is : (Rows.laid_toponym_fold_stretches : DataW Unit) = .agg (sts9.map lit4) := by kernel_rfl

theorem len4 {α : Type} (l : List α) (h : l.length = 4) : ∃ a b c d, l = [a, b, c, d] := by
  match l, h with
  | [a, b, c, d], _ => exact ⟨a, b, c, d, rfl⟩
/-- One element of the table. -/
theorem st_of {H : Type} {enc : TypeId × Value → H} {w : World} {base : Nat} {spare : Nat → Bool} {held : Bool} {m : Nat} {cs : List Value} {o : Fo} {q : List MemPlace}
    (h : DataW.trod enc Tryz.prog w base spare held m 64 cs = some (lit4 o, q)) : cs = foc4 o := by
  obtain ⟨xs, n, _, hx, hl, hlen, hf⟩ := DataW.trod_struct Tryz.underlying64 h
  rw [l12cells4] at hl
  obtain ⟨c0, c1, c2, c3, rfl⟩ := len4 cs hl
  obtain ⟨y0, y1, y2, y3, rfl⟩ := len4 xs hlen
  have h0 : DataW.trod enc Tryz.prog w base spare held n 21 (([c0, c1, c2, c3].drop 0).take (Tryz.prog.cellsOf 21)) = some y0 := hf 0 _ rfl
  have h1 : DataW.trod enc Tryz.prog w base spare held n 21 (([c0, c1, c2, c3].drop 1).take (Tryz.prog.cellsOf 21)) = some y1 := hf 1 _ rfl
  have h2 : DataW.trod enc Tryz.prog w base spare held n 21 (([c0, c1, c2, c3].drop 2).take (Tryz.prog.cellsOf 21)) = some y2 := hf 2 _ rfl
  have h3 : DataW.trod enc Tryz.prog w base spare held n 21 (([c0, c1, c2, c3].drop 3).take (Tryz.prog.cellsOf 21)) = some y3 := hf 3 _ rfl
  obtain ⟨i0, e0, e0', _⟩ := DataW.trod_int Tryz.underlying21 h0
  obtain ⟨i1, e1, e1', _⟩ := DataW.trod_int Tryz.underlying21 h1
  obtain ⟨i2, e2, e2', _⟩ := DataW.trod_int Tryz.underlying21 h2
  obtain ⟨i3, e3, e3', _⟩ := DataW.trod_int Tryz.underlying21 h3
  subst e0' e1' e2' e3'
  rw [l12cells1] at e0 e1 e2 e3
  simp [lit4] at hx
  simp at e0 e1 e2 e3
  unfold foc4
  rw [e0, e1, e2, e3, hx.1.1, hx.1.2.1, hx.1.2.2.1, hx.1.2.2.2]
theorem flat_of (L : List Fo) : ∀ l : List Value, l.length = 4 * L.length → (∀ i, i < L.length → (l.drop (i * 4)).take 4 = foc4 (L.getD i fo0)) → l = L.flatMap foc4 := by
  induction L with
  | nil => intro l hl _; exact List.eq_nil_of_length_eq_zero hl
  | cons o L ih =>
    intro l hl h
    have h0 := h 0 (by simp)
    rw [Nat.zero_mul, List.drop_zero] at h0
    have e0 : (o :: L).getD 0 fo0 = o := rfl
    rw [e0] at h0
    rw [List.flatMap_cons, ← h0, ← ih (l.drop 4) (by rw [List.length_drop, hl, List.length_cons]; omega) (fun i hi => ?_), List.take_append_drop]
    have h1 := h (i + 1) (by simpa using hi)
    have e1 : (o :: L).getD (i + 1) fo0 = L.getD i fo0 := rfl
    rw [e1] at h1
    rw [List.drop_drop, show 4 + i * 4 = (i + 1) * 4 by omega]
    exact h1

theorem l12at0 : lst[0]? = some (nm12 0, Rows.laid_toponym_hangul_parts) := by kernel_rfl
theorem l12at2 : lst[2]? = some (nm12 2, Rows.laid_toponym_fold_stretches) := by kernel_rfl
theorem l12at4 : lst[4]? = some (nm12 4, Rows.laid_toponym_decomp_ligatures) := by kernel_rfl
theorem l12at5 : lst[5]? = some (nm12 5, Rows.laid_toponym_compose_scripts) := by kernel_rfl
theorem l12g0 : Tryz.prog.globalNamed (nm12 0) = some 4 := by kernel_rfl
theorem l12g2 : Tryz.prog.globalNamed (nm12 2) = some 0 := by kernel_rfl
theorem l12g4 : Tryz.prog.globalNamed (nm12 4) = some 2 := by kernel_rfl
theorem l12g5 : Tryz.prog.globalNamed (nm12 5) = some 3 := by kernel_rfl
theorem l12ty0 : (Tryz.prog.globals[4]?).map (·.type) = some 113 := by kernel_rfl
theorem l12ty2 : (Tryz.prog.globals[0]?).map (·.type) = some 65 := by kernel_rfl
theorem l12ty4 : (Tryz.prog.globals[2]?).map (·.type) = some 105 := by kernel_rfl
theorem l12ty5 : (Tryz.prog.globals[3]?).map (·.type) = some 108 := by kernel_rfl
theorem l12cellsH : Tryz.prog.cellsOf 112 = 2 := by kernel_rfl
theorem l12cellsH3 : Tryz.prog.cellsOf 113 = 6 := by kernel_rfl
theorem l12cellsS : Tryz.prog.cellsOf 107 = 2 := by kernel_rfl
theorem l12cellsS4 : Tryz.prog.cellsOf 108 = 8 := by kernel_rfl
theorem l12cellsT : Tryz.prog.cellsOf 9 = 1 := by kernel_rfl
theorem l12cellsT6 : Tryz.prog.cellsOf 105 = 6 := by kernel_rfl

section
variable {H : Type} {enc : TypeId × Value → H} {w : World} {base : Nat} {spare : Nat → Bool} {held : Bool} {m : Nat}
theorem stretch_of {c d : Value} {a b : Int} {q : List MemPlace} (h : DataW.trod enc Tryz.prog w base spare held m 112 [c, d] = some (.agg [.lit (.int .i32 a), .lit (.int .i32 b)], q)) : c = .int .i32 a ∧ d = .int .i32 b := by
  obtain ⟨y0, y1, n, hx, _, h0, h1⟩ := trod_struct2 Tryz.underlying112 h
  obtain ⟨i, e0, e0', _⟩ := DataW.trod_int Tryz.underlying21 h0
  obtain ⟨j, e1, e1', _⟩ := DataW.trod_int Tryz.underlying21 h1
  rw [e0', e1'] at hx
  simp at hx
  rw [l12cells1] at e0 e1
  simp at e0 e1
  exact ⟨by rw [e0, hx.1.1], by rw [e1, hx.1.2]⟩
theorem script_of {c d : Value} {a b : Int} {q : List MemPlace} (h : DataW.trod enc Tryz.prog w base spare held m 107 [c, d] = some (.agg [.lit (.int .i32 a), .lit (.int .i32 b)], q)) : c = .int .i32 a ∧ d = .int .i32 b := by
  obtain ⟨y0, y1, n, hx, _, h0, h1⟩ := trod_struct2 Tryz.underlying107 h
  obtain ⟨i, e0, e0', _⟩ := DataW.trod_int Tryz.underlying21 h0
  obtain ⟨j, e1, e1', _⟩ := DataW.trod_int Tryz.underlying21 h1
  rw [e0', e1'] at hx
  simp at hx
  rw [l12cells1] at e0 e1
  simp at e0 e1
  exact ⟨by rw [e0, hx.1.1], by rw [e1, hx.1.2]⟩
theorem text_of {c : Value} {l : List UInt8} {q : List MemPlace} (h : DataW.trod enc Tryz.prog w base spare held m 9 [c] = some (.lit (.string l), q)) : c = .string ⟨l.toArray⟩ := by
  obtain ⟨s, e0, e1, _⟩ := DataW.trod_string Tryz.underlying9 h
  simp at e0 e1
  rw [e0, e1.1]
end

theorem lay_of {W : World} {cs : Array Value} {fuel : Nat} {p : List MemPlace} (hv : W.var? Tryz.prog (nm12 0) = some cs) (hd : DataW.trod (fun _ => ()) Tryz.prog W 0 (fun _ => true) false fuel 113 cs.toList = some (Rows.laid_toponym_hangul_parts, p)) : Lay W := by
  obtain ⟨xs, m1, rfl, hx1, hlen, hn3, hel⟩ := DataW.trod_array Tryz.underlying113 hd
  have hc := fun j => World.var?_cell l12g0 hv j
  obtain ⟨l1⟩ := cs
  rw [l12cellsH3] at hlen
  match l1, hlen with
  | [c0, c1, c2, c3, c4, c5], _ =>
    match xs, hn3, hx1, hel with
    | [x0, x1, x2], _, hx1, hel =>
      have e0 := hel 0 (by decide)
      have e1 := hel 1 (by decide)
      have e2 := hel 2 (by decide)
      rw [l12cellsH] at e0 e1 e2
      simp only [Prod.mk.injEq, Rows.laid_toponym_hangul_parts, DataW.agg.injEq, List.map_cons, List.map_nil, List.cons.injEq, and_true] at hx1
      obtain ⟨y0, z0⟩ := x0
      obtain ⟨y1, z1⟩ := x1
      obtain ⟨y2, z2⟩ := x2
      obtain ⟨⟨k0, k1, k2⟩, _⟩ := hx1
      dsimp only at k0 k1 k2
      subst k0 k1 k2
      obtain ⟨rfl, rfl⟩ := stretch_of (show DataW.trod _ _ _ _ _ _ _ _ [c0, c1] = some _ from e0)
      obtain ⟨rfl, rfl⟩ := stretch_of (show DataW.trod _ _ _ _ _ _ _ _ [c2, c3] = some _ from e1)
      obtain ⟨rfl, rfl⟩ := stretch_of (show DataW.trod _ _ _ _ _ _ _ _ [c4, c5] = some _ from e2)
      refine ⟨?_, ?_, ?_, ?_, ?_, ?_⟩
      · simpa using hc 0
      · simpa using hc 1
      · simpa using hc 2
      · simpa using hc 3
      · simpa using hc 4
      · simpa using hc 5
theorem scr_of {W : World} {cs : Array Value} {fuel : Nat} {p : List MemPlace} (hd : DataW.trod (fun _ => ()) Tryz.prog W 0 (fun _ => true) false fuel 108 cs.toList = some (Rows.laid_toponym_compose_scripts, p)) : cs = scrs := by
  obtain ⟨xs, m1, rfl, hx1, hlen, hn3, hel⟩ := DataW.trod_array Tryz.underlying108 hd
  obtain ⟨l1⟩ := cs
  rw [l12cellsS4] at hlen
  match l1, hlen with
  | [c0, c1, c2, c3, c4, c5, c6, c7], _ =>
    match xs, hn3, hx1, hel with
    | [x0, x1, x2, x3], _, hx1, hel =>
      have e0 := hel 0 (by decide)
      have e1 := hel 1 (by decide)
      have e2 := hel 2 (by decide)
      have e3 := hel 3 (by decide)
      rw [l12cellsS] at e0 e1 e2 e3
      simp only [Prod.mk.injEq, Rows.laid_toponym_compose_scripts, DataW.agg.injEq, List.map_cons, List.map_nil, List.cons.injEq, and_true] at hx1
      obtain ⟨y0, z0⟩ := x0
      obtain ⟨y1, z1⟩ := x1
      obtain ⟨y2, z2⟩ := x2
      obtain ⟨y3, z3⟩ := x3
      obtain ⟨⟨k0, k1, k2, k3⟩, _⟩ := hx1
      dsimp only at k0 k1 k2 k3
      subst k0 k1 k2 k3
      obtain ⟨rfl, rfl⟩ := script_of (show DataW.trod _ _ _ _ _ _ _ _ [c0, c1] = some _ from e0)
      obtain ⟨rfl, rfl⟩ := script_of (show DataW.trod _ _ _ _ _ _ _ _ [c2, c3] = some _ from e1)
      obtain ⟨rfl, rfl⟩ := script_of (show DataW.trod _ _ _ _ _ _ _ _ [c4, c5] = some _ from e2)
      obtain ⟨rfl, rfl⟩ := script_of (show DataW.trod _ _ _ _ _ _ _ _ [c6, c7] = some _ from e3)
      rfl
theorem lig_of {W : World} {cs : Array Value} {fuel : Nat} {p : List MemPlace} (hd : DataW.trod (fun _ => ()) Tryz.prog W 0 (fun _ => true) false fuel 105 cs.toList = some (Rows.laid_toponym_decomp_ligatures, p)) : cs = ligs := by
  obtain ⟨xs, m1, rfl, hx1, hlen, hn3, hel⟩ := DataW.trod_array Tryz.underlying105 hd
  obtain ⟨l1⟩ := cs
  rw [l12cellsT6] at hlen
  match l1, hlen with
  | [c0, c1, c2, c3, c4, c5], _ =>
    match xs, hn3, hx1, hel with
    | [x0, x1, x2, x3, x4, x5], _, hx1, hel =>
      have e0 := hel 0 (by decide)
      have e1 := hel 1 (by decide)
      have e2 := hel 2 (by decide)
      have e3 := hel 3 (by decide)
      have e4 := hel 4 (by decide)
      have e5 := hel 5 (by decide)
      rw [l12cellsT] at e0 e1 e2 e3 e4 e5
      simp only [Prod.mk.injEq, Rows.laid_toponym_decomp_ligatures, DataW.agg.injEq, List.map_cons, List.map_nil, List.cons.injEq, and_true] at hx1
      obtain ⟨y0, z0⟩ := x0
      obtain ⟨y1, z1⟩ := x1
      obtain ⟨y2, z2⟩ := x2
      obtain ⟨y3, z3⟩ := x3
      obtain ⟨y4, z4⟩ := x4
      obtain ⟨y5, z5⟩ := x5
      obtain ⟨⟨k0, k1, k2, k3, k4, k5⟩, _⟩ := hx1
      dsimp only at k0 k1 k2 k3 k4 k5
      subst k0 k1 k2 k3 k4 k5
      obtain rfl := text_of (show DataW.trod _ _ _ _ _ _ _ _ [c0] = some _ from e0)
      obtain rfl := text_of (show DataW.trod _ _ _ _ _ _ _ _ [c1] = some _ from e1)
      obtain rfl := text_of (show DataW.trod _ _ _ _ _ _ _ _ [c2] = some _ from e2)
      obtain rfl := text_of (show DataW.trod _ _ _ _ _ _ _ _ [c3] = some _ from e3)
      obtain rfl := text_of (show DataW.trod _ _ _ _ _ _ _ _ [c4] = some _ from e4)
      obtain rfl := text_of (show DataW.trod _ _ _ _ _ _ _ _ [c5] = some _ from e5)
      rfl
theorem st_all {W : World} {cs : Array Value} {fuel : Nat} {p : List MemPlace} (hd : DataW.trod (fun _ => ()) Tryz.prog W 0 (fun _ => true) false fuel 65 cs.toList = some (Rows.laid_toponym_fold_stretches, p)) : cs = arr9 := by
  obtain ⟨xs, m1, rfl, hx1, hlen, hn, hel⟩ := DataW.trod_array Tryz.underlying65 hd
  rw [l12cells56] at hlen
  rw [laid_is] at hx1
  have hxs : sts9.map lit4 = xs.map (·.1) := by
    have := congrArg Prod.fst hx1
    simpa using this
  have hcs : cs.toList = sts9.flatMap foc4 := by
    refine flat_of sts9 _ (by rw [hlen]; rfl) fun i hi => ?_
    have hi' : i < 14 := hi
    have e := hel i hi'
    rw [l12cells4] at e
    have hxi : i < xs.length := by omega
    have ei : (xs[i]).1 = lit4 (sts9.getD i fo0) := by
      have h1 : (xs.map (·.1))[i]? = some (lit4 (sts9.getD i fo0)) := by rw [← hxs]; simp [List.getD, hi]
      simpa [hxi] using h1
    rw [List.getElem?_eq_getElem hxi] at e
    refine st_of (q := (xs[i]).2) (e.trans ?_)
    rw [← ei]
  unfold arr9
  rw [← hcs]
theorem of_laid {W : World} (h : laidMetH Tryz.prog lst W) : L12 W := by
  rw [MakeChecks.laidMetH_plain _ _ _ (by kernel_rfl)] at h
  obtain ⟨ps, hv, _, _⟩ := h
  obtain ⟨ga, ta, ca, fa, pa, a1, a2, a3, a4⟩ := laid_at hv l12at0
  obtain ⟨gb, tb, cb, fb, pb, b1, b2, b3, b4⟩ := laid_at hv l12at2
  obtain ⟨gc, tc, cc, fc, pc, c1, c2, c3, c4⟩ := laid_at hv l12at4
  obtain ⟨gd, td, cd, fd, pd, d1, d2, d3, d4⟩ := laid_at hv l12at5
  obtain rfl := Option.some.inj (l12g0.symm.trans a1)
  obtain rfl := Option.some.inj (l12ty0.symm.trans a2)
  obtain rfl := Option.some.inj (l12g2.symm.trans b1)
  obtain rfl := Option.some.inj (l12ty2.symm.trans b2)
  obtain rfl := Option.some.inj (l12g4.symm.trans c1)
  obtain rfl := Option.some.inj (l12ty4.symm.trans c2)
  obtain rfl := Option.some.inj (l12g5.symm.trans d1)
  obtain rfl := Option.some.inj (l12ty5.symm.trans d2)
  obtain rfl := st_all b4
  obtain rfl := lig_of c4
  obtain rfl := scr_of d4
  exact ⟨block_of b1 b3, lay_of a3 a4, block_of c1 c3, block_of d1 d3⟩
/-- A world that meets the condition. -/
theorem door_met (os : Os) (args : Array Value) : laidMetH Tryz.prog lst ((World.laidAll Tryz.prog os lst).forCall (fun _ _ => 0) ⟨#[], args, []⟩).memory := by
  rw [MakeChecks.laidMetH_plain _ _ _ (by kernel_rfl)]
  exact laidMet_laidAll _ (by kernel_rfl) (by kernel_rfl)
end Go.Proofs.YticgeabmhmojfaaGreatDoor
