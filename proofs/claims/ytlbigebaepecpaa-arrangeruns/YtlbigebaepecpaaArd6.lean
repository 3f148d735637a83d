/- Ordered; the marks of a run. -/
import Derived.Test.YtlbigebaepecpaaSt6
import Derived.Test.YtlbigebaepecpaaCls
import Derived.Test.YtlbigebaepecpaaOrd7
namespace Go.Proofs.Ytlbigebaepecpaa
open Go.RowKit

set_option maxHeartbeats 800000 in
theorem aordd_empty (a : Option Addr) (cap : Nat) (w : World) :
    Calls Try.prog 11 #[.slice a 0 cap] w fun e w' => e = .returned (.bool true) ∧ Gr w w' := by
  go_enter Try.func11, Try.ntmps11
  go_wp2
  refine wp_loop_rounds 1 ?_
  rw [rounds_succ]
  go_wp2
  go_ret
  exact ⟨rfl, Gr.refl _⟩
/-- The class of the one ahead. -/
def prevC (l : List Int) (k : Nat) : Int := if k = 0 then 0 else cls (l.getD (k - 1) 0)
theorem ord_next (l : List Int) (k : Nat) (h : k < l.length) (ho : ordered cls (l.take k) = true) : ordered cls (l.take (k + 1)) = !(decide (0 < cls (l.getD k 0)) && decide (cls (l.getD k 0) < prevC l k)) := by
  have hn := cls_nn (l.getD k 0)
  unfold prevC
  by_cases h0 : k = 0
  · subst h0
    obtain ⟨y, t, rfl⟩ := List.exists_cons_of_ne_nil (List.length_pos_iff.1 h)
    have e : ordered cls ((y :: t).take (0 + 1)) = true := rfl
    rw [e]
    simp at hn ⊢
    omega
  · rw [ordered_take cls l k (by omega) h, ho, if_neg h0]
    unfold nxt
    generalize cls (l.getD k 0) = p at *
    generalize cls (l.getD (k - 1) 0) = q at *
    by_cases h1 : p = 0
    · simp [h1]
    · by_cases h2 : p < q
      · have h3 : ¬ q ≤ p := by omega
        have h4 : 0 < p := by omega
        simp [h1, h2, h3, h4]
      · have h3 : q ≤ p := by omega
        simp [h1, h2, h3]
set_option maxHeartbeats 3200000 in
theorem aordd_some (b off cap : Nat) (l : List Int) (w : World) (hlen : l.length ≤ 20000) (h0 : 0 < l.length)
    (hcell : ∀ i, i < l.length → w.cell? ⟨b, off + i, none⟩ = some (.int .i32 (l.getD i 0))) :
    Calls Try.prog 11 #[.slice (some ⟨b, off, none⟩) l.length cap] w fun e w' => e = .returned (.bool (ordered cls l)) ∧ Gr w w' := by
  have HC := hide hcell
  have HCL := hide class_any
  clear hcell
  go_enter Try.func11, Try.ntmps11
  go_wp2
  go_loopw [3, 9] (fun p i wr => ∃ k : Nat, k ≤ l.length ∧ p = .int .i64 (prevC l k) ∧ i = .int .i64 (k : Int) ∧ Hid (ordered cls (l.take k) = true) ∧ Gr w wr) (fun _ i _ => l.length - (intOf i).toNat)
  case atStart => exact ⟨0, Nat.zero_le _, rfl, rfl, by show _ = _; rfl, Gr.refl _⟩
  case round =>
    obtain ⟨k, hk, rfl, rfl, HO, hg⟩ := hrel
    by_cases hlt : k < l.length
    · have hzl : (k : Int) < (l.length : Int) := by omega
      have hz0 : (0 : Int) ≤ (k : Int) := by omega
      have k1 := hg.cell (unhide HC k hlt)
      have HS := hide (ord_next l k hlt (unhide HO))
      have HBD := hide (ordered_bad cls l (k + 1))
      have HP : Hid (prevC l (k + 1) = cls (l.getD k 0)) := by show _ = _; unfold prevC; simp
      have HX := hide (unhide HCL (l.getD k 0))
      generalize l.getD k 0 = x at *
      generalize prevC l k = q at *
      generalize cls x = p at *
      by_cases h1 : 0 < p
      · by_cases h2 : p < q
        · have HB : Hid (ordered cls l = false) := unhide HBD (by rw [unhide HS]; simp [h1, h2])
          go_wp2_with (go_at_call 16; refine (unhide HX _).mono ?_; rintro e w2 ⟨rfl, g2⟩)
          go_ret
          exact ⟨ret_bool (unhide HB).symm, hg.trans g2⟩
        · have HB : Hid (ordered cls (l.take (k + 1)) = true) := by show _ = _; rw [unhide HS]; simp [h2]
          go_wp2_with (go_at_call 16; refine (unhide HX _).mono ?_; rintro e w2 ⟨rfl, g2⟩)
          go_roundw
          case rel => exact ⟨k + 1, by omega, by rw [unhide HP], by go_num, HB, hg.trans g2⟩
          case measure => simp [intOf]; omega
      · have HB : Hid (ordered cls (l.take (k + 1)) = true) := by show _ = _; rw [unhide HS]; simp [h1]
        go_wp2_with (go_at_call 16; refine (unhide HX _).mono ?_; rintro e w2 ⟨rfl, g2⟩)
        go_roundw
        case rel => exact ⟨k + 1, by omega, by rw [unhide HP], by go_num, HB, hg.trans g2⟩
        case measure => simp [intOf]; omega
    · have hzl : ¬ (k : Int) < (l.length : Int) := by omega
      obtain rfl : k = l.length := by omega
      rw [List.take_length] at HO
      go_wp2
      go_ret
      exact ⟨ret_bool (unhide HO).symm, hg⟩
theorem aordd_gr (v : Value) (l : List Int) (w : World) (hlen : l.length ≤ 20000) (hR : Row w v l) : Calls Try.prog 11 #[v] w fun e w' => e = .returned (.bool (ordered cls l)) ∧ Gr w w' := by
  obtain ⟨a, cap, rfl, hc⟩ := hR
  by_cases h0 : 0 < l.length
  · obtain ⟨b, off, rfl, hcc⟩ := hc h0
    exact aordd_some b off cap l w hlen h0 hcc
  · obtain rfl : l = [] := List.length_eq_zero_iff.1 (by omega)
    exact aordd_empty a cap w

theorem mark_info : (Try.prog.info? 41).map (fun i => (i.zero, i.size, i.bytes)) = some (some (.agg #[.int .i32 0, .int .i64 0, .int .i64 0]), 3, 24) := by kernel_rfl
theorem made_flat (n : Nat) : (madeCells (Value.agg #[.int .i32 0, .int .i64 0, .int .i64 0]).cells (n * 3)).toList = mflat (List.replicate n mk0) := by
  apply List.ext_getElem?
  intro j
  by_cases hj : j < n * 3
  · obtain ⟨h1, h2, h3⟩ := mflat_get (List.replicate n mk0) (j / 3) (by simp; omega)
    have e0 : (List.replicate n mk0).getD (j / 3) mk0 = mk0 := by simp only [List.getD, List.getElem?_replicate]; split <;> rfl
    rw [e0] at h1 h2 h3
    have e : (madeCells (Value.agg #[.int .i32 0, .int .i64 0, .int .i64 0]).cells (n * 3)).toList[j]? = some ((#[Value.int .i32 0, .int .i64 0, .int .i64 0] : Array Value)[j % 3]!) := by
      unfold madeCells
      simp [Value.cells, hj]
    rw [e]
    have hm : j % 3 < 3 := Nat.mod_lt _ (by decide)
    rcases (by omega : j % 3 = 0 ∨ j % 3 = 1 ∨ j % 3 = 2) with hq | hq | hq
    · have ej : j = j / 3 * 3 := by omega
      rw [hq]; conv => rhs; rw [ej]
      exact h1.symm
    · have ej : j = j / 3 * 3 + 1 := by omega
      rw [hq]; conv => rhs; rw [ej]
      exact h2.symm
    · have ej : j = j / 3 * 3 + 2 := by omega
      rw [hq]; conv => rhs; rw [ej]
      exact h3.symm
  · rw [List.getElem?_eq_none (by simp [size_madeCells]; omega), List.getElem?_eq_none (by rw [mflat_len]; simp; omega)]

set_option maxHeartbeats 3200000 in
theorem marks_any (b off c : Nat) (l : List Int) (w : World) (hlen : l.length ≤ 1000) (h0 : 0 < l.length) (hcell : ∀ i, i < l.length → w.cell? ⟨b, off + i, none⟩ = some (.int .i32 (l.getD i 0))) :
    Calls Try.prog 23 #[.slice (some ⟨b, off, none⟩) l.length c] w fun e w' => ∃ g cap, e = .returned (.slice (some ⟨g, 0, none⟩) l.length cap) ∧ Mr w.heap.size (.slice (some ⟨g, 0, none⟩) l.length cap) (mks cls 0 l) w' ∧ Below w.heap.size w w' := by
  obtain ⟨i0, hi, hz0, hz1, hz2⟩ := info_parts mark_info
  have HC := hide hcell
  have HCL := hide class_any
  have HMG := hide (mks_getD (c := cls) l 0)
  have HML := hide (mks_len (c := cls) l 0)
  clear hcell
  generalize mks cls 0 l = M at *
  obtain ⟨n, hn⟩ : ∃ n, n = l.length := ⟨_, rfl⟩
  rw [← hn] at hlen h0 HC HMG HML ⊢
  clear hn
  have hml : n ≤ maxLen := by unfold maxLen; omega
  go_enter Try.func23, Try.ntmps23
  go_wp2_with (refine wpList_make_full _ rfl _ _ 37 rfl w.heap.size 41 i0 _ 3 Try.underlying37 hi hz0 hz1 .i64 .i64 _ _ n rfl rfl rfl rfl (by rw [hz2]; omega) hml (Nat.le_refl _) ?_; intro w1 hown1 hgrow1; rw [made_flat] at hown1; have HM1 : Hid (Mr w.heap.size (.slice (some ⟨w.heap.size, 0, none⟩) n n) (List.replicate n mk0) w1) := (by show Mr _ _ _ _; unfold Mr; rw [List.length_replicate]; exact hown1); have HB1 := hide (below_own hgrow1 (Nat.le_refl _) (fun g h => by cases h)); clear hown1 hgrow1)
  have hs1 := (unhide HB1).size
  go_loopw [11] (fun i wr => ∃ (k : Nat) (dk : List Mk), k ≤ n ∧ i = .int .i64 (k : Int) ∧ Hid (Mr w.heap.size (.slice (some ⟨w.heap.size, 0, none⟩) n n) dk wr) ∧ Hid (n = dk.length) ∧ Hid (∀ j, j < k → dk.getD j mk0 = M.getD j mk0) ∧ Below w.heap.size w wr) (fun i _ => n - (intOf i).toNat)
  case atStart => exact ⟨0, _, Nat.zero_le _, rfl, HM1, by show _ = _; simp, fun j hj => absurd hj (Nat.not_lt_zero _), unhide HB1⟩
  case round =>
    obtain ⟨k, dk, hk, rfl, MK, DL, DG, hb⟩ := hrel
    by_cases hlt : k < n
    · have hzl : (k : Int) < (n : Int) := by omega
      have hz0' : (0 : Int) ≤ (k : Int) := by omega
      have k1 := (hb.cell (by exact cell_lt (unhide HC k hlt))).trans (unhide HC k hlt)
      have HG := hide (unhide HMG k hlt)
      rw [Nat.zero_add] at HG
      have HX := hide (unhide HCL (l.getD k 0))
      generalize l.getD k 0 = x at *
      generalize cls x = q at *
      go_wp2_with (go_at_call 16; refine (unhide HX _).mono ?_; rintro e w2 ⟨rfl, g2⟩; have MK2 := hide ((unhide MK).below g2.below); have hb2 := hb.trans (g2.below.mono hb.size); obtain ⟨c1, c2, c3⟩ := (unhide MK2).cell (unhide DL) k hlt; have f1 := (unhide MK2).free (unhide DL) (k * 3); have f2 := (unhide MK2).free (unhide DL) (k * 3 + 1); have f3 := (unhide MK2).free (unhide DL) (k * 3 + 2))
      go_roundw
      case rel =>
        have hp := (unhide MK2).put (unhide DL) k hlt ⟨x, q, k⟩
        refine ⟨k + 1, dk.set k ⟨x, q, k⟩, by omega, by go_num, hp.1, by show _ = _; rw [List.length_set]; exact unhide DL, fun j hj => ?_, hb2.trans (below_own hp.2 hb2.size (fun g h => by cases h; exact Nat.le_refl _))⟩
        have dl := unhide DL
        by_cases hjk : j = k
        · subst hjk
          rw [unhide HG]
          simp [List.getD, List.getElem?_set_self (show j < dk.length by omega)]
        · rw [← unhide DG j (by omega)]
          simp [List.getD, List.getElem?_set_ne (show k ≠ j by omega)]
      case measure => simp [intOf]; omega
    · have hzl : ¬ (k : Int) < (n : Int) := by omega
      obtain rfl : k = n := by omega
      have HE : Hid (dk = M) := by
        have dl := unhide DL
        have ml := unhide HML
        refine List.ext_getElem (by omega) fun j h1 h2 => ?_
        have := unhide DG j (by omega)
        simpa [List.getD, h1, h2] using this
      rw [unhide HE] at MK
      go_wp2
      go_ret
      exact ⟨w.heap.size, k, rfl, unhide MK, hb⟩
end Go.Proofs.Ytlbigebaepecpaa
