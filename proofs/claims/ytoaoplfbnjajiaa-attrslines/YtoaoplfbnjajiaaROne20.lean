/- The document's one of layer 20. -/
import Derived.Test.YtoaoplfbnjajiaaRAt20
import Derived.Test.YtoaoplfbnjajiaaQuietB
namespace Go.Proofs.Ytoaoplfbnjajiaa
open Go.RowKit

theorem up_stop {l : List Ty} {x : Ty} (h : x.abv = te) : ∀ m, upT l m x = true
  | 0 => decide_eq_true h
  | m + 1 => by rw [upT, if_pos h]
theorem up_none {l : List Ty} {x : Ty} (h : ¬ x.abv = te) (hf : fndT l x.abv = none) : ∀ m, upT l m x = false
  | 0 => decide_eq_false h
  | m + 1 => by rw [upT, if_neg h, hf]
theorem up_syn {l : List Ty} {x y : Ty} (h : ¬ x.abv = te) (hf : fndT l x.abv = some y) (hs : ¬ y.syn = x.syn) : ∀ m, upT l m x = false
  | 0 => decide_eq_false h
  | m + 1 => by rw [upT, if_neg h, hf]; simp only; rw [if_neg hs]
theorem up_more {l : List Ty} {x y : Ty} (h : ¬ x.abv = te) (hf : fndT l x.abv = some y) (hs : y.syn = x.syn) (m : Nat) : upT l (m + 1) x = upT l m y := by
  rw [upT, if_neg h, hf]; simp only; rw [if_pos hs]
theorem emp_iff (s : ByteArray) : s.toList.isEmpty = decide (s = te) := by
  rw [Lib.toList_data]
  cases s with | mk a =>
  cases a with | mk l =>
  cases l with
  | nil => rfl
  | cons x t =>
    rw [decide_eq_false (fun h => by unfold te at h; injection h with h; injection h with h; cases h)]
    rfl
set_option maxHeartbeats 3200000 in
theorem rone_any (v : Value) (l : List Ty) (a : Ty) (w : World) (hV : TysV w v l) (hl : l.length ≤ 100000) :
    Calls Try.prog 27 #[v, .agg #[.string a.nam, .string a.abv, .int .i64 a.syn, .int .i64 a.rul, .bool a.sgl, .bool a.cls]] w fun e w' => e = .returned (.bool (oneT l a)) ∧ Below w.heap.size w w' := by
  have mx : Try.prog.follows .mixedOrders = true := by kernel_rfl
  have CF := hide (rfits_any a.syn a.rul)
  have CW := hide (fun W => (rword_any a.nam W).mono fun _ _ ⟨p, q⟩ => (⟨p, q.symm⟩ : _ ∧ W = _))
  have HV := hide hV
  obtain ⟨va, vc, rfl⟩ := hV.shape
  have B0 : Hid (Bt w.heap.size a (w.alloc (.cells #[.string a.nam, .string a.abv, .int .i64 a.syn, .int .i64 a.rul, .bool a.sgl, .bool a.cls] 26))) := heap_new w _
  have b0 := Below.one w (.cells #[.string a.nam, .string a.abv, .int .i64 a.syn, .int .i64 a.rul, .bool a.sgl, .bool a.cls] 26)
  have HO : Hid (oneT l a = (fitR a.syn a.rul && wrdB (nums a.nam) && upT l (l.length + 1) a)) := rfl
  have HU : Hid (upT l (l.length + 1) a = upT l (l.length + 1) a) := rfl
  clear hV
  generalize oneT l a = R at *
  generalize fitR a.syn a.rul = p at *
  generalize wrdB (nums a.nam) = q at *
  generalize hU : upT l (l.length + 1) a = U at HO
  rw [hU] at HU
  have HU2 := hide hU
  clear hU HU
  cases p
  · clear CW HU2
    go_enter Try.func27, Try.ntmps27
    go_wp2_with (go_at_call 33; refine (unhide CF _).mono ?_; rintro e w2 ⟨rfl, rfl⟩)
    go_ret
    exact ⟨ret_bool (unhide HO).symm, b0⟩
  cases q
  · clear HU2
    go_enter Try.func27, Try.ntmps27
    go_wp2_with (first
      | (go_at_call 34; refine (unhide CW _).mono ?_; rintro e w2 ⟨rfl, rfl⟩)
      | (go_at_call 33; refine (unhide CF _).mono ?_; rintro e w2 ⟨rfl, rfl⟩))
    go_ret
    exact ⟨ret_bool (unhide HO).symm, b0⟩
  have HR : Hid (R = U) := by show _ = _; rw [unhide HO]; simp
  clear HO
  go_enter Try.func27, Try.ntmps27
  go_wp2_with (first
    | (go_at_call 34; refine (unhide CW _).mono ?_; rintro e w2 ⟨rfl, rfl⟩)
    | (go_at_call 33; refine (unhide CF _).mono ?_; rintro e w2 ⟨rfl, rfl⟩))
  go_loopw [5] (fun vi wr => ∃ (k : Nat) (x : Ty), vi = .int .i64 (k : Int) ∧ k ≤ l.length + 1 ∧ Hid (upT l (l.length + 1 - k) x = U) ∧ Hid (Bt w.heap.size x wr) ∧ Below w.heap.size w wr) (fun i _ => l.length + 2 - (intOf i).toNat)
  case atStart => exact ⟨0, a, rfl, Nat.zero_le _, unhide HU2, unhide B0, b0⟩
  case round =>
    obtain ⟨k, x, rfl, hk, HX, HB, hb⟩ := hrel
    obtain ⟨c0, c1, c2, c3, c4, c5⟩ := (unhide HB).cells
    simp only [Nat.zero_add] at c1 c2 c3 c4 c5
    have hem := emp_iff x.abv
    have hVr := (unhide HV).below hb
    have CT := hide (rat_any _ l x.abv wr hVr)
    have HVR := hide hVr
    clear hVr CF CW HV B0 HU2
    by_cases e : x.abv = te
    · rw [decide_eq_true e] at hem
      have HE : Hid (true = R) := by show _ = _; rw [unhide HR, ← unhide HX, up_stop e]
      clear e HX
      go_wp2
      go_ret
      exact ⟨ret_bool (unhide HE), hb⟩
    rw [decide_eq_false e] at hem
    rcases ixT_fnd l x.abv with ⟨hf, hi⟩ | ⟨j, hj, hi, hf⟩
    · rw [hi] at CT
      have HE : Hid (false = R) := by show _ = _; rw [unhide HR, ← unhide HX, up_none e hf]
      clear e HX hf hi
      go_wp2_with (go_at_call 26; refine (unhide CT).mono ?_; rintro e w2 ⟨rfl, rfl⟩)
      refine wp_region_below (by first | exact mx | assumption) (by kernel_rfl) ?_
      intro nebb
      repeat (go_big_quiet_step (fail))
      refine wpQuiet_nil ?_
      intro _ hw'
      obtain ⟨pq, hw''⟩ := hw'
      subst hw''
      have bq := pq.b
      generalize pq.W = wq at *
      go_wp2
      go_ret
      exact ⟨ret_bool (unhide HE), hb.trans (bq.mono hb.size)⟩
    rw [hi] at CT
    clear hi
    obtain ⟨va', vc', hvv, hn9, hcc⟩ := unhide HVR
    cases hvv
    obtain ⟨b, off, rfl, hce⟩ := hcc (by omega)
    obtain ⟨d0, d1, d2, d3, d4, d5⟩ := hce j hj
    have hj0 : ¬ (j : Int) < 0 := by omega
    have hjd : decide ((j : Int) < 0) = false := decide_eq_false hj0
    have hj1 : (j : Int) < (l.length : Int) := by omega
    have hj2 : (0 : Int) ≤ (j : Int) := by omega
    have f0 := (unhide HB).free 0
    have f1 := (unhide HB).free 1
    have f2 := (unhide HB).free 2
    have f3 := (unhide HB).free 3
    have f4 := (unhide HB).free 4
    have f5 := (unhide HB).free 5
    clear hcc hce hn9
    generalize l.getD j ty0 = y at *
    by_cases hs : y.syn = x.syn
    · have hs' : (y.syn == x.syn) = true := by simpa using hs
      have hsn : (y.syn != x.syn) = false := by unfold bne; rw [hs']; rfl
      by_cases hk2 : l.length < k
      · have zk : (l.length : Int) < (k : Int) := by omega
        have zkd : decide ((l.length : Int) < (k : Int)) = true := decide_eq_true zk
        have zkd2 : decide ((k : Int) > (l.length : Int)) = true := decide_eq_true zk
        have HE : Hid (false = R) := by
          show _ = _
          rw [unhide HR, ← unhide HX, show l.length + 1 - k = 0 by omega]
          exact (decide_eq_false e).symm
        clear e HX hf hs
        go_wp2_with (go_at_call 26; refine (unhide CT).mono ?_; rintro e w2 ⟨rfl, rfl⟩)
        replace c2 := cell_bb c2
        replace d2 := cell_bb d2
        refine wp_region_below (by first | exact mx | assumption) (by kernel_rfl) ?_
        intro nebb
        repeat (go_big_quiet_step (fail))
        refine wpQuiet_nil ?_
        intro _ hw'
        obtain ⟨pq, hw''⟩ := hw'
        subst hw''
        have bq := pq.b
        generalize pq.W = wq at *
        go_wp2
        go_ret
        exact ⟨ret_bool (unhide HE), hb.trans (bq.mono hb.size)⟩
      · have zk : ¬ (l.length : Int) < (k : Int) := by omega
        have zkd : decide ((l.length : Int) < (k : Int)) = false := decide_eq_false zk
        have zkd2 : decide ((k : Int) > (l.length : Int)) = false := decide_eq_false zk
        have HX2 : Hid (upT l (l.length + 1 - (k + 1)) y = U) := by
          show _ = _
          rw [← unhide HX, show l.length + 1 - k = (l.length + 1 - (k + 1)) + 1 by omega, up_more e hf hs]
        clear e HX hf hs
        go_wp2_with (go_at_call 26; refine (unhide CT).mono ?_; rintro e w2 ⟨rfl, rfl⟩)
        have HDD := hide d2
        replace c2 := cell_bb c2
        replace d2 := cell_bb d2
        refine wp_region_below (by first | exact mx | assumption) (by kernel_rfl) ?_
        intro nebb
        repeat (go_big_quiet_step (fail))
        refine wpQuiet_nil ?_
        intro _ hw'
        obtain ⟨pq, hw''⟩ := hw'
        subst hw''
        have bq := pq.b
        generalize pq.W = wq at *
        have HB2 := hide ((unhide HB).keep bq)
        replace d0 := (bq.cell (cell_lt d0)).trans d0
        replace d1 := (bq.cell (cell_lt d1)).trans d1
        have d2' := (bq.cell (cell_lt (unhide HDD))).trans (unhide HDD)
        replace d3 := (bq.cell (cell_lt d3)).trans d3
        replace d4 := (bq.cell (cell_lt d4)).trans d4
        replace d5 := (bq.cell (cell_lt d5)).trans d5
        obtain ⟨b0', b1', b2', b3', b4', b5'⟩ := (unhide HB2).cells
        simp only [Nat.zero_add] at b1' b2' b3' b4' b5'
        replace f0 := (unhide HB2).free 0
        replace f1 := (unhide HB2).free 1
        replace f2 := (unhide HB2).free 2
        replace f3 := (unhide HB2).free 3
        replace f4 := (unhide HB2).free 4
        replace f5 := (unhide HB2).free 5
        have hbq := hb.trans (bq.mono hb.size)
        clear c0 c1 c2 c3 c4 c5 d2
        go_wp2
        go_roundw
        case rel => exact ⟨k + 1, y, by go_num, by omega, unhide HX2, Bt.put (unhide HB2) y, put_below hbq (Nat.le_refl _) y⟩
        case measure => simp [intOf]; omega
    · have hs' : (y.syn == x.syn) = false := by rw [beq_eq_false_iff_ne]; exact hs
      have hsn : (y.syn != x.syn) = true := by unfold bne; rw [hs']; rfl
      have HE : Hid (false = R) := by show _ = _; rw [unhide HR, ← unhide HX, up_syn e hf hs]
      clear e HX hf hs
      go_wp2_with (go_at_call 26; refine (unhide CT).mono ?_; rintro e w2 ⟨rfl, rfl⟩)
      replace c2 := cell_bb c2
      replace d2 := cell_bb d2
      refine wp_region_below (by first | exact mx | assumption) (by kernel_rfl) ?_
      intro nebb
      repeat (go_big_quiet_step (fail))
      refine wpQuiet_nil ?_
      intro _ hw'
      obtain ⟨pq, hw''⟩ := hw'
      subst hw''
      have bq := pq.b
      generalize pq.W = wq at *
      go_wp2
      go_ret
      exact ⟨ret_bool (unhide HE), hb.trans (bq.mono hb.size)⟩
end Go.Proofs.Ytoaoplfbnjajiaa
