/- The document's Has and names of layer 21. -/
import Derived.Test.YtjjildpdelkejaaM08
import Derived.Test.YtjjildpdelkejaaM04
import Derived.Test.YtjjildpdelkejaaM09
import Derived.Deep.RegionHeld3
namespace Go.Proofs.Ytjjildpdelkejaa
open Go.RowKit

def hasL (L : List ByteArray) (s : ByteArray) : Bool := L.any fun y => decide (y = s)
theorem hasL_yes {zs : List ByteArray} {x : ByteArray} {k : Nat} (hk : k < zs.length) (h : zs.getD k te = x) : hasL zs x = true := by
  unfold hasL
  rw [List.any_eq_true]
  exact ⟨zs.getD k te, by simp [List.getD, hk], decide_eq_true h⟩
theorem hasL_no {zs : List ByteArray} {x : ByteArray} (h : ∀ k, k < zs.length → zs.getD k te ≠ x) : hasL zs x = false := by
  unfold hasL
  rw [List.any_eq_false]
  intro y hy
  obtain ⟨i, hi, rfl⟩ := List.getElem_of_mem hy
  have := h i hi
  simpa [List.getD, hi] using this
set_option maxHeartbeats 1600000 in
theorem rhas_any (v : Value) (zs : List ByteArray) (x : ByteArray) (w : World) (hR : TsV w v zs) : Calls Try.prog 21 #[v, .string x] w fun e w' => e = .returned (.bool (hasL zs x)) ∧ w = w' := by
  obtain ⟨a, cap, rfl, hn, hc⟩ := hR
  have HC := hide hc
  clear hc
  go_enter Try.func21, Try.ntmps21
  go_wp2
  go_loop [5] (fun i => ∃ k : Nat, k ≤ zs.length ∧ i = .int .i64 (k : Int) ∧ Hid (∀ j, j < k → zs.getD j te ≠ x)) (fun i => zs.length - (intOf i).toNat)
  case atStart => exact ⟨0, Nat.zero_le _, rfl, fun j hj => absurd hj (Nat.not_lt_zero _)⟩
  case round =>
    obtain ⟨k, hk, rfl, HK⟩ := hrel
    by_cases hlt : k < zs.length
    · have hzl : (k : Int) < (zs.length : Int) := by omega
      have hz0 : (0 : Int) ≤ (k : Int) := by omega
      obtain ⟨b, off, rfl, hcc⟩ := unhide HC (by omega)
      have q0 := hcc k hlt
      have HY : Hid (zs.getD k te = x → hasL zs x = true) := fun h => hasL_yes hlt h
      have HN : Hid (¬ zs.getD k te = x → ∀ j, j < k + 1 → zs.getD j te ≠ x) := fun h j hj => by
        by_cases e : j = k
        · rw [e]; exact h
        · exact unhide HK j (by omega)
      clear hcc HC HK
      generalize zs.getD k te = t at *
      have hq := txt_beq t x
      by_cases h : t = x
      · rw [decide_eq_true h] at hq
        have HE := hide (unhide HY h)
        clear h HY HN
        go_wp2
        go_ret
        exact ⟨ret_bool (unhide HE).symm, rfl⟩
      · rw [decide_eq_false h] at hq
        have HK2 := hide (unhide HN h)
        clear h HY HN
        go_wp2
        go_round
        case rel => exact ⟨k + 1, by omega, by go_num, unhide HK2⟩
        case measure => simp [intOf]; omega
    · have hzl : ¬ (k : Int) < (zs.length : Int) := by omega
      obtain rfl : k = zs.length := by omega
      have HE := hide (hasL_no (unhide HK))
      clear HK HC
      go_wp2
      go_ret
      exact ⟨ret_bool (unhide HE).symm, rfl⟩
theorem namTo_at {l : List Ty} {L : List ByteArray} {n k : Nat} (h : namTo l L n = true) (hk : k < n) : namAt l L k = true := by
  induction n with
  | zero => omega
  | succ n ih =>
    simp only [namTo, Bool.and_eq_true] at h
    rcases Nat.lt_or_ge k n with h1 | h1
    · exact ih h.1 h1
    · obtain rfl : k = n := by omega
      exact h.2
theorem namT_no {l : List Ty} {L : List ByteArray} {k : Nat} (hk : k < L.length) (h : namAt l L k = false) : namT l L = false := by
  unfold namT
  cases hq : namTo l L L.length
  · rfl
  · rw [namTo_at hq hk] at h; cases h
theorem ret_av2 {a : Ty} {p : Bool} {v : Value} (h : v = .tuple #[.agg #[.string a.nam, .string a.abv, .int .i64 a.syn, .int .i64 a.rul, .bool a.sgl, .bool a.cls], .bool p]) : v = .tuple #[aggV a, .bool p] := h
theorem cell_putT {w : World} {b : Nat} {a : Addr} {v : Value} (y : Ty) (h : w.cell? a = some v) (hne : a.block ≠ b) : (putT w b y).cell? a = some v := by
  unfold putT
  have e : ∀ (W : World) (k : Nat) (u : Value), (W.setCell ⟨b, k, none⟩ u).cell? a = W.cell? a := fun W k u => World.cell?_setCell_other _ _ _ _ (fun q => hne (congrArg Addr.block q).symm)
  rw [e, e, e, e, e, e]
  exact h
set_option maxHeartbeats 6400000 in
theorem rnam_any (va vc vl : Value) (l : List Ty) (L : List ByteArray) (w : World) (hT : TysV w va l) (hL : TsV w vl L) : Calls Try.prog 53 #[.agg #[va, vc], vl] w fun e w' => e = .returned (.bool (namT l L)) ∧ Below w.heap.size w w' := by
  have mx : Try.prog.follows .mixedOrders = true := by kernel_rfl
  have CF := hide (fun n W (h : Below w.heap.size w W) => rfind_any va l n W (hT.below h))
  obtain ⟨aa, ca, rfl⟩ := hT.shape
  obtain ⟨la, lc, rfl, hn, hc⟩ := hL
  have hn2 : (L.length : Int) ≤ 9223372036854775807 := by omega
  have HNO : Hid (∀ k, k < L.length → namAt l L k = false → namT l L = false) := fun k hk h => namT_no hk h
  have HYE : Hid (namTo l L L.length = true → namT l L = decide (L.length ≤ 8)) := fun h => by unfold namT; rw [h]; rfl
  have b0 := Below.one w (.cells #[.slice aa l.length ca, vc] 25)
  have B0 : Hid (Bs w.heap.size (.slice aa l.length ca) vc (w.alloc (.cells #[.slice aa l.length ca, vc] 25))) := heap_new w _
  have HC := hide hc
  clear hc hT
  generalize namT l L = R at *
  go_enter Try.func53, Try.ntmps53
  go_wp2
  go_loopw [5] (fun i wr => ∃ k : Nat, k ≤ L.length ∧ i = .int .i64 (k : Int) ∧ Hid (namTo l L k = true) ∧ Hid (Bs w.heap.size (.slice aa l.length ca) vc wr) ∧ Below w.heap.size w wr) (fun i _ => L.length - (intOf i).toNat)
  case atStart => exact ⟨0, Nat.zero_le _, rfl, rfl, unhide B0, b0⟩
  case round =>
    obtain ⟨k, hk, rfl, HK, HB, hb⟩ := hrel
    have hsz := hb.size
    by_cases hlt : k < L.length
    · have hzl : (k : Int) < (L.length : Int) := by omega
      have hz0 : (0 : Int) ≤ (k : Int) := by omega
      obtain ⟨b, off, rfl, hcc⟩ := unhide HC (by omega)
      have HQ : Hid (∀ W, Below w.heap.size w W → ∀ j, j < L.length → W.cell? ⟨b, off + j, none⟩ = some (.string (L.getD j te))) := fun W h j hj => (h.cell (cell_lt (hcc j hj))).trans (hcc j hj)
      have HOK : Hid (namAt l L k = ((findT l (L.getD k te)).isSome && (decide (k = 0) || lsT (L.getD (k - 1) te) (L.getD k te)))) := rfl
      have HN := hide (unhide HNO k hlt)
      have HS : Hid (namAt l L k = true → namTo l L (k + 1) = true) := fun h => by rw [namTo, unhide HK, h]; rfl
      have q0 := unhide HQ wr hb k hlt
      have C1 := hide (unhide CF (L.getD k te))
      have HFB : Hid (fndB l (L.getD k te) = (findT l (L.getD k te)).isSome) := rfl
      have c0 := (unhide HB).cells.1
      have HQ1 : Hid (∀ W, Below w.heap.size w W → W.cell? ⟨b, off + k, none⟩ = some (.string (L.getD k te))) := fun W h => unhide HQ W h k hlt
      have hbd : Below w.heap.size w wr.drew := hb.drew
      have oa : Below wr.heap.size wr (wr.alloc (.cells #[.string ⟨#[]⟩, .string ⟨#[]⟩, .int .i64 0, .int .i64 0, .bool false, .bool false] 65)) := Below.one wr _
      have hba : Below w.heap.size w (wr.alloc (.cells #[.string ⟨#[]⟩, .string ⟨#[]⟩, .int .i64 0, .int .i64 0, .bool false, .bool false] 65)).drew := (hb.trans (oa.mono hsz)).drew
      have HBA : Hid (Bs w.heap.size (.slice aa l.length ca) vc (wr.alloc (.cells #[.string ⟨#[]⟩, .string ⟨#[]⟩, .int .i64 0, .int .i64 0, .bool false, .bool false] 65)).drew) := (unhide HB).keep oa.drew
      have XA : Hid (Bt wr.heap.size ty0 (wr.alloc (.cells #[.string ⟨#[]⟩, .string ⟨#[]⟩, .int .i64 0, .int .i64 0, .bool false, .bool false] 65)).drew) := heap_new wr _
      clear hcc HNO HYE HK CF
      generalize namAt l L k = ok at *
      rw [← unhide HFB] at HOK
      clear HFB
      unfold aggV at C1
      generalize fndA l (L.getD k te) = y at *
      generalize fndB l (L.getD k te) = z at *
      generalize L.getD k te = nk at *
      have ca0 := (unhide HBA).cells.1
      have ca1 := unhide HQ1 _ hba
      go_wp2
      go_region_held3 (fun W => W.cell? ⟨w.heap.size, 0, none⟩ = some (.slice aa l.length ca) ∧ W.cell? ⟨b, off + k, none⟩ = some (.string nk)) (first | with_reducible exact ⟨c0, q0⟩ | with_reducible exact ⟨ca0, ca1⟩ | with_reducible exact ⟨d0, d1⟩ | with_reducible exact ⟨da0, da1⟩ | with_reducible exact ⟨db0, db1⟩ | assumption | go_keep)
        (first
          | (go_at_call 43; refine (unhide C1 _ (by with_reducible exact hbd)).mono ?_; rintro e w3 ⟨rfl, b3⟩; have t3 := hbd.trans (b3.mono hbd.size); have HB3 := hide (Bs.keep (w := wr.drew) (unhide HB) b3); have d0 := (unhide HB3).cells.1; have d1 := unhide HQ1 _ t3; have o3 := Below.one w3 (.cells #[.string ⟨#[]⟩, .string ⟨#[]⟩, .int .i64 0, .int .i64 0, .bool false, .bool false] 65); have t4 := t3.trans (o3.mono t3.size); have hs3 := t3.size; have da0 := ((unhide HB3).keep o3).cells.1; have da1 := unhide HQ1 _ t4; have X3 : Hid (Bt w3.heap.size ty0 (w3.alloc (.cells #[.string ⟨#[]⟩, .string ⟨#[]⟩, .int .i64 0, .int .i64 0, .bool false, .bool false] 65))) := heap_new w3 _; have db0 := cell_putT y da0 (b := w3.heap.size) (by have := bt_lt (unhide HB3); simp; omega); have db1 := cell_putT y da1 (b := w3.heap.size) (by have := cell_lt d1; simp; simp at this; omega); unfold putT at db0 db1; obtain ⟨x0, x1, x2, x3, x4, x5⟩ := (unhide X3).cells; simp only [Nat.zero_add] at x1 x2 x3 x4 x5; have f0 := (unhide X3).free 0; have f1 := (unhide X3).free 1; have f2 := (unhide X3).free 2; have f3 := (unhide X3).free 3; have f4 := (unhide X3).free 4; have f5 := (unhide X3).free 5)
          | (go_at_call 43; refine (unhide C1 _ (by with_reducible exact hba)).mono ?_; rintro e w3 ⟨rfl, b3⟩; have t3 := hba.trans (b3.mono hba.size); have HB3 := hide (Bs.keep (unhide HBA) b3); have d0 := (unhide HB3).cells.1; have d1 := unhide HQ1 _ t3; have X3 := hide ((unhide XA).keep b3); have db0 := cell_putT y d0 (b := wr.heap.size) (by have := bt_lt (unhide HB); simp; omega); have db1 := cell_putT y d1 (b := wr.heap.size) (by have := cell_lt q0; simp; simp at this; omega); unfold putT at db0 db1; obtain ⟨x0, x1, x2, x3, x4, x5⟩ := (unhide X3).cells; simp only [Nat.zero_add] at x1 x2 x3 x4 x5; have f0 := (unhide X3).free 0; have f1 := (unhide X3).free 1; have f2 := (unhide X3).free 2; have f3 := (unhide X3).free 3; have f4 := (unhide X3).free 4; have f5 := (unhide X3).free 5))
      · have tz := t3.trans ((Below.one w3 (.cells #[.string y.nam, .string y.abv, .int .i64 y.syn, .int .i64 y.rul, .bool y.sgl, .bool y.cls] 65)).mono t3.size)
        have HBZ := hide ((unhide HB3).keep (Below.one w3 (.cells #[.string y.nam, .string y.abv, .int .i64 y.syn, .int .i64 y.rul, .bool y.sgl, .bool y.cls] 65)))
        clear da0 da1 db0 db1 x0 x1 x2 x3 x4 x5 f0 f1 f2 f3 f4 f5 X3 t4 o3 d0 d1
        generalize w3.alloc (.cells #[.string y.nam, .string y.abv, .int .i64 y.syn, .int .i64 y.rul, .bool y.sgl, .bool y.cls] 65) = wz at *
        clear HB3 t3 b3 hs3 ca0 ca1 XA HBA hba oa hbd c0 q0 C1
        have q0 := unhide HQ1 _ tz
        cases z
        · have HR : Hid (false = R) := (unhide HN (by rw [unhide HOK]; rfl)).symm
          clear HOK HN HS HQ1 HQ
          go_wp2
          refine wp_region_below (by first | exact mx | assumption) (by kernel_rfl) ?_
          intro nebb
          repeat (go_big_quiet_step (fail))
          refine wpQuiet_nil ?_
          intro _ hw'
          obtain ⟨pq, hw''⟩ := hw'
          subst hw''
          have bq := pq.b
          generalize pq.W = wq at *
          go_wp2
          go_ret
          exact ⟨ret_bool (unhide HR), tz.trans (bq.mono tz.size)⟩
        by_cases k0 : k = 0
        · have zk : decide ((k : Int) > 0) = false := decide_eq_false (by omega)
          have zk2 : decide ((0 : Int) < (k : Int)) = false := decide_eq_false (by omega)
          have zk3 : decide (0 < k) = false := decide_eq_false (by omega)
          have HS2 := hide (unhide HS (by rw [unhide HOK, decide_eq_true k0]; rfl))
          clear HOK HN HS k0 HQ HQ1
          go_wp2
          refine wp_region_below (by first | exact mx | assumption) (by kernel_rfl) ?_
          intro nebb
          repeat (go_big_quiet_step (fail))
          refine wpQuiet_nil ?_
          intro _ hw'
          obtain ⟨pq, hw''⟩ := hw'
          subst hw''
          have bq := pq.b
          generalize pq.W = wq at *
          go_wp2
          go_roundw
          case rel => exact ⟨k + 1, by omega, by go_num, unhide HS2, (unhide HBZ).keep bq, tz.trans (bq.mono tz.size)⟩
          case measure => simp [intOf]; omega
        have zk : decide ((k : Int) > 0) = true := decide_eq_true (by omega)
        have zk2 : decide ((0 : Int) < (k : Int)) = true := decide_eq_true (by omega)
        have zk3 : decide (0 < k) = true := decide_eq_true (by omega)
        obtain ⟨j, hj⟩ : ∃ j, j = k - 1 := ⟨_, rfl⟩
        have p0 := cell_bb (unhide HQ _ tz j (by omega))
        replace q0 := cell_bb q0
        rw [← hj, decide_eq_false k0, Bool.false_or] at HOK
        have wj : IntKind.i64.wrap ((k : Int) - 1) = (j : Int) := by rw [IntKind.wrap_i64]; omega
        have wj2 : (k : Int) - 1 = (j : Int) := by omega
        have hj0 : (0 : Int) ≤ (j : Int) := by omega
        have hj1 : (j : Int) < (L.length : Int) := by omega
        generalize L.getD j te = nj at *
        have hls : Op.bytesLess nj.toList nk.toList = lsT nj nk := rfl
        clear hj
        cases hq : lsT nj nk <;> rw [hq] at hls HOK
        · have HR : Hid (false = R) := (unhide HN (by rw [unhide HOK]; rfl)).symm
          clear HOK HN HS k0 hq HQ HQ1
          go_wp2
          refine wp_region_below (by first | exact mx | assumption) (by kernel_rfl) ?_
          intro nebb
          repeat (go_big_quiet_step (fail))
          refine wpQuiet_nil ?_
          intro _ hw'
          obtain ⟨pq, hw''⟩ := hw'
          subst hw''
          have bq := pq.b
          generalize pq.W = wq at *
          go_wp2
          go_ret
          exact ⟨ret_bool (unhide HR), tz.trans (bq.mono tz.size)⟩
        · have HS2 := hide (unhide HS (by rw [unhide HOK]; rfl))
          clear HOK HN HS k0 hq HQ HQ1
          go_wp2
          refine wp_region_below (by first | exact mx | assumption) (by kernel_rfl) ?_
          intro nebb
          repeat (go_big_quiet_step (fail))
          refine wpQuiet_nil ?_
          intro _ hw'
          obtain ⟨pq, hw''⟩ := hw'
          subst hw''
          have bq := pq.b
          generalize pq.W = wq at *
          go_wp2
          go_roundw
          case rel => exact ⟨k + 1, by omega, by go_num, unhide HS2, (unhide HBZ).keep bq, tz.trans (bq.mono tz.size)⟩
          case measure => simp [intOf]; omega
      · have tz : Below w.heap.size w (putT w3 wr.heap.size y) := put_below t3 hsz y
        have HBZ : Hid (Bs w.heap.size (.slice aa l.length ca) vc (putT w3 wr.heap.size y)) := (mr_put (Nat.le_refl _) (unhide X3) y).same _ _ (unhide HB3) rfl
        clear db0 db1 x0 x1 x2 x3 x4 x5 f0 f1 f2 f3 f4 f5 d0 d1
        unfold putT at tz HBZ
        generalize (((((w3.setCell ⟨wr.heap.size, 0, none⟩ (.string y.nam)).setCell ⟨wr.heap.size, 1, none⟩ (.string y.abv)).setCell ⟨wr.heap.size, 2, none⟩ (.int .i64 y.syn)).setCell ⟨wr.heap.size, 3, none⟩ (.int .i64 y.rul)).setCell ⟨wr.heap.size, 4, none⟩ (.bool y.sgl)).setCell ⟨wr.heap.size, 5, none⟩ (.bool y.cls) = wz at *
        clear HB3 t3 b3 ca0 ca1 XA HBA hba oa hbd c0 q0 C1 X3
        have q0 := unhide HQ1 _ tz
        cases z
        · have HR : Hid (false = R) := (unhide HN (by rw [unhide HOK]; rfl)).symm
          clear HOK HN HS HQ1 HQ
          go_wp2
          refine wp_region_below (by first | exact mx | assumption) (by kernel_rfl) ?_
          intro nebb
          repeat (go_big_quiet_step (fail))
          refine wpQuiet_nil ?_
          intro _ hw'
          obtain ⟨pq, hw''⟩ := hw'
          subst hw''
          have bq := pq.b
          generalize pq.W = wq at *
          go_wp2
          go_ret
          exact ⟨ret_bool (unhide HR), tz.trans (bq.mono tz.size)⟩
        by_cases k0 : k = 0
        · have zk : decide ((k : Int) > 0) = false := decide_eq_false (by omega)
          have zk2 : decide ((0 : Int) < (k : Int)) = false := decide_eq_false (by omega)
          have zk3 : decide (0 < k) = false := decide_eq_false (by omega)
          have HS2 := hide (unhide HS (by rw [unhide HOK, decide_eq_true k0]; rfl))
          clear HOK HN HS k0 HQ HQ1
          go_wp2
          refine wp_region_below (by first | exact mx | assumption) (by kernel_rfl) ?_
          intro nebb
          repeat (go_big_quiet_step (fail))
          refine wpQuiet_nil ?_
          intro _ hw'
          obtain ⟨pq, hw''⟩ := hw'
          subst hw''
          have bq := pq.b
          generalize pq.W = wq at *
          go_wp2
          go_roundw
          case rel => exact ⟨k + 1, by omega, by go_num, unhide HS2, (unhide HBZ).keep bq, tz.trans (bq.mono tz.size)⟩
          case measure => simp [intOf]; omega
        have zk : decide ((k : Int) > 0) = true := decide_eq_true (by omega)
        have zk2 : decide ((0 : Int) < (k : Int)) = true := decide_eq_true (by omega)
        have zk3 : decide (0 < k) = true := decide_eq_true (by omega)
        obtain ⟨j, hj⟩ : ∃ j, j = k - 1 := ⟨_, rfl⟩
        have p0 := cell_bb (unhide HQ _ tz j (by omega))
        replace q0 := cell_bb q0
        rw [← hj, decide_eq_false k0, Bool.false_or] at HOK
        have wj : IntKind.i64.wrap ((k : Int) - 1) = (j : Int) := by rw [IntKind.wrap_i64]; omega
        have wj2 : (k : Int) - 1 = (j : Int) := by omega
        have hj0 : (0 : Int) ≤ (j : Int) := by omega
        have hj1 : (j : Int) < (L.length : Int) := by omega
        generalize L.getD j te = nj at *
        have hls : Op.bytesLess nj.toList nk.toList = lsT nj nk := rfl
        clear hj
        cases hq : lsT nj nk <;> rw [hq] at hls HOK
        · have HR : Hid (false = R) := (unhide HN (by rw [unhide HOK]; rfl)).symm
          clear HOK HN HS k0 hq HQ HQ1
          go_wp2
          refine wp_region_below (by first | exact mx | assumption) (by kernel_rfl) ?_
          intro nebb
          repeat (go_big_quiet_step (fail))
          refine wpQuiet_nil ?_
          intro _ hw'
          obtain ⟨pq, hw''⟩ := hw'
          subst hw''
          have bq := pq.b
          generalize pq.W = wq at *
          go_wp2
          go_ret
          exact ⟨ret_bool (unhide HR), tz.trans (bq.mono tz.size)⟩
        · have HS2 := hide (unhide HS (by rw [unhide HOK]; rfl))
          clear HOK HN HS k0 hq HQ HQ1
          go_wp2
          refine wp_region_below (by first | exact mx | assumption) (by kernel_rfl) ?_
          intro nebb
          repeat (go_big_quiet_step (fail))
          refine wpQuiet_nil ?_
          intro _ hw'
          obtain ⟨pq, hw''⟩ := hw'
          subst hw''
          have bq := pq.b
          generalize pq.W = wq at *
          go_wp2
          go_roundw
          case rel => exact ⟨k + 1, by omega, by go_num, unhide HS2, (unhide HBZ).keep bq, tz.trans (bq.mono tz.size)⟩
          case measure => simp [intOf]; omega
    · have hzl : ¬ (k : Int) < (L.length : Int) := by omega
      obtain rfl : k = L.length := by omega
      have HE := hide (unhide HYE (unhide HK))
      clear HK HNO HYE
      by_cases h8 : L.length ≤ 8
      · have h8z : (L.length : Int) ≤ 8 := by omega
        rw [decide_eq_true h8] at HE
        go_wp2
        go_ret
        exact ⟨ret_bool (unhide HE).symm, hb⟩
      · have h8z : ¬ (L.length : Int) ≤ 8 := by omega
        rw [decide_eq_false h8] at HE
        go_wp2
        go_ret
        exact ⟨ret_bool (unhide HE).symm, hb⟩
end Go.Proofs.Ytjjildpdelkejaa
/- The document's one of layer 21. -/
namespace Go.Proofs.Ytjjildpdelkejaa
open Go.RowKit

/-- A box of a class, with the slices that it holds. -/
def Bc (b : Nat) (c : Cl) (vm vy : Value) (w : World) : Prop := w.heap[b]? = some (.cells #[.string c.nam, .string c.abv, .bool c.bar, vm, vy] 49)
theorem Bc.keep {b : Nat} {c : Cl} {vm vy : Value} {w w2 : World} (h : Bc b c vm vy w) (hb : Below w.heap.size w w2) : Bc b c vm vy w2 := (hb.block _ (bt_lt h)).trans h
theorem Bc.free {b : Nat} {c : Cl} {vm vy : Value} {w : World} (h : Bc b c vm vy w) (o : Nat) : w.frozen? ⟨b, o, none⟩ = false := by
  unfold World.frozen?
  rw [show w.heap[(⟨b, o, none⟩ : Addr).block]? = w.heap[b]? from rfl, h]
  simp
theorem Bc.cells {b : Nat} {c : Cl} {vm vy : Value} {w : World} (h : Bc b c vm vy w) : w.cell? ⟨b, 0, none⟩ = some (.string c.nam) ∧ w.cell? ⟨b, 1, none⟩ = some (.string c.abv) ∧ w.cell? ⟨b, 2, none⟩ = some (.bool c.bar) ∧ w.cell? ⟨b, 3, none⟩ = some vm ∧ w.cell? ⟨b, 4, none⟩ = some vy := by
  have hc : ∀ o, w.cell? ⟨b, o, none⟩ = (#[Value.string c.nam, .string c.abv, .bool c.bar, vm, vy] : Array Value)[o]? := fun o => by
    unfold World.cell?
    rw [show w.heap[(⟨b, o, none⟩ : Addr).block]? = w.heap[b]? from rfl, h]
    rfl
  exact ⟨hc 0, hc 1, hc 2, hc 3, hc 4⟩
def putC (w : World) (b : Nat) (c : Cl) (vm vy : Value) : World := ((((w.setCell ⟨b, 0, none⟩ (.string c.nam)).setCell ⟨b, 1, none⟩ (.string c.abv)).setCell ⟨b, 2, none⟩ (.bool c.bar)).setCell ⟨b, 3, none⟩ vm).setCell ⟨b, 4, none⟩ vy
theorem Bc.put {b : Nat} {x : Cl} {vx ux : Value} {w : World} (h : Bc b x vx ux w) (c : Cl) (vm vy : Value) : Bc b c vm vy (putC w b c vm vy) := by
  unfold Bc putC at *
  have h1 := heap_setCell_same w b 0 _ _ (.string c.nam) h
  have h2 := heap_setCell_same _ b 1 _ _ (.string c.abv) h1
  have h3 := heap_setCell_same _ b 2 _ _ (.bool c.bar) h2
  have h4 := heap_setCell_same _ b 3 _ _ vm h3
  have h5 := heap_setCell_same _ b 4 _ _ vy h4
  rw [h5]
  rfl
theorem putC_below {B b : Nat} {w w2 : World} (h : Below B w w2) (hb : B ≤ b) (c : Cl) (vm vy : Value) : Below B w (putC w2 b c vm vy) :=
  ((((h.setCell hb _).setCell hb _).setCell hb _).setCell hb _).setCell hb _
theorem putC_heap {w : World} {b k : Nat} (c : Cl) (vm vy : Value) (h : k ≠ b) : (putC w b c vm vy).heap[k]? = w.heap[k]? := by
  unfold putC
  have e : ∀ (W : World) (o : Nat) (u : Value), (W.setCell ⟨b, o, none⟩ u).heap[k]? = W.heap[k]? := fun W o u => heap_setCell_other W ⟨b, o, none⟩ k u h
  rw [e, e, e, e, e]
theorem upC_stop {cs : List Cl} {x : Cl} (h : x.abv = te) : ∀ m, upC cs m x = true
  | 0 => decide_eq_true h
  | m + 1 => by rw [upC, if_pos h]
theorem upC_none {cs : List Cl} {x : Cl} (h : ¬ x.abv = te) (hf : fndC cs x.abv = none) : ∀ m, upC cs m x = false
  | 0 => decide_eq_false h
  | m + 1 => by rw [upC, if_neg h, hf]
theorem upC_more {cs : List Cl} {x y : Cl} (h : ¬ x.abv = te) (hf : fndC cs x.abv = some y) (m : Nat) : upC cs (m + 1) x = upC cs m y := by rw [upC, if_neg h, hf]
set_option maxHeartbeats 6400000 in
theorem rone21_any (va vc vm vy : Value) (l : List Ty) (cs : List Cl) (c : Cl) (w : World) (hT : TysV w va l) (hC : ClsV w vc cs) (hM : TsV w vm c.mus) (hY : TsV w vy c.may) (hl : cs.length ≤ 100000) :
    Calls Try.prog 28 #[.agg #[va, vc], .agg #[.string c.nam, .string c.abv, .bool c.bar, vm, vy]] w fun e w' => e = .returned (.bool (oneC l cs c)) ∧ Below w.heap.size w w' := by
  have CW := hide (fun W => (rword_any c.nam W).mono fun _ _ ⟨p, q⟩ => (⟨p, q.symm⟩ : _ ∧ W = _))
  have CM := hide (fun W (h : Below w.heap.size w W) => rnam_any va vc vm l c.mus W (hT.below h) (hM.below h))
  have CY := hide (fun W (h : Below w.heap.size w W) => rnam_any va vc vy l c.may W (hT.below h) (hY.below h))
  have CA := hide (fun n W (h : Below w.heap.size w W) => rcat_any va vc cs n W (hC.below h))
  have HC := hide hC
  obtain ⟨aa, ca, rfl⟩ := hT.shape
  obtain ⟨ac, cc, rfl⟩ := hC.shape
  obtain ⟨am, cm, rfl, hm9⟩ := hM
  obtain ⟨ay, cy, rfl, hy9⟩ := hY
  clear hm9 hy9
  have b1 := (Below.one w (.cells #[.slice aa l.length ca, .slice ac cs.length cc] 25)).alloc (by simp) (.cells #[.string c.nam, .string c.abv, .bool c.bar, .slice am c.mus.length cm, .slice ay c.may.length cy] 49)
  have S1 : Hid (Bs w.heap.size (.slice aa l.length ca) (.slice ac cs.length cc) ((w.alloc (.cells #[.slice aa l.length ca, .slice ac cs.length cc] 25)).alloc (.cells #[.string c.nam, .string c.abv, .bool c.bar, .slice am c.mus.length cm, .slice ay c.may.length cy] 49))) := Bs.keep (heap_new w _) (Below.one _ _)
  have X1 : Hid (Bc (w.heap.size + 1) c (.slice am c.mus.length cm) (.slice ay c.may.length cy) ((w.alloc (.cells #[.slice aa l.length ca, .slice ac cs.length cc] 25)).alloc (.cells #[.string c.nam, .string c.abv, .bool c.bar, .slice am c.mus.length cm, .slice ay c.may.length cy] 49))) := by
    have := heap_new (w.alloc (.cells #[.slice aa l.length ca, .slice ac cs.length cc] 25)) (.cells #[.string c.nam, .string c.abv, .bool c.bar, .slice am c.mus.length cm, .slice ay c.may.length cy] 49)
    rw [World.size_alloc] at this
    exact this
  have HO : Hid (oneC l cs c = (wrdB (nums c.nam) && namT l c.mus && namT l c.may && upC cs (cs.length + 1) c)) := rfl
  clear hT hC
  have s0 := (unhide S1).cells
  obtain ⟨s0, s1⟩ := s0
  obtain ⟨x0, x1, x2, x3, x4⟩ := (unhide X1).cells
  generalize oneC l cs c = R at *
  generalize wrdB (nums c.nam) = p at *
  generalize namT l c.mus = q at *
  generalize namT l c.may = z at *
  cases p
  · go_enter Try.func28, Try.ntmps28
    go_wp2_with (go_at_call 52; refine (unhide CW _).mono ?_; rintro e w2 ⟨rfl, rfl⟩)
    go_ret
    exact ⟨ret_bool (unhide HO).symm, b1⟩
  cases q
  · go_enter Try.func28, Try.ntmps28
    go_wp2_with (first
      | (go_at_call 53; refine (unhide CM _ b1).mono ?_; rintro e w3 ⟨rfl, b3⟩; have t3 := b1.trans (b3.mono b1.size))
      | (go_at_call 52; refine (unhide CW _).mono ?_; rintro e w2 ⟨rfl, rfl⟩))
    go_ret
    exact ⟨ret_bool (unhide HO).symm, t3⟩
  cases z
  · go_enter Try.func28, Try.ntmps28
    go_wp2_with (first
      | (go_at_call 53; refine (unhide CM _ b1).mono ?_; clear CM; rintro e w3 ⟨rfl, b3⟩; have t3 := b1.trans (b3.mono b1.size); have S3 := hide ((unhide S1).keep b3); have X3 := hide ((unhide X1).keep b3); obtain ⟨u0, u1⟩ := (unhide S3).cells; obtain ⟨y0, y1, y2, y3, y4⟩ := (unhide X3).cells)
      | (go_at_call 53; refine (unhide CY _ t3).mono ?_; rintro e w4 ⟨rfl, b4⟩; have t4 := t3.trans (b4.mono t3.size); have S4 := hide ((unhide S3).keep b4); have X4 := hide ((unhide X3).keep b4))
      | (go_at_call 52; refine (unhide CW _).mono ?_; rintro e w2 ⟨rfl, rfl⟩))
    go_ret
    exact ⟨ret_bool (unhide HO).symm, t4⟩
  obtain ⟨U, hU⟩ : ∃ U, upC cs (cs.length + 1) c = U := ⟨_, rfl⟩
  have HR : Hid (R = U) := by show _ = _; rw [unhide HO, hU]; simp
  have HU2 := hide hU
  clear HO hU
  go_enter Try.func28, Try.ntmps28
  go_wp2_with (first
    | (go_at_call 53; refine (unhide CM _ b1).mono ?_; clear CM; rintro e w3 ⟨rfl, b3⟩; have t3 := b1.trans (b3.mono b1.size); have S3 := hide ((unhide S1).keep b3); have X3 := hide ((unhide X1).keep b3); obtain ⟨u0, u1⟩ := (unhide S3).cells; obtain ⟨y0, y1, y2, y3, y4⟩ := (unhide X3).cells)
    | (go_at_call 53; refine (unhide CY _ t3).mono ?_; rintro e w4 ⟨rfl, b4⟩; have t4 := t3.trans (b4.mono t3.size); have S4 := hide ((unhide S3).keep b4); have X4 := hide ((unhide X3).keep b4))
    | (go_at_call 52; refine (unhide CW _).mono ?_; rintro e w2 ⟨rfl, rfl⟩))
  clear CW CY X1 S1 u0 u1 y0 y1 y2 y3 y4 s0 s1 x0 x1 x2 x3 x4 X3 S3
  go_loopw [5] (fun vi wr => ∃ (k : Nat) (x : Cl) (a1 a2 : Option Addr) (c1 c2 : Nat), vi = .int .i64 (k : Int) ∧ k ≤ cs.length + 1 ∧ Hid (upC cs (cs.length + 1 - k) x = U) ∧ Hid (Bs w.heap.size (.slice aa l.length ca) (.slice ac cs.length cc) wr) ∧ Hid (Bc (w.heap.size + 1) x (.slice a1 x.mus.length c1) (.slice a2 x.may.length c2) wr) ∧ Below w.heap.size w wr) (fun i _ => cs.length + 2 - (intOf i).toNat)
  case atStart => exact ⟨0, c, am, ay, cm, cy, rfl, Nat.zero_le _, unhide HU2, unhide S4, unhide X4, t4⟩
  case round =>
    clear S4 X4 t4 b4 t3 b3 b1 HU2
    obtain ⟨k, x, a1, a2, c1, c2, rfl, hk, HX, HS, HB, hb⟩ := hrel
    have hsz := hb.size
    obtain ⟨x0, x1, x2, x3, x4⟩ := (unhide HB).cells
    obtain ⟨s0, s1⟩ := (unhide HS).cells
    have hem := emp_iff x.abv
    have C1 := hide (unhide CA x.abv wr hb)
    have HCR := hide ((unhide HC).below hb)
    clear CA HC
    by_cases e : x.abv = te
    · rw [decide_eq_true e] at hem
      have HE : Hid (true = R) := by show _ = _; rw [unhide HR, ← unhide HX, upC_stop e]
      clear e HX
      go_wp2
      go_ret
      exact ⟨ret_bool (unhide HE), hb⟩
    rw [decide_eq_false e] at hem
    rcases ixC_fnd cs x.abv with ⟨hf, hi⟩ | ⟨j, hj, hi, hf⟩
    · rw [hi] at C1
      have HE : Hid (false = R) := by show _ = _; rw [unhide HR, ← unhide HX, upC_none e hf]
      clear e HX hf hi
      go_wp2_with (go_at_call 30; refine (unhide C1).mono ?_; rintro e w2 ⟨rfl, b2⟩; have t2 := hb.trans (b2.mono hsz))
      go_ret
      exact ⟨ret_bool (unhide HE), t2⟩
    rw [hi] at C1
    clear hi
    obtain ⟨ac', cc', hvv, hn9, hcc⟩ := unhide HCR
    cases hvv
    obtain ⟨b, off, rfl, hce⟩ := hcc (by omega)
    have HD := hide (hce j hj)
    have hj0 : ¬ (j : Int) < 0 := by omega
    have hjd : decide ((j : Int) < 0) = false := decide_eq_false hj0
    have hj1 : (j : Int) < (cs.length : Int) := by omega
    have hj2 : (0 : Int) ≤ (j : Int) := by omega
    clear hcc hce hn9 HCR
    generalize cs.getD j cl0 = y at *
    by_cases hk2 : cs.length < k
    · have zk : (cs.length : Int) < (k : Int) := by omega
      have HE : Hid (false = R) := by
        show _ = _
        rw [unhide HR, ← unhide HX, show cs.length + 1 - k = 0 by omega]
        exact (decide_eq_false e).symm
      clear e HX hf
      go_wp2_with (go_at_call 30; refine (unhide C1).mono ?_; rintro e w2 ⟨rfl, b2⟩; have t2 := hb.trans (b2.mono hsz); obtain ⟨u0, u1⟩ := ((unhide HS).keep b2).cells)
      go_ret
      exact ⟨ret_bool (unhide HE), t2⟩
    · have zk : ¬ (cs.length : Int) < (k : Int) := by omega
      have HX2 : Hid (upC cs (cs.length + 1 - (k + 1)) y = U) := by
        show _ = _
        rw [← unhide HX, show cs.length + 1 - k = (cs.length + 1 - (k + 1)) + 1 by omega, upC_more e hf]
      clear e HX hf
      go_wp2_with (go_at_call 30; refine (unhide C1).mono ?_; rintro e w2 ⟨rfl, b2⟩; have t2 := hb.trans (b2.mono hsz); have S2 := hide ((unhide HS).keep b2); obtain ⟨u0, u1⟩ := (unhide S2).cells; have B2 := hide ((unhide HB).keep b2); obtain ⟨z0, z1, z2, z3, z4⟩ := (unhide B2).cells; have f0 := (unhide B2).free 0; have f1 := (unhide B2).free 1; have f2 := (unhide B2).free 2; have f3 := (unhide B2).free 3; have f4 := (unhide B2).free 4; obtain ⟨d0, d1, d2, ⟨vm, d3, hm⟩, ⟨vy, d4, hy⟩⟩ := (unhide HD).below b2; obtain ⟨am', cm', rfl, _⟩ := hm; obtain ⟨ay', cy', rfl, _⟩ := hy)
      go_roundw
      case rel => exact ⟨k + 1, y, am', ay', cm', cy', by go_num, by omega, unhide HX2, (putC_heap y _ _ (by omega)).trans (unhide S2), (unhide B2).put y _ _, putC_below t2 (by omega) y _ _⟩
      case measure => simp [intOf]; omega
end Go.Proofs.Ytjjildpdelkejaa
/- The document's Check of layer 21. -/
namespace Go.Proofs.Ytjjildpdelkejaa
open Go.RowKit

theorem chkC_types {l : List Ty} {cs : List Cl} (h : chkT l ≠ 0) : chkT l = 190 ∧ chkC l cs = 190 := by
  unfold chkT at h ⊢
  unfold chkC
  cases hq : okT l <;> simp [hq] at h ⊢
theorem chkC_long {l : List Ty} {cs : List Cl} (h : chkT l = 0) (hl : 12 < cs.length) : chkC l cs = 200 := by
  unfold chkT at h
  unfold chkC okC
  cases hq : okT l
  · simp [hq] at h
  · rw [decide_eq_false (by omega)]; rfl
theorem chkC_no {l : List Ty} {cs : List Cl} {k : Nat} (h : chkT l = 0) (hk : k < cs.length) (hb : okAtC l cs k = false) : chkC l cs = 200 := by
  unfold chkT at h
  unfold chkC okC
  cases hq : okT l
  · simp [hq] at h
  · rw [okToC_bad hk hb, Bool.and_false]; rfl
theorem chkC_yes {l : List Ty} {cs : List Cl} (h : chkT l = 0) (hl : ¬ 12 < cs.length) (hb : okToC l cs cs.length = true) : chkC l cs = 0 := by
  unfold chkT at h
  unfold chkC okC
  cases hq : okT l
  · simp [hq] at h
  · rw [hb, decide_eq_true (by omega)]; rfl
set_option maxHeartbeats 6400000 in
theorem rchk21_any (va vc : Value) (l : List Ty) (cs : List Cl) (w : World) (hT : TysV w va l) (hC : ClsV w vc cs) : Calls Try.prog 11 #[.agg #[va, vc]] w fun e w' => e = .returned (.int .i64 (chkC l cs)) ∧ Below w.heap.size w w' := by
  have mx : Try.prog.follows .mixedOrders = true := by kernel_rfl
  have CK := hide (fun W (h : Below w.heap.size w W) => rchk20_any va l W (hT.below h))
  have HT := hide hT
  have HC := hide hC
  obtain ⟨aa, ca, rfl⟩ := hT.shape
  obtain ⟨ac, cc, rfl⟩ := hC.shape
  clear hT hC
  have b0 := Below.one w (.cells #[.slice aa l.length ca, .slice ac cs.length cc] 25)
  have S0 : Hid (Bs w.heap.size (.slice aa l.length ca) (.slice ac cs.length cc) (w.alloc (.cells #[.slice aa l.length ca, .slice ac cs.length cc] 25))) := heap_new w _
  obtain ⟨s0, s1⟩ := (unhide S0).cells
  by_cases h0 : chkT l = 0
  · rw [h0] at CK
    by_cases hl : 12 < cs.length
    · have zl : (12 : Int) < (cs.length : Int) := by omega
      rw [chkC_long h0 hl]
      clear h0
      go_enter Try.func11, Try.ntmps11
      go_wp2_with (go_at_call 27; refine (unhide CK _ b0).mono ?_; rintro e w2 ⟨rfl, b2⟩; have t2 := b0.trans (b2.mono b0.size); obtain ⟨u0, u1⟩ := ((unhide S0).keep b2).cells)
      go_ret
      exact ⟨rfl, t2⟩
    have zl : ¬ (12 : Int) < (cs.length : Int) := by omega
    have HNO : Hid (∀ k, k < cs.length → okAtC l cs k = false → chkC l cs = 200) := fun k hk h => chkC_no h0 hk h
    have HYE : Hid (okToC l cs cs.length = true → chkC l cs = 0) := fun h => chkC_yes h0 hl h
    have HLL := hide hl
    clear h0 hl
    generalize chkC l cs = R at *
    go_enter Try.func11, Try.ntmps11
    go_wp2_with (go_at_call 27; refine (unhide CK _ b0).mono ?_; rintro e w2 ⟨rfl, b2⟩; have t2 := b0.trans (b2.mono b0.size); have S2 := hide ((unhide S0).keep b2); obtain ⟨u0, u1⟩ := (unhide S2).cells)
    clear u0 u1 s0 s1 CK
    go_loopw [3] (fun vi wr => ∃ k : Nat, k ≤ cs.length ∧ vi = .int .i64 (k : Int) ∧ Hid (okToC l cs k = true) ∧ Hid (Bs w.heap.size (.slice aa l.length ca) (.slice ac cs.length cc) wr) ∧ Below w.heap.size w wr) (fun i _ => cs.length - (intOf i).toNat)
    case atStart => exact ⟨0, Nat.zero_le _, rfl, rfl, unhide S2, t2⟩
    case round =>
      obtain ⟨k, hk, rfl, HK, HB, hb⟩ := hrel
      have hsz := hb.size
      obtain ⟨s0, s1⟩ := (unhide HB).cells
      by_cases hlt : k < cs.length
      · have hzl : (k : Int) < (cs.length : Int) := by omega
        have hz0 : (0 : Int) ≤ (k : Int) := by omega
        have hTr := (unhide HT).below hb
        have hCr := (unhide HC).below hb
        have HCR := hide hCr
        obtain ⟨ac', cc', hvv, hn9, hcc⟩ := hCr
        cases hvv
        obtain ⟨b, off, rfl, hce⟩ := hcc (by omega)
        obtain ⟨d0, d1, d2, ⟨vm, d3, hm⟩, ⟨vy, d4, hy⟩⟩ := hce k hlt
        have HPV : Hid (∀ j, j < cs.length → wr.cell? ⟨b, off + j * 5, none⟩ = some (.string (cs.getD j cl0).nam)) := fun j hj => (hce j hj).1
        have C1 := hide (fun p : BB wr => rone21_any _ _ vm vy l cs (cs.getD k cl0) p.W (hTr.below p.b) ((unhide HCR).below p.b) (hm.below p.b) (hy.below p.b) (by have := unhide HLL; omega))
        have HOK : Hid (okAtC l cs k = (oneC l cs (cs.getD k cl0) && (decide (k = 0) || lsT (cs.getD (k - 1) cl0).nam (cs.getD k cl0).nam))) := rfl
        have HN := hide (unhide HNO k hlt)
        have HS : Hid (okAtC l cs k = true → okToC l cs (k + 1) = true) := fun h => by rw [okToC, unhide HK, h]; rfl
        obtain ⟨am, cm, rfl, hm9⟩ := hm
        obtain ⟨ay, cy, rfl, hy9⟩ := hy
        clear hm9 hy9 hcc hce hn9 HNO HYE HK HCR hTr
        generalize okAtC l cs k = ok at *
        generalize cs.getD k cl0 = y at *
        generalize oneC l cs y = on at *
        replace d0 := cell_bb d0
        replace d1 := cell_bb d1
        replace d2 := cell_bb d2
        replace d3 := cell_bb d3
        replace d4 := cell_bb d4
        have r0 := cell_bb s0
        have r1 := cell_bb s1
        cases on
        · have HE : Hid (200 = R) := (unhide HN (by rw [unhide HOK]; rfl)).symm
          clear HOK HN HS HPV
          go_wp2
          refine wp_region_below (by first | exact mx | assumption) (by kernel_rfl) ?_
          intro nebb
          repeat (go_big_quiet_step ((go_at_call 28; exact callsBB (unhide C1 _))))
          refine wpQuiet_nil ?_
          intro _ hw'
          obtain ⟨pq, hw''⟩ := hw'
          subst hw''
          have bq := pq.b
          generalize pq.W = wq at *
          go_wp2
          go_ret
          exact ⟨ret_int (unhide HE), hb.trans (bq.mono hb.size)⟩
        by_cases k0 : k = 0
        · have zk : decide ((k : Int) > 0) = false := decide_eq_false (by omega)
          have zk2 : decide ((0 : Int) < (k : Int)) = false := decide_eq_false (by omega)
          have zk3 : decide (0 < k) = false := decide_eq_false (by omega)
          have HS2 := hide (unhide HS (by rw [unhide HOK, decide_eq_true k0]; rfl))
          clear HOK HN HS k0 HPV
          go_wp2
          refine wp_region_below (by first | exact mx | assumption) (by kernel_rfl) ?_
          intro nebb
          repeat (go_big_quiet_step ((go_at_call 28; exact callsBB (unhide C1 _))))
          refine wpQuiet_nil ?_
          intro _ hw'
          obtain ⟨pq, hw''⟩ := hw'
          subst hw''
          have bq := pq.b
          generalize pq.W = wq at *
          go_wp2
          go_roundw
          case rel => exact ⟨k + 1, by omega, by go_num, unhide HS2, (unhide HB).keep bq, hb.trans (bq.mono hb.size)⟩
          case measure => simp [intOf]; omega
        have zk : decide ((k : Int) > 0) = true := decide_eq_true (by omega)
        have zk2 : decide ((0 : Int) < (k : Int)) = true := decide_eq_true (by omega)
        have zk3 : decide (0 < k) = true := decide_eq_true (by omega)
        obtain ⟨j, hj⟩ : ∃ j, j = k - 1 := ⟨_, rfl⟩
        have p0 := cell_bb (unhide HPV j (by omega))
        rw [← hj, decide_eq_false k0, Bool.false_or] at HOK
        have wj : IntKind.i64.wrap ((k : Int) - 1) = (j : Int) := by rw [IntKind.wrap_i64]; omega
        have wj2 : (k : Int) - 1 = (j : Int) := by omega
        have hj0 : (0 : Int) ≤ (j : Int) := by omega
        have hj1 : (j : Int) < (cs.length : Int) := by omega
        generalize cs.getD j cl0 = x at *
        have hls : Op.bytesLess x.nam.toList y.nam.toList = lsT x.nam y.nam := rfl
        clear hj
        cases hq : lsT x.nam y.nam <;> rw [hq] at hls HOK
        · have HE : Hid (200 = R) := (unhide HN (by rw [unhide HOK]; rfl)).symm
          clear HOK HN HS k0 hq HPV
          go_wp2
          refine wp_region_below (by first | exact mx | assumption) (by kernel_rfl) ?_
          intro nebb
          repeat (go_big_quiet_step ((go_at_call 28; exact callsBB (unhide C1 _))))
          refine wpQuiet_nil ?_
          intro _ hw'
          obtain ⟨pq, hw''⟩ := hw'
          subst hw''
          have bq := pq.b
          generalize pq.W = wq at *
          go_wp2
          go_ret
          exact ⟨ret_int (unhide HE), hb.trans (bq.mono hb.size)⟩
        · have HS2 := hide (unhide HS (by rw [unhide HOK]; rfl))
          clear HOK HN HS k0 hq HPV
          go_wp2
          refine wp_region_below (by first | exact mx | assumption) (by kernel_rfl) ?_
          intro nebb
          repeat (go_big_quiet_step ((go_at_call 28; exact callsBB (unhide C1 _))))
          refine wpQuiet_nil ?_
          intro _ hw'
          obtain ⟨pq, hw''⟩ := hw'
          subst hw''
          have bq := pq.b
          generalize pq.W = wq at *
          go_wp2
          go_roundw
          case rel => exact ⟨k + 1, by omega, by go_num, unhide HS2, (unhide HB).keep bq, hb.trans (bq.mono hb.size)⟩
          case measure => simp [intOf]; omega
      · have hzl : ¬ (k : Int) < (cs.length : Int) := by omega
        obtain rfl : k = cs.length := by omega
        have HE : Hid (0 = R) := (unhide HYE (unhide HK)).symm
        clear HK HNO HYE
        go_wp2
        go_ret
        exact ⟨ret_int (unhide HE), hb⟩
  · obtain ⟨e1, e2⟩ := chkC_types (cs := cs) h0
    rw [e1] at CK
    rw [e2]
    clear h0 e1 e2
    go_enter Try.func11, Try.ntmps11
    go_wp2_with (go_at_call 27; refine (unhide CK _ b0).mono ?_; rintro e w2 ⟨rfl, b2⟩; have t2 := b0.trans (b2.mono b0.size))
    go_ret
    exact ⟨rfl, t2⟩
end Go.Proofs.Ytjjildpdelkejaa
