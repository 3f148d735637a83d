/- The document's Check of layer 20. -/
import Derived.Test.YtoaoplfbnjajiaaROne20
namespace Go.Proofs.Ytoaoplfbnjajiaa
open Go.RowKit

theorem chkT_long {l : List Ty} (h : 24 < l.length) : chkT l = 190 := by
  unfold chkT okT
  rw [decide_eq_false (by omega)]
  rfl
theorem chkT_no {l : List Ty} {k : Nat} (hk : k < l.length) (h : okAt20 l k = false) : chkT l = 190 := by
  unfold chkT okT
  rw [okTo20_bad hk h, Bool.and_false]
  rfl
theorem chkT_yes {l : List Ty} (h1 : ¬ 24 < l.length) (h : okTo20 l l.length = true) : chkT l = 0 := by
  unfold chkT okT
  rw [h, decide_eq_true (show l.length ≤ 24 by omega)]
  rfl
set_option maxHeartbeats 3200000 in
theorem rchk20_any (v : Value) (l : List Ty) (w : World) (hV : TysV w v l) : Calls Try.prog 12 #[v] w fun e w' => e = .returned (.int .i64 (chkT l)) ∧ Below w.heap.size w w' := by
  have mx : Try.prog.follows .mixedOrders = true := by kernel_rfl
  have HV := hide hV
  obtain ⟨va, vc, rfl⟩ := hV.shape
  clear hV
  by_cases h24 : 24 < l.length
  · have z : (24 : Int) < (l.length : Int) := by omega
    rw [chkT_long h24]
    go_enter Try.func12, Try.ntmps12
    go_wp2
    go_ret
    exact ⟨rfl, Below.refl _ _⟩
  have z : ¬ (24 : Int) < (l.length : Int) := by omega
  have HNO := hide (fun k hk h => chkT_no (l := l) (k := k) hk h)
  have HYE := hide (fun h => chkT_yes (l := l) h24 h)
  have H24 := hide h24
  clear h24
  generalize chkT l = R at *
  go_enter Try.func12, Try.ntmps12
  go_wp2
  go_loopw [3] (fun vi wr => ∃ k : Nat, k ≤ l.length ∧ vi = .int .i64 (k : Int) ∧ Hid (okTo20 l k = true) ∧ Below w.heap.size w wr) (fun i _ => l.length - (intOf i).toNat)
  case atStart => exact ⟨0, Nat.zero_le _, rfl, rfl, Below.refl _ _⟩
  case round =>
    obtain ⟨k, hk, rfl, HK, hb⟩ := hrel
    by_cases hlt : k < l.length
    · have hzl : (k : Int) < (l.length : Int) := by omega
      have hz0 : (0 : Int) ≤ (k : Int) := by omega
      have hVr := (unhide HV).below hb
      have C1 := hide (fun p : BB wr => rone_any _ l (l.getD k ty0) p.W (hVr.below p.b) (by have := unhide H24; omega))
      obtain ⟨va', vc', hvv, hn9, hcc⟩ := hVr
      cases hvv
      obtain ⟨b, off, rfl, hce⟩ := hcc (by omega)
      obtain ⟨d0, d1, d2, d3, d4, d5⟩ := hce k hlt
      have HOK : Hid (okAt20 l k = (oneT l (l.getD k ty0) && (decide (k = 0) || lsT (l.getD (k - 1) ty0).nam (l.getD k ty0).nam))) := rfl
      have HN := hide (unhide HNO k hlt)
      have HS : Hid (okAt20 l k = true → okTo20 l (k + 1) = true) := fun h => by rw [okTo20, unhide HK, h]; rfl
      have HPV : Hid (∀ j, j < l.length → wr.cell? ⟨b, off + j * 6, none⟩ = some (.string (l.getD j ty0).nam)) := fun j hj => (hce j hj).1
      clear hcc hce hn9 HNO HYE HK
      generalize okAt20 l k = ok at *
      generalize l.getD k ty0 = y at *
      generalize oneT l y = on at *
      replace d0 := cell_bb d0
      replace d1 := cell_bb d1
      replace d2 := cell_bb d2
      replace d3 := cell_bb d3
      replace d4 := cell_bb d4
      replace d5 := cell_bb d5
      cases on
      · have HE : Hid (190 = R) := (unhide HN (by rw [unhide HOK]; rfl)).symm
        clear HOK HN HS
        go_wp2
        refine wp_region_below (by first | exact mx | assumption) (by kernel_rfl) ?_
        intro nebb
        repeat (go_big_quiet_step ((go_at_call 27; exact callsBB (unhide C1 _))))
        refine wpQuiet_nil ?_
        intro _ hw'
        obtain ⟨pq, hw''⟩ := hw'
        subst hw''
        have bq := pq.b
        generalize pq.W = wq at *
        go_wp2
        go_ret
        exact ⟨ret_int (unhide HE), hb.trans (bq.mono hb.size)⟩
      by_cases k0 : k = 0
      · have zk : decide ((k : Int) > 0) = false := decide_eq_false (by omega)
        have zk2 : decide ((0 : Int) < (k : Int)) = false := decide_eq_false (by omega)
        have zk3 : decide (0 < k) = false := decide_eq_false (by omega)
        have HS2 := hide (unhide HS (by rw [unhide HOK, decide_eq_true k0]; rfl))
        clear HOK HN HS k0
        go_wp2
        refine wp_region_below (by first | exact mx | assumption) (by kernel_rfl) ?_
        intro nebb
        repeat (go_big_quiet_step ((go_at_call 27; exact callsBB (unhide C1 _))))
        refine wpQuiet_nil ?_
        intro _ hw'
        obtain ⟨pq, hw''⟩ := hw'
        subst hw''
        have bq := pq.b
        generalize pq.W = wq at *
        go_wp2
        go_roundw
        case rel => exact ⟨k + 1, by omega, by go_num, unhide HS2, hb.trans (bq.mono hb.size)⟩
        case measure => simp [intOf]; omega
      have zk : decide ((k : Int) > 0) = true := decide_eq_true (by omega)
      have zk2 : decide ((0 : Int) < (k : Int)) = true := decide_eq_true (by omega)
      have zk3 : decide (0 < k) = true := decide_eq_true (by omega)
      obtain ⟨j, hj⟩ : ∃ j, j = k - 1 := ⟨_, rfl⟩
      have p0 := cell_bb (unhide HPV j (by omega))
      rw [← hj, decide_eq_false k0, Bool.false_or] at HOK
      have wj : IntKind.i64.wrap ((k : Int) - 1) = (j : Int) := by rw [IntKind.wrap_i64]; omega
      have wj2 : (k : Int) - 1 = (j : Int) := by omega
      have hj0 : (0 : Int) ≤ (j : Int) := by omega
      have hj1 : (j : Int) < (l.length : Int) := by omega
      generalize l.getD j ty0 = x at *
      have hls : Op.bytesLess x.nam.toList y.nam.toList = lsT x.nam y.nam := rfl
      clear hj
      cases hq : lsT x.nam y.nam <;> rw [hq] at hls HOK
      · have HE : Hid (190 = R) := (unhide HN (by rw [unhide HOK]; rfl)).symm
        clear HOK HN HS k0 hq HPV
        go_wp2
        refine wp_region_below (by first | exact mx | assumption) (by kernel_rfl) ?_
        intro nebb
        repeat (go_big_quiet_step ((go_at_call 27; exact callsBB (unhide C1 _))))
        refine wpQuiet_nil ?_
        intro _ hw'
        obtain ⟨pq, hw''⟩ := hw'
        subst hw''
        have bq := pq.b
        generalize pq.W = wq at *
        go_wp2
        go_ret
        exact ⟨ret_int (unhide HE), hb.trans (bq.mono hb.size)⟩
      · have HS2 := hide (unhide HS (by rw [unhide HOK]; rfl))
        clear HOK HN HS k0 hq HPV
        go_wp2
        refine wp_region_below (by first | exact mx | assumption) (by kernel_rfl) ?_
        intro nebb
        repeat (go_big_quiet_step ((go_at_call 27; exact callsBB (unhide C1 _))))
        refine wpQuiet_nil ?_
        intro _ hw'
        obtain ⟨pq, hw''⟩ := hw'
        subst hw''
        have bq := pq.b
        generalize pq.W = wq at *
        go_wp2
        go_roundw
        case rel => exact ⟨k + 1, by omega, by go_num, unhide HS2, hb.trans (bq.mono hb.size)⟩
        case measure => simp [intOf]; omega
    · have hzl : ¬ (k : Int) < (l.length : Int) := by omega
      obtain rfl : k = l.length := by omega
      have HE : Hid (0 = R) := (unhide HYE (unhide HK)).symm
      clear HK HNO HYE
      go_wp2
      go_ret
      exact ⟨ret_int (unhide HE), hb⟩
end Go.Proofs.Ytoaoplfbnjajiaa
