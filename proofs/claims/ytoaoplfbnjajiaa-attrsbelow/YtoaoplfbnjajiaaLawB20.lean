/- The law AttrsBelow of layer 20. -/
import Derived.Test.YtoaoplfbnjajiaaAw20
namespace Go.Proofs.Ytoaoplfbnjajiaa
open Go.RowKit

/-- Was a text met among the first k? -/
def mt (M : List ByteArray) (a : ByteArray) (k : Nat) : Bool := (M.take k).any fun x => decide (x = a)
theorem mt_next {M : List ByteArray} {a : ByteArray} {k : Nat} (h : k < M.length) : mt M a (k + 1) = (mt M a k || decide (M.getD k te = a)) := by
  unfold mt
  rw [List.take_succ_eq_append_getElem h, List.any_append]
  simp [List.getD, h]
theorem mt_iff (M : List ByteArray) (a : ByteArray) : mt M a M.length = true ↔ a ∈ M := by
  unfold mt
  rw [List.take_length, List.any_eq_true]
  constructor
  · rintro ⟨x, hx, e⟩
    rw [← of_decide_eq_true e]
    exact hx
  · exact fun h => ⟨a, h, by simp⟩
theorem met_is (l : List Ty) (a b : ByteArray) : mt (belT l [b]) a (belT l [b]).length = isT l a b := by
  rw [Bool.eq_iff_iff, mt_iff, bel_mem]
  constructor
  · rintro ⟨n, hn, hi⟩
    have : n = b := by simpa using hn
    rwa [this] at hi
  · exact fun h => ⟨b, by simp, h⟩
set_option maxHeartbeats 3200000 in
theorem below20_law (v : Value) (l : List Ty) (a b : ByteArray) (w : World) (hL : Ly w) (hV : TysV w v l) : Calls Try.prog 6 #[v, .string a, .string b] w fun e w' => e = .returned (.bool true) ∧ Below w.heap.size w w' := by
  have mx : Try.prog.follows .mixedOrders = true := by kernel_rfl
  have CF := hide (few20_any v l w hV)
  have CA := hide awake20
  have HL := hide hL
  have HV := hide hV
  obtain ⟨va, vc, rfl⟩ := hV.shape
  clear hL hV
  cases hf : fewT l <;> rw [hf] at CF
  · clear hf HV
    go_enter Try.func6, Try.ntmps6
    go_wp2_with (first
      | (go_at_call 8; refine (unhide CA _ (unhide HL)).mono ?_; rintro e w5 ⟨rfl, b5⟩)
      | (go_at_call 7; refine (unhide CF).mono ?_; rintro e w1 ⟨rfl, rfl⟩))
    go_ret
    exact ⟨rfl, b5⟩
  have t0 := Below.one w (.cells #[.string b] 9)
  have N0 : TsV (w.alloc (.cells #[.string b] 9)) (.slice (some ⟨w.heap.size, 0, none⟩) 1 1) [b] := ts_of (by rfl) (by simp) (by rfl)
  have C1 := hide (abel_any _ _ l [b] _ ((unhide HL).keep t0) hf ((unhide HV).below t0) N0 (by simp))
  have C2 := hide (fun W hb => afind_any _ l b W ((unhide HL).keep hb) hf ((unhide HV).below hb))
  have C3 := hide (fun W hb => ais_any _ l a b W ((unhide HL).keep hb) hf ((unhide HV).below hb))
  have HM := hide (met_is l a b)
  have HB : Hid (fndB l b = decide (0 < (belT l [b]).length)) := bel_some b
  have HR := hide (bel_rise (l := l) [b])
  clear hf HV N0
  unfold aggV at C2
  generalize belT l [b] = M at *
  generalize fndA l b = y at *
  rw [unhide HB] at C2
  rw [← unhide HM] at C3
  clear HM HB
  go_enter Try.func6, Try.ntmps6
  go_wp2_with (first
    | (go_at_call 21; refine (unhide C1).mono ?_; rintro e w1 ⟨u1, rfl, hu1, b1⟩; obtain ⟨ua, uc, rfl, hn9, hcu⟩ := hu1; have HCU := hide hcu; clear hcu; have t1 := t0.trans (b1.mono t0.size))
    | (go_at_call 7; refine (unhide CF).mono ?_; rintro e w0 ⟨rfl, rfl⟩))
  go_loopw [8, 9] (fun vm i wr => ∃ (k : Nat) (m : Bool), k ≤ M.length ∧ i = .int .i64 (k : Int) ∧ vm = .bool m ∧ Hid (m = mt M a k) ∧ Below w1.heap.size w1 wr) (fun _ i _ => M.length - (intOf i).toNat)
  case atStart => exact ⟨0, false, Nat.zero_le _, rfl, rfl, rfl, Below.refl _ _⟩
  case round =>
    obtain ⟨k, m, hk, rfl, rfl, HM, hb⟩ := hrel
    by_cases hlt : k < M.length
    · have hzl : (k : Int) < (M.length : Int) := by omega
      have hz0 : (0 : Int) ≤ (k : Int) := by omega
      obtain ⟨g, off, rfl, hcc⟩ := unhide HCU (by omega)
      have q0 := (hb.cell (cell_lt (hcc k hlt))).trans (hcc k hlt)
      have HPC : Hid (∀ j, j < M.length → wr.cell? ⟨g, off + j, none⟩ = some (.string (M.getD j te))) := fun j hj => (hb.cell (cell_lt (hcc j hj))).trans (hcc j hj)
      have HNX := hide (mt_next (a := a) hlt)
      rw [← unhide HM] at HNX
      have HRK : Hid (∀ j, j + 1 = k → lsT (M.getD j te) (M.getD k te) = true) := fun j hj => by rw [← hj]; exact unhide HR j (by omega)
      have hq := txt_beq (M.getD k te) a
      clear hcc C1 C2 C3 HCU HR HM
      generalize hx : M.getD k te = x at *
      have HXX := hide hx
      clear hx
      by_cases k0 : k = 0
      · have zk1 : decide ((k : Int) > 0) = false := decide_eq_false (by omega)
        have zk2 : decide ((0 : Int) < (k : Int)) = false := decide_eq_false (by omega)
        have zk3 : decide (0 < k) = false := decide_eq_false (by omega)
        have q1 := cell_bb q0
        clear k0 HRK HPC
        cases m
        · rw [Bool.false_or] at HNX
          cases hxa : decide (x = a) <;> rw [hxa] at hq HNX
          all_goals
            clear hxa
            go_wp2
            refine wp_region_below (by first | exact mx | assumption) (by kernel_rfl) ?_
            intro nebb
            repeat (go_big_quiet_step (fail))
            refine wpQuiet_nil ?_
            intro _ hw'
            obtain ⟨pq, hw''⟩ := hw'
            subst hw''
            have bq := pq.b
            generalize pq.W = wq at *
            go_wp2
            go_roundw
            case rel => exact ⟨k + 1, _, by omega, by go_num, rfl, (unhide HNX).symm, hb.trans (bq.mono hb.size)⟩
            case measure => simp [intOf]; omega
        · rw [Bool.true_or] at HNX
          go_wp2
          refine wp_region_below (by first | exact mx | assumption) (by kernel_rfl) ?_
          intro nebb
          repeat (go_big_quiet_step (fail))
          refine wpQuiet_nil ?_
          intro _ hw'
          obtain ⟨pq, hw''⟩ := hw'
          subst hw''
          have bq := pq.b
          generalize pq.W = wq at *
          go_wp2
          go_roundw
          case rel => exact ⟨k + 1, _, by omega, by go_num, rfl, (unhide HNX).symm, hb.trans (bq.mono hb.size)⟩
          case measure => simp [intOf]; omega
      · have zk1 : decide ((k : Int) > 0) = true := decide_eq_true (by omega)
        have zk2 : decide ((0 : Int) < (k : Int)) = true := decide_eq_true (by omega)
        have zk3 : decide (0 < k) = true := decide_eq_true (by omega)
        obtain ⟨j, hj⟩ : ∃ j, j + 1 = k := ⟨k - 1, by omega⟩
        have hls : Op.bytesLess (M.getD j te).toList x.toList = true := unhide HRK j hj
        have p1 := cell_bb (unhide HPC j (by omega))
        have q1 := cell_bb q0
        have wj : IntKind.i64.wrap ((k : Int) - 1) = (j : Int) := by rw [IntKind.wrap_i64]; omega
        have wj2 : (k : Int) - 1 = (j : Int) := by omega
        have hj0 : (0 : Int) ≤ (j : Int) := by omega
        have hj1 : (j : Int) < (M.length : Int) := by omega
        generalize M.getD j te = p at *
        clear k0 HRK HPC hj
        cases m
        · rw [Bool.false_or] at HNX
          cases hxa : decide (x = a) <;> rw [hxa] at hq HNX
          all_goals
            clear hxa
            go_wp2
            refine wp_region_below (by first | exact mx | assumption) (by kernel_rfl) ?_
            intro nebb
            repeat (go_big_quiet_step (fail))
            refine wpQuiet_nil ?_
            intro _ hw'
            obtain ⟨pq, hw''⟩ := hw'
            subst hw''
            have bq := pq.b
            generalize pq.W = wq at *
            go_wp2
            go_roundw
            case rel => exact ⟨k + 1, _, by omega, by go_num, rfl, (unhide HNX).symm, hb.trans (bq.mono hb.size)⟩
            case measure => simp [intOf]; omega
        · rw [Bool.true_or] at HNX
          go_wp2
          refine wp_region_below (by first | exact mx | assumption) (by kernel_rfl) ?_
          intro nebb
          repeat (go_big_quiet_step (fail))
          refine wpQuiet_nil ?_
          intro _ hw'
          obtain ⟨pq, hw''⟩ := hw'
          subst hw''
          have bq := pq.b
          generalize pq.W = wq at *
          go_wp2
          go_roundw
          case rel => exact ⟨k + 1, _, by omega, by go_num, rfl, (unhide HNX).symm, hb.trans (bq.mono hb.size)⟩
          case measure => simp [intOf]; omega
    · have hzl : ¬ (k : Int) < (M.length : Int) := by omega
      obtain rfl : k = M.length := by omega
      rw [← unhide HM] at C3
      have tb := t1.trans (hb.mono t1.size)
      have emm : (m == m) = true := by simp
      have HQ : Hid (decide ((0 : Int) < (M.length : Int)) = decide (0 < M.length)) := by show _ = _; by_cases h : 0 < M.length <;> simp [h]
      have zq := unhide HQ
      generalize hqq : decide (0 < M.length) = q at *
      have zq2 : decide ((M.length : Int) > 0) = q := zq
      have eqq : (q == q) = true := by simp
      clear HM HCU HR C1
      go_wp2_with (first
        | (go_at_call 8; refine (unhide CA _ ((unhide HL).keep t4)).mono ?_; rintro e w5 ⟨rfl, b5⟩; have t5 := t4.trans (b5.mono t4.size))
        | (go_at_call 16; refine (unhide C3 _ t3x).mono ?_; rintro e w4 ⟨rfl, b4⟩; have t4 := t3x.trans (b4.mono t3x.size))
        | (go_at_call 9; refine (unhide C2 _ tb).mono ?_; rintro e w3 ⟨rfl, b3⟩; have t3 := tb.trans (b3.mono tb.size); have t3x := t3.alloc t3.size (.cells #[.string y.nam, .string y.abv, .int .i64 y.syn, .int .i64 y.rul, .bool y.sgl, .bool y.cls] 26)))
      go_ret
      exact ⟨rfl, t5⟩
end Go.Proofs.Ytoaoplfbnjajiaa
