/- The law AttrsChecks of layer 20. -/
import Derived.Test.YtoaoplfbnjajiaaAw20
import Derived.Laws.StructEq
namespace Go.Proofs.Ytoaoplfbnjajiaa
open Go.RowKit

theorem attr_under : Try.prog.underlying 26 = some (.struct (Try.prog.fieldsOf 26)) := by kernel_rfl
theorem attr_held : Try.prog.stoodInHeld 26 = false := by kernel_rfl
theorem attr_guard : Try.prog.eqGuardType Try.prog.depth 26 = false := by kernel_rfl
theorem eqIn_attr (y : Ty) (w : World) : (Op.equalIn 10000 26 (.agg #[.string y.nam, .string y.abv, .int .i64 y.syn, .int .i64 y.rul, .bool y.sgl, .bool y.cls]) (.agg #[.string y.nam, .string y.abv, .int .i64 y.syn, .int .i64 y.rul, .bool y.sgl, .bool y.cls])).run Try.prog w = .ok true w := by
  have u3 := Try.underlying9
  have a3 := Try.isAgg9
  have z3 := Try.sizeOf9
  have u4 := Try.underlying3
  have a4 := Try.isAgg3
  have z4 := Try.sizeOf3
  have u5 := Try.underlying4
  have a5 := Try.isAgg4
  have z5 := Try.sizeOf4
  rw [show (10000 : Nat) = 9999 + 1 from rfl, run_equalIn_agg w 9999 26 _ _ attr_under attr_held]
  simp only [Program.fieldsOf, Try.underlying26]
  go_simp
theorem eql_attr (y : Ty) (w : World) : (binOp .eql 26 (.agg #[.string y.nam, .string y.abv, .int .i64 y.syn, .int .i64 y.rul, .bool y.sgl, .bool y.cls]) (.agg #[.string y.nam, .string y.abv, .int .i64 y.syn, .int .i64 y.rul, .bool y.sgl, .bool y.cls])).run Try.prog w = .ok (.bool true) w := by
  rw [run_eql_struct, eqIn_attr]; rfl
set_option maxHeartbeats 3200000 in
theorem checks20_law (v : Value) (l : List Ty) (n : ByteArray) (s : Int) (w : World) (hL : Ly w) (hV : TysV w v l) : Calls Try.prog 3 #[v, .string n, .int .i64 s] w fun e w' => e = .returned (.bool true) ∧ Below w.heap.size w w' := by
  have CF := hide (few20_any v l w hV)
  have CA := hide awake20
  have HL := hide hL
  have HV := hide hV
  obtain ⟨va, vc, rfl⟩ := hV.shape
  clear hL hV
  cases hf : fewT l <;> rw [hf] at CF
  · clear hf HV
    go_enter Try.func3, Try.ntmps3
    go_wp2_with (first
      | (go_at_call 8; refine (unhide CA _ (unhide HL)).mono ?_; rintro e w5 ⟨rfl, b5⟩)
      | (go_at_call 7; refine (unhide CF).mono ?_; rintro e w1 ⟨rfl, rfl⟩))
    go_ret
    exact ⟨rfl, b5⟩
  have C1 := hide (afind_any _ l n w (unhide HL) hf (unhide HV))
  have C2 := hide (fun W hb => rfind_any _ l n W ((unhide HV).below hb))
  have C3 := hide (fun W hb => acheck_any _ l W ((unhide HL).keep hb) hf ((unhide HV).below hb))
  have C4 := hide (fun W hb => rchk20_any _ l W ((unhide HV).below hb))
  have C5 := hide (fun W hb => arul_any s W ((unhide HL).keep hb))
  have C6 := hide (rrul_any s)
  have C7 : Hid (∀ (u1 u2 : Value) (W : World), Row W u1 (rulL s) → Row W u2 (rulL s) → Calls Try.prog 13 #[u1, u2] W fun e w' => e = .returned (.int .i64 0) ∧ Below W.heap.size W w') := fun u1 u2 W h1 h2 => by
    have h3 := rul_len s
    have := S17.rcmp_any u1 u2 (rulL s) (rulL s) W h1 h2 (by omega) (by omega)
    rw [S17.cmp_self] at this
    exact this.mono fun e w' ⟨he, hg⟩ => ⟨he, S17.Gr.below hg⟩
  have heq := fun W => eql_attr (fndA l n) W
  have hgd := attr_guard
  unfold aggV at C1 C2
  clear hf HV
  generalize fndA l n = y at *
  generalize fndB l n = q at *
  generalize chkT l = x at *
  generalize rulL s = Z at *
  have ex : (x == x) = true := by simp
  have eq : (q == q) = true := by simp
  go_enter Try.func3, Try.ntmps3
  go_wp2_with (first
    | (go_at_call 8; refine (unhide CA _ ((unhide HL).keep t7)).mono ?_; rintro e w8 ⟨rfl, b8⟩; have t8 := t7.trans (b8.mono t7.size))
    | (go_at_call 13; refine (unhide C7 _ _ _ (unhide R5b) (unhide R6)).mono ?_; rintro e w7 ⟨rfl, b7⟩; have t7 := t6.trans (b7.mono t6.size))
    | (go_at_call 15; refine (unhide C6 _).mono ?_; rintro e w6 ⟨u6, rfl, hu6, b6⟩; have R6 := hide hu6; have R5b := hide ((unhide R5).below b6); clear hu6; have t6 := t5.trans (b6.mono t5.size))
    | (go_at_call 14; refine (unhide C5 _ t4).mono ?_; rintro e w5 ⟨u5, rfl, hu5, b5⟩; have R5 := hide hu5; clear hu5; have t5 := t4.trans (b5.mono t4.size))
    | (go_at_call 12; refine (unhide C4 _ t3).mono ?_; rintro e w4 ⟨rfl, b4⟩; have t4 := t3.trans (b4.mono t3.size); obtain ⟨c0, c1, c2, c3, c4, c5⟩ := ((unhide X3).keep b4).cells; obtain ⟨d0, d1, d2, d3, d4, d5⟩ := ((unhide Y3).keep b4).cells; simp only [Nat.zero_add] at c1 c2 c3 c4 c5 d1 d2 d3 d4 d5)
    | (go_at_call 11; refine (unhide C3 _ t2x).mono ?_; rintro e w3 ⟨rfl, b3⟩; have t3 := t2x.trans (b3.mono t2x.size); have X3 := hide ((unhide X2).keep b3); have Y3 := hide ((unhide Y2).keep b3))
    | (go_at_call 10; refine (unhide C2 _ t1x).mono ?_; rintro e w2 ⟨rfl, b2⟩; have t2 := t1x.trans (b2.mono t1x.size); have t2x := t2.alloc t2.size (.cells #[.string y.nam, .string y.abv, .int .i64 y.syn, .int .i64 y.rul, .bool y.sgl, .bool y.cls] 26); have X2 := hide (((unhide X1).keep b2).keep (Below.one w2 (.cells #[.string y.nam, .string y.abv, .int .i64 y.syn, .int .i64 y.rul, .bool y.sgl, .bool y.cls] 26))); have Y2 : Hid (Bt w2.heap.size y (w2.alloc (.cells #[.string y.nam, .string y.abv, .int .i64 y.syn, .int .i64 y.rul, .bool y.sgl, .bool y.cls] 26))) := (heap_new w2 _))
    | (go_at_call 9; refine (unhide C1).mono ?_; rintro e w1 ⟨rfl, t1⟩; have t1x := t1.alloc t1.size (.cells #[.string y.nam, .string y.abv, .int .i64 y.syn, .int .i64 y.rul, .bool y.sgl, .bool y.cls] 26); have X1 : Hid (Bt w1.heap.size y (w1.alloc (.cells #[.string y.nam, .string y.abv, .int .i64 y.syn, .int .i64 y.rul, .bool y.sgl, .bool y.cls] 26))) := (heap_new w1 _))
    | (go_at_call 7; refine (unhide CF).mono ?_; rintro e w0 ⟨rfl, rfl⟩))
  go_ret
  exact ⟨rfl, t8⟩
end Go.Proofs.Ytoaoplfbnjajiaa
