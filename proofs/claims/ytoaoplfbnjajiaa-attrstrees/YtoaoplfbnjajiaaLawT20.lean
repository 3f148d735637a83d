/- The law AttrsTrees of layer 20. -/
import Derived.Test.YtoaoplfbnjajiaaAw20
namespace Go.Proofs.Ytoaoplfbnjajiaa
open Go.RowKit

set_option maxHeartbeats 3200000 in
theorem trees20_law (v u : Value) (l : List Ty) (n : ByteArray) (ns : List ByteArray) (w : World) (hL : Ly w) (hV : TysV w v l) (hN : TsV w u ns) : Calls Try.prog 4 #[v, .string n, u] w fun e w' => e = .returned (.bool true) ∧ Below w.heap.size w w' := by
  have mx : Try.prog.follows .mixedOrders = true := by kernel_rfl
  have CF := hide (few20_any v l w hV)
  have CA := hide awake20
  have HL := hide hL
  have HV := hide hV
  have HN := hide hN
  obtain ⟨va, vc, rfl⟩ := hV.shape
  obtain ⟨ua, uc, rfl, hn9, hcu⟩ := hN
  have HCU := hide hcu
  clear hL hV hcu
  cases hf : fewT l <;> rw [hf] at CF
  · clear hf HV HN HCU
    go_enter Try.func4, Try.ntmps4
    go_wp2_with (first
      | (go_at_call 8; refine (unhide CA _ (unhide HL)).mono ?_; rintro e w5 ⟨rfl, b5⟩)
      | (go_at_call 7; refine (unhide CF).mono ?_; rintro e w1 ⟨rfl, rfl⟩))
    go_ret
    exact ⟨rfl, b5⟩
  by_cases h30 : 30 < ns.length
  · have z : (30 : Int) < (ns.length : Int) := by omega
    clear hf HV HN HCU
    go_enter Try.func4, Try.ntmps4
    go_wp2_with (first
      | (go_at_call 8; refine (unhide CA _ (unhide HL)).mono ?_; rintro e w5 ⟨rfl, b5⟩)
      | (go_at_call 7; refine (unhide CF).mono ?_; rintro e w1 ⟨rfl, rfl⟩))
    go_ret
    exact ⟨rfl, b5⟩
  have z : ¬ (30 : Int) < (ns.length : Int) := by omega
  have h40 := few_len hf
  have C1 := hide (fun a W hb => ais_any _ l n a W ((unhide HL).keep hb) hf ((unhide HV).below hb))
  have C2 := hide (fun a W hb => ris_any _ l n a W ((unhide HV).below hb))
  have C3 := hide (fun W hb => aline_any _ l n W ((unhide HL).keep hb) hf ((unhide HV).below hb))
  have C4 : Hid (∀ W, Below w.heap.size w W → Calls Try.prog 20 #[.slice va l.length vc, .string n] W fun e w' => ∃ r, e = .returned r ∧ TsV w' r (lineT l n) ∧ Below W.heap.size W w') := fun W hb => (rline_any _ l n W ((unhide HV).below hb)).mono fun e w' ⟨r, he, hr, hb⟩ => ⟨r, he, hr.ts (by have := line_len l n; omega), hb⟩
  have C5 := hide (fun W hb => abel_any _ _ l ns W ((unhide HL).keep hb) hf ((unhide HV).below hb) ((unhide HN).below hb) (by omega))
  have C6 : Hid (∀ W, Below w.heap.size w W → Calls Try.prog 22 #[.slice va l.length vc, .slice ua ns.length uc] W fun e w' => ∃ r, e = .returned r ∧ TsV w' r (belT l ns) ∧ Below W.heap.size W w') := fun W hb => (rbel_any _ _ l ns W ((unhide HV).below hb) ((unhide HN).below hb) (by omega)).mono fun e w' ⟨r, he, hr, hb⟩ => ⟨r, he, hr.ts (by have := bel_len l ns; omega), hb⟩
  have C7 : Hid (∀ (L : List ByteArray) (u1 u2 : Value) (W : World), TsV W u1 L → TsV W u2 L → Calls Try.prog 18 #[u1, u2] W fun e w' => e = .returned (.bool true) ∧ Below W.heap.size W w') := fun L u1 u2 W h1 h2 => by
    have := rsm_any u1 u2 L L W h1 h2
    rwa [decide_eq_true (rfl : L = L)] at this
  clear hf HV HN h40
  generalize lineT l n = L at *
  generalize belT l ns = M at *
  go_enter Try.func4, Try.ntmps4
  go_wp2_with (go_at_call 7; refine (unhide CF).mono ?_; rintro e w0 ⟨rfl, rfl⟩)
  go_loopw [7] (fun i wr => ∃ k : Nat, k ≤ ns.length ∧ i = .int .i64 (k : Int) ∧ Below w.heap.size w wr) (fun i _ => ns.length - (intOf i).toNat)
  case atStart => exact ⟨0, Nat.zero_le _, rfl, Below.refl _ _⟩
  case round =>
    obtain ⟨k, hk, rfl, hb⟩ := hrel
    by_cases hlt : k < ns.length
    · have hzl : (k : Int) < (ns.length : Int) := by omega
      have hz0 : (0 : Int) ≤ (k : Int) := by omega
      obtain ⟨b, off, rfl, hcc⟩ := unhide HCU (by omega)
      have q1 := cell_bb ((hb.cell (cell_lt (hcc k hlt))).trans (hcc k hlt))
      have X1 := hide (fun p : BB wr => unhide C1 (ns.getD k te) p.W (hb.trans (p.b.mono hb.size)))
      have X2 := hide (fun p : BB wr => unhide C2 (ns.getD k te) p.W (hb.trans (p.b.mono hb.size)))
      clear hcc C1 C2 C3 C4 C5 C6 C7
      generalize isT l n (ns.getD k te) = y at *
      generalize ns.getD k te = x at *
      cases y
      all_goals
        go_wp2
        refine wp_region_below (by first | exact mx | assumption) (by kernel_rfl) ?_
        intro nebb
        repeat (go_big_quiet_step (first | (go_at_call 17; exact callsBB (unhide X2 _)) | (go_at_call 16; exact callsBB (unhide X1 _))))
        refine wpQuiet_nil ?_
        intro _ hw'
        obtain ⟨pq, hw''⟩ := hw'
        subst hw''
        have bq := pq.b
        generalize pq.W = wq at *
        go_wp2
        go_roundw
        case rel => exact ⟨k + 1, by omega, by go_num, hb.trans (bq.mono hb.size)⟩
        case measure => simp [intOf]; omega
    · have hzl : ¬ (k : Int) < (ns.length : Int) := by omega
      clear C1 C2 HCU
      go_wp2_with (first
        | (go_at_call 8; refine (unhide CA _ ((unhide HL).keep t6)).mono ?_; rintro e w7 ⟨rfl, b7⟩; have t7 := t6.trans (b7.mono t6.size))
        | (go_at_call 18; have M6 := F3; refine (unhide C7 M _ _ _ (unhide U4b) (unhide U5)).mono ?_; rintro e w6 ⟨rfl, b6⟩; have t6 := t5.trans (b6.mono t5.size))
        | (go_at_call 22; refine (unhide C6 _ t4).mono ?_; rintro e w5 ⟨u5, rfl, hu5, b5⟩; have U5 := hide hu5; have U4b := hide ((unhide U4).below b5); clear hu5; have t5 := t4.trans (b5.mono t4.size))
        | (go_at_call 21; refine (unhide C5 _ t3).mono ?_; rintro e w4 ⟨u4, rfl, hu4, b4⟩; have U4 := hide hu4; clear hu4; have t4 := t3.trans (b4.mono t3.size))
        | (go_at_call 18; refine (unhide C7 L _ _ _ (unhide U1b) (unhide U2)).mono ?_; rintro e w3 ⟨rfl, b3⟩; have t3 := t2.trans (b3.mono t2.size); have F3 := trivial)
        | (go_at_call 20; refine (unhide C4 _ t1).mono ?_; rintro e w2 ⟨u2, rfl, hu2, b2⟩; have U2 := hide hu2; have U1b := hide ((unhide U1).below b2); clear hu2; have t2 := t1.trans (b2.mono t1.size))
        | (go_at_call 19; refine (unhide C3 _ hb).mono ?_; rintro e w1 ⟨u1, rfl, hu1, b1⟩; have U1 := hide hu1; clear hu1; have t1 := hb.trans (b1.mono hb.size)))
      go_ret
      exact ⟨rfl, t7⟩
end Go.Proofs.Ytoaoplfbnjajiaa
