/- The landed fitAbove and mayBe. -/
import Derived.Test.YtoaoplfbnjajiaaEn20
namespace Go.Proofs.Ytoaoplfbnjajiaa
open Go.RowKit

set_option maxHeartbeats 3200000 in
theorem fitab_any (v : Value) (l : List Ty) (a : Ty) (w : World) (hV : TysV w v l) : Calls Try.prog 31 #[v, .agg #[.string a.nam, .string a.abv, .int .i64 a.syn, .int .i64 a.rul, .bool a.sgl, .bool a.cls]] w fun e w' => e = .returned (.bool (abvB l a)) ∧ Below w.heap.size w w' := by
  have mx : Try.prog.follows .mixedOrders = true := by kernel_rfl
  have B0 : Hid (Bt w.heap.size a (w.alloc (.cells #[.string a.nam, .string a.abv, .int .i64 a.syn, .int .i64 a.rul, .bool a.sgl, .bool a.cls] 26))) := heap_new w _
  have b0 := Below.one w (.cells #[.string a.nam, .string a.abv, .int .i64 a.syn, .int .i64 a.rul, .bool a.sgl, .bool a.cls] 26)
  have CF := hide (find_any v l a.abv _ (hV.below b0))
  obtain ⟨va, vc, rfl⟩ := hV.shape
  clear hV
  have hem := emp_iff a.abv
  have HA : Hid (abvB l a = if a.abv = te then true else match fndT l a.abv with | none => false | some b => decide (b.syn = a.syn)) := rfl
  generalize abvB l a = R at *
  by_cases e : a.abv = te
  · rw [decide_eq_true e] at hem
    rw [if_pos e] at HA
    clear e CF
    go_enter Try.func31, Try.ntmps31
    go_wp2
    go_ret
    exact ⟨ret_bool (unhide HA).symm, b0⟩
  rw [decide_eq_false e] at hem
  rw [if_neg e] at HA
  clear e
  unfold fnA fnB at CF
  cases hf : fndT l a.abv with
  | none =>
    rw [hf] at CF HA
    simp only [Option.getD_none, Option.isSome_none] at CF HA
    clear hf
    unfold aggV at CF
    go_enter Try.func31, Try.ntmps31
    go_wp2_with (go_at_call 25; refine (unhide CF).mono ?_; rintro e w2 ⟨rfl, b2⟩; have t2 := b0.trans (b2.mono b0.size))
    go_ret
    exact ⟨ret_bool (unhide HA).symm, t2.trans ((Below.one w2 _).mono t2.size)⟩
  | some b =>
    rw [hf] at CF HA
    simp only [Option.getD_some, Option.isSome_some] at CF HA
    clear hf
    unfold aggV at CF
    have hs : (b.syn == a.syn) = decide (b.syn = a.syn) := by by_cases h : b.syn = a.syn <;> simp [h]
    generalize decide (b.syn = a.syn) = z at *
    go_enter Try.func31, Try.ntmps31
    go_wp2_with (go_at_call 25; refine (unhide CF).mono ?_; rintro e w2 ⟨rfl, b2⟩; have t2 := b0.trans (b2.mono b0.size); have q2 := (((unhide B0).keep b2).keep (Below.one w2 (.cells #[.string b.nam, .string b.abv, .int .i64 b.syn, .int .i64 b.rul, .bool b.sgl, .bool b.cls] 26))).cells.2.2.1; simp only [Nat.zero_add] at q2)
    go_ret
    exact ⟨ret_bool (unhide HA).symm, t2.trans ((Below.one w2 _).mono t2.size)⟩
theorem bs_next {l : List Ty} {k : Nat} (h : ∀ j, j < k → bsAt l j) (hk : bsAt l k) : ∀ j, j < k + 1 → bsAt l j := fun j hj => by
  by_cases e : j = k
  · rw [e]; exact hk
  · exact h j (by omega)
/-- What the second loop sees of a type. -/
def abAt (l : List Ty) (k : Nat) : Prop := abvB l (l.getD k ty0) = true ∧ ∃ xs, xs.length ≤ l.length ∧ wlk l (fndT l (l.getD k ty0).nam) xs none
theorem ab_next {l : List Ty} {k : Nat} (h : ∀ j, j < k → abAt l j) (hk : abAt l k) : ∀ j, j < k + 1 → abAt l j := fun j hj => by
  by_cases e : j = k
  · rw [e]; exact hk
  · exact h j (by omega)
set_option maxHeartbeats 6400000 in
theorem may_any (v : Value) (l : List Ty) (w : World) (hV : TysV w v l) : Calls Try.prog 24 #[v] w fun e w' => e = .returned (.bool (okT l)) ∧ Below w.heap.size w w' := by
  have mx : Try.prog.follows .mixedOrders = true := by kernel_rfl
  have HV := hide hV
  obtain ⟨va, vc, rfl⟩ := hV.shape
  clear hV
  by_cases h24 : 24 < l.length
  · have z : (24 : Int) < (l.length : Int) := by omega
    rw [show okT l = false by unfold okT; rw [decide_eq_false (by omega)]; rfl]
    go_enter Try.func24, Try.ntmps24
    go_wp2
    go_ret
    exact ⟨rfl, Below.refl _ _⟩
  have z : ¬ (24 : Int) < (l.length : Int) := by omega
  have HF : Hid (∀ k, k < l.length → ¬ bsAt l k → okT l = false) := fun k hk h => not_ok fun q => h (ok_fit q hk)
  have HG : Hid (∀ k, k < l.length → abvB l (l.getD k ty0) = false → okT l = false) := fun k hk h => not_ok fun q => by
    rw [okT_abv q (by simp [List.getD, hk])] at h
    cases h
  have HE : Hid (∀ n pre o, wlk l (fndT l n) pre o → pre.length = l.length + 1 → okT l = false) := fun n pre o h1 h2 => not_ok fun q => by
    have := (wlk_few q h1).1
    omega
  have HO : Hid ((∀ k, k < l.length → bsAt l k) → (∀ k, k < l.length → abAt l k) → okT l = true) := fun h1 h2 => ok_of (by omega) h1 h2
  clear h24
  generalize okT l = R at *
  go_enter Try.func24, Try.ntmps24
  go_wp2
  go_loopw [12] (fun vi wr => ∃ k : Nat, k ≤ l.length ∧ vi = .int .i64 (k : Int) ∧ Hid (∀ j, j < k → bsAt l j) ∧ Below w.heap.size w wr) (fun i _ => l.length - (intOf i).toNat)
  case atStart => exact ⟨0, Nat.zero_le _, rfl, fun j hj => absurd hj (Nat.not_lt_zero _), Below.refl _ _⟩
  case round =>
    obtain ⟨k, hk, rfl, HK, hb⟩ := hrel
    have hsz := hb.size
    by_cases hlt : k < l.length
    · have hzl : (k : Int) < (l.length : Int) := by omega
      have hz0 : (0 : Int) ≤ (k : Int) := by omega
      obtain ⟨va', vc', hvv, hn9, hcc⟩ := (unhide HV).below hb
      cases hvv
      obtain ⟨b, off, rfl, hce⟩ := hcc (by omega)
      obtain ⟨d0, d1, d2, d3, d4, d5⟩ := hce k hlt
      have HBS : Hid (bsAt l k = (fitA (l.getD k ty0) = true ∧ (k = 0 ∨ lsT (l.getD (k - 1) ty0).nam (l.getD k ty0).nam = true))) := rfl
      have HN := hide (unhide HF k hlt)
      have HS : Hid (bsAt l k → ∀ j, j < k + 1 → bsAt l j) := fun h => bs_next (unhide HK) h
      have HPV : Hid (∀ j, j < l.length → wr.cell? ⟨b, off + j * 6, none⟩ = some (.string (l.getD j ty0).nam)) := fun j hj => (hce j hj).1
      clear hcc hce hn9 HF HG HE HO HK
      generalize bsAt l k = bs at *
      generalize l.getD k ty0 = y at *
      have b1 : Below wr.heap.size wr (wr.alloc (.cells #[.string y.nam, .string y.abv, .int .i64 y.syn, .int .i64 y.rul, .bool y.sgl, .bool y.cls] 26)) := Below.one wr _
      have hb1 := hb.trans (b1.mono hsz)
      have hX : Bt wr.heap.size y (wr.alloc (.cells #[.string y.nam, .string y.abv, .int .i64 y.syn, .int .i64 y.rul, .bool y.sgl, .bool y.cls] 26)) := heap_new wr _
      obtain ⟨c0, c1, c2, c3, c4, c5⟩ := hX.cells
      simp only [Nat.zero_add] at c1 c2 c3 c4 c5
      replace c0 := cell_bb c0
      replace c1 := cell_bb c1
      replace c2 := cell_bb c2
      replace c3 := cell_bb c3
      replace c4 := cell_bb c4
      replace c5 := cell_bb c5
      have C1 := hide (fun W => fit_any y W)
      clear hX
      generalize fitA y = on at *
      cases on
      · have HR : Hid (false = R) := (unhide HN (by rw [unhide HBS]; simp)).symm
        clear HBS HN HS HPV
        go_wp2
        refine wp_region_below (by first | exact mx | assumption) (by kernel_rfl) ?_
        intro nebb
        repeat (go_big_quiet_step ((go_at_call 30; exact callsBB (unhide C1 _))))
        refine wpQuiet_nil ?_
        intro _ hw'
        obtain ⟨pq, hw''⟩ := hw'
        subst hw''
        have bq := pq.b
        generalize pq.W = wq at *
        go_wp2
        go_ret
        exact ⟨ret_bool (unhide HR), hb1.trans (bq.mono hb1.size)⟩
      by_cases k0 : k = 0
      · have zk : decide ((k : Int) > 0) = false := decide_eq_false (by omega)
        have zk2 : decide ((0 : Int) < (k : Int)) = false := decide_eq_false (by omega)
        have zk3 : decide (0 < k) = false := decide_eq_false (by omega)
        have HS2 := hide (unhide HS (by rw [unhide HBS]; exact ⟨rfl, .inl k0⟩))
        clear HBS HN HS k0 HPV
        go_wp2
        refine wp_region_below (by first | exact mx | assumption) (by kernel_rfl) ?_
        intro nebb
        repeat (go_big_quiet_step ((go_at_call 30; exact callsBB (unhide C1 _))))
        refine wpQuiet_nil ?_
        intro _ hw'
        obtain ⟨pq, hw''⟩ := hw'
        subst hw''
        have bq := pq.b
        generalize pq.W = wq at *
        go_wp2
        go_roundw
        case rel => exact ⟨k + 1, by omega, by go_num, unhide HS2, hb1.trans (bq.mono hb1.size)⟩
        case measure => simp [intOf]; omega
      have zk : decide ((k : Int) > 0) = true := decide_eq_true (by omega)
      have zk2 : decide ((0 : Int) < (k : Int)) = true := decide_eq_true (by omega)
      have zk3 : decide (0 < k) = true := decide_eq_true (by omega)
      obtain ⟨j, hj⟩ : ∃ j, j = k - 1 := ⟨_, rfl⟩
      have p0 := unhide HPV j (by omega)
      replace p0 := cell_bb ((b1.cell (cell_lt p0)).trans p0)
      rw [← hj] at HBS
      have wj : IntKind.i64.wrap ((k : Int) - 1) = (j : Int) := by rw [IntKind.wrap_i64]; omega
      have wj2 : (k : Int) - 1 = (j : Int) := by omega
      have hj0 : (0 : Int) ≤ (j : Int) := by omega
      have hj1 : (j : Int) < (l.length : Int) := by omega
      generalize l.getD j ty0 = x at *
      have hls : Op.bytesLess x.nam.toList y.nam.toList = lsT x.nam y.nam := rfl
      clear hj
      cases hq : lsT x.nam y.nam <;> rw [hq] at hls HBS
      · have HR : Hid (false = R) := (unhide HN (by rw [unhide HBS]; simp [k0])).symm
        clear HBS HN HS k0 hq HPV
        go_wp2
        refine wp_region_below (by first | exact mx | assumption) (by kernel_rfl) ?_
        intro nebb
        repeat (go_big_quiet_step ((go_at_call 30; exact callsBB (unhide C1 _))))
        refine wpQuiet_nil ?_
        intro _ hw'
        obtain ⟨pq, hw''⟩ := hw'
        subst hw''
        have bq := pq.b
        generalize pq.W = wq at *
        go_wp2
        go_ret
        exact ⟨ret_bool (unhide HR), hb1.trans (bq.mono hb1.size)⟩
      · have HS2 := hide (unhide HS (by rw [unhide HBS]; exact ⟨rfl, .inr rfl⟩))
        clear HBS HN HS k0 hq HPV
        go_wp2
        refine wp_region_below (by first | exact mx | assumption) (by kernel_rfl) ?_
        intro nebb
        repeat (go_big_quiet_step ((go_at_call 30; exact callsBB (unhide C1 _))))
        refine wpQuiet_nil ?_
        intro _ hw'
        obtain ⟨pq, hw''⟩ := hw'
        subst hw''
        have bq := pq.b
        generalize pq.W = wq at *
        go_wp2
        go_roundw
        case rel => exact ⟨k + 1, by omega, by go_num, unhide HS2, hb1.trans (bq.mono hb1.size)⟩
        case measure => simp [intOf]; omega
    · have hzl : ¬ (k : Int) < (l.length : Int) := by omega
      obtain rfl : k = l.length := by omega
      have HO2 := hide (unhide HO (unhide HK))
      clear HK HO HF
      go_wp2
      go_loopw [38] (fun vi ws => ∃ k : Nat, k ≤ l.length ∧ vi = .int .i64 (k : Int) ∧ Hid (∀ j, j < k → abAt l j) ∧ Below w.heap.size w ws) (fun i _ => l.length - (intOf i).toNat)
      case atStart => exact ⟨0, Nat.zero_le _, rfl, fun j hj => absurd hj (Nat.not_lt_zero _), hb⟩
      case round =>
        clear hb
        obtain ⟨k, hk, rfl, HK, hb⟩ := hrel
        have hsz := hb.size
        by_cases hlt : k < l.length
        · have hzl : (k : Int) < (l.length : Int) := by omega
          have hz0 : (0 : Int) ≤ (k : Int) := by omega
          have hVr := (unhide HV).below hb
          have HVR := hide hVr
          obtain ⟨va', vc', hvv, hn9, hcc⟩ := hVr
          cases hvv
          obtain ⟨b, off, rfl, hce⟩ := hcc (by omega)
          obtain ⟨d0, d1, d2, d3, d4, d5⟩ := hce k hlt
          have HN := hide (unhide HG k hlt)
          have HS : Hid (abAt l k → ∀ j, j < k + 1 → abAt l j) := fun h => ab_next (unhide HK) h
          have HAB : Hid (abAt l k = (abvB l (l.getD k ty0) = true ∧ ∃ xs, xs.length ≤ l.length ∧ wlk l (fndT l (l.getD k ty0).nam) xs none)) := rfl
          clear hcc hce hn9 HG HK HO2
          generalize abAt l k = ab at *
          generalize l.getD k ty0 = y at *
          have b1 : Below wr.heap.size wr (wr.alloc (.cells #[.string y.nam, .string y.abv, .int .i64 y.syn, .int .i64 y.rul, .bool y.sgl, .bool y.cls] 26)) := Below.one wr _
          have hb1 := hb.trans (b1.mono hsz)
          have C1 := hide (fitab_any _ l y _ ((unhide HVR).below b1))
          have C2 := hide (fun W (hW : Below wr.heap.size wr W) => endless_any _ l y.nam W ((unhide HVR).below hW))
          have HX : Hid (Bt wr.heap.size y (wr.alloc (.cells #[.string y.nam, .string y.abv, .int .i64 y.syn, .int .i64 y.rul, .bool y.sgl, .bool y.cls] 26))) := heap_new wr _
          clear HVR
          generalize abvB l y = on at *
          cases on
          · have HR : Hid (false = R) := (unhide HN rfl).symm
            clear HAB HN HS HE C2 HX
            go_wp2_with (go_at_call 31; refine (unhide C1).mono ?_; rintro e w2 ⟨rfl, b2⟩; have t2 := hb1.trans (b2.mono hb1.size))
            go_ret
            exact ⟨ret_bool (unhide HR), t2⟩
          · clear HN
            go_wp2_with (first
              | (go_at_call 32; refine (unhide C2 _ t1).mono ?_; rintro e w3 ⟨z, rfl, hz1, hz2, b3⟩; have HZ1 := hide hz1; have HZ2 := hide hz2; clear hz1 hz2; have t3 := t2.trans (b3.mono t2.size); cases z)
              | (go_at_call 31; refine (unhide C1).mono ?_; rintro e w2 ⟨rfl, b2⟩; have t2 := hb1.trans (b2.mono hb1.size); have t1 := b1.trans (b2.mono b1.size); have q0 := ((unhide HX).keep b2).cells.1))
            · go_roundw
              case rel => exact ⟨k + 1, by omega, by go_num, unhide HS (by rw [unhide HAB]; exact ⟨trivial, unhide HZ2 trivial⟩), t3⟩
              case measure => simp [intOf]; omega
            · go_ret
              obtain ⟨pre, o, h1, h2⟩ := unhide HZ1 trivial
              exact ⟨ret_bool (unhide HE _ pre o h1 h2).symm, t3⟩
        · have hzl : ¬ (k : Int) < (l.length : Int) := by omega
          obtain rfl : k = l.length := by omega
          have HR : Hid (true = R) := (unhide HO2 (unhide HK)).symm
          clear HK HO2 HG HE
          go_wp2
          go_ret
          exact ⟨ret_bool (unhide HR), hb⟩
end Go.Proofs.Ytoaoplfbnjajiaa
