/- The landed Depth, Above, Next of layer 23, and the contracts together. -/
import Derived.Test.YtmemflanfklmpaaDa23
import Derived.Test.YtmemflanfklmpaaLy23
namespace Go.Proofs.Ytmemflanfklmpaa
open Go.RowKit
attribute [local go_sem] Oper.semAt_some

theorem trim_end {l p r : List UInt8} (h : l = p ++ r) : l.take (l.length - r.length) = p := by subst h; simp
/-- The last of some texts. -/
def lastT (pre : List Sh) : ByteArray := match pre.getLast? with
  | some x => x.1
  | none => ⟨#[]⟩
theorem lastT_app (pre : List Sh) (x : Sh) : lastT (pre ++ [x]) = x.1 := by unfold lastT; simp
set_option maxHeartbeats 4000000 in
theorem ddep_any (s : ByteArray) (w : World) (h : s.size ≤ 20000) : Calls Try.prog 14 #[.string s] w fun e w' => e = .returned (.int .i64 (depK (bts s))) ∧ Below w.heap.size w w' := by
  have C := hide (fun T => key1 s T w h)
  have ed : depK (bts s) = if okK (bts s) = true then (zer (bts s) : Int) else -1 := rfl
  refine callsIn_wide.1 (callsIn_of_wp_marks (n := 9) Try.func14 rfl trivial (wpIn_wide.2 ?_) rfl)
  simp only [Try.ntmps14, List.size_toArray, List.length_cons, List.length_nil, Nat.reduceAdd, Nat.reduceSub, Array.replicate_succ, Array.replicate_zero, List.push_toArray, List.append_toArray, List.nil_append, List.cons_append]
  cases hk : okK (bts s) <;> rw [hk] at C ed
  · rw [if_neg (by decide)] at ed
    rw [ed]
    clear hk ed h
    go_wp2_with (go_at_call 24; refine (unhide C _).mono ?_; rintro e w1 ⟨rfl, t1⟩)
    exact ⟨_, results_tmp rfl _ _ _, rfl, t1⟩
  · rw [if_pos rfl] at ed
    have hn := prtS_num hk
    rw [← hn] at ed
    have hle := prtS_len s
    rw [ed]
    have HLE := hide (Nat.le_trans hle h)
    clear hk ed hn hle
    go_wp2_with (first
      | (go_at_call 25; refine (mkParts _ _).mono ?_; rintro e w4 ⟨rfl, rfl⟩)
      | (go_at_call 24; refine (unhide C _).mono ?_; rintro e w1 ⟨rfl, t1⟩))
    have KW : Ks w1 (.int .i64 (([] : List Sh).length : Int)) 3 [] ((w1.alloc (.cells #[.int .i64 0] 3)).alloc (.cells #[.string s] 9)) := Ks.keep ⟨heap_new w1 _, Below.one w1 _, fun D hD => (by cases hD), List.nodup_nil⟩ (Below.one _ _)
    have HST := hide (parts_stops 8 (w1.heap.size + 1) s h ((w1.alloc (.cells #[.int .i64 0] 3)).alloc (.cells #[.string s] 9)) (by simp) (by
      have := box1 (w1.alloc (.cells #[.int .i64 0] 3)) (.string s) 9
      rwa [World.size_alloc] at this))
    have hz : ((w1.alloc (.cells #[.int .i64 0] 3)).alloc (.cells #[.string s] 9)).heap.size = w1.heap.size + 2 := by simp
    have hw1 := t1.size
    obtain ⟨W4, hW4⟩ : ∃ W4, W4 = (w1.alloc (.cells #[.int .i64 0] 3)).alloc (.cells #[.string s] 9) := ⟨_, rfl⟩
    rw [← hW4] at KW HST hz ⊢
    clear hW4
    refine (wpIn_wide (n := 9)).1 ?_
    refine wpIn_rangeFunc_ownG (F := Fence.wide) (n := 9) rfl (by omega) (gf := 29) (lb := #[.pointer (some ⟨w1.heap.size + 1, 0, none⟩)]) rfl trivial (enters_of Try.func29 (by kernel_rfl) rfl)
      (unhide HST) (fun _ _ => trivial) (fun _ _ _ _ _ _ _ _ => trivial) (Below.refl _ _) (fun _ => rfl)
      (fun pre W => Ks w1 (.int .i64 (pre.length : Int)) 3 [] W) (fun _ _ _ => False)
      (fun s A B row hs hg hr => hs.kept hg hr (by omega) (fun D hD => by cases hD))
      (fun c s A B row hs hg hr => hs.elim) KW
      (fun x => { tmps := #[.string s, undef, .int .i64 0, .pointer (some ⟨w1.heap.size, 0, none⟩), .string s, .slice (some ⟨w.heap.size, 0, none⟩) 1 1, .bool true, .bool false, .string s, .func (.func 29) #[] #[.pointer (some ⟨w1.heap.size + 1, 0, none⟩)], .string x.1, undef, undef, undef], defers := [] }) ?assign ?body ?done ?stop
    case assign =>
      intro lz x W K hK
      unfold enc23
      gi_wp2
      exact hK
    case body =>
      rintro lz pre x W KW2 hlt
      have f2 := blk_cell KW2.res 0
      have f3 := Lib.frozen_of_heap KW2.res 0
      have hq : (pre ++ [x]).length = pre.length + 1 := by simp
      have KS := hide (KW2.set (.int .i64 ((pre.length : Int) + 1)))
      obtain ⟨q, hql⟩ : ∃ q, q = pre.length := ⟨_, rfl⟩
      have hqs : (q : Int) < 20000 := by have := unhide HLE; omega
      have HQ := hide hq
      rw [← hql] at f2 KS
      have HQL := hide hql
      clear hq hql hlt KW2
      gi_wp2
      refine ⟨(KeepsOthers.setCell _ _ _).from _, trivial, ?_⟩
      have := unhide KS
      show Ks w1 (.int .i64 ((pre ++ [x]).length : Int)) 3 [] _
      rw [unhide HQ, ← unhide HQL]
      exact this
    case done =>
      rintro D ys W hD hys KW2 hK
      have hyl : ys.length = (prtS s).length := by rw [← hys, List.length_map]
      rw [hyl] at KW2
      have f2 := blk_cell KW2.res 0
      have KN := KW2.mark (by omega) hK (fun E hE => by cases hE)
      clear KW2 hK hys hyl
      obtain ⟨q, hq⟩ : ∃ q, q = (prtS s).length := ⟨_, rfl⟩
      rw [← hq] at f2 KN
      have HQ := hide hq
      clear hq
      go_wp2
      refine leaves_marks w.heap.size (fun W => Below w.heap.size w W) (fun W D h hD hd => h.grown (grownBy_putObj' W D _) h.size (fun q e => by cases e; exact hD)) (fun W h => ?_) [D] W KN.nd (fun E hE => ⟨Nat.le_trans hw1 (KN.ms E hE).1, (KN.ms E hE).2⟩) (t1.trans (KN.bel.mono hw1))
      exact ⟨_, results_tmp rfl _ _ _, by show Ending.returned (.int .i64 (q : Int)) = _; rw [unhide HQ], h⟩
    case stop => exact fun _ _ _ _ _ _ h => h.elim
set_option maxHeartbeats 4000000 in
theorem dabo_any (s : ByteArray) (w : World) (h : s.size ≤ 20000) : Calls Try.prog 10 #[.string s] w fun e w' => e = .returned (.tuple #[.string (aboS s), .bool (hasP s)]) ∧ Below w.heap.size w w' := by
  refine callsIn_wide.1 (callsIn_of_wp_marks (n := 9) Try.func10 rfl trivial (wpIn_wide.2 ?_) rfl)
  simp only [Try.ntmps10, List.size_toArray, List.length_cons, List.length_nil, Nat.reduceAdd, Nat.reduceSub, Array.replicate_succ, Array.replicate_zero, List.push_toArray, List.append_toArray, List.nil_append, List.cons_append]
  by_cases h0 : s.size = 0
  · obtain rfl := emp_bts h0
    have e1 : aboS ⟨#[]⟩ = ⟨#[]⟩ ∧ hasP ⟨#[]⟩ = false := ⟨by kernel_rfl, by kernel_rfl⟩
    rw [e1.1, e1.2]
    clear h h0 e1
    go_wp2
    exact ⟨_, results_tmp2 rfl _ _ _, rfl, Below.refl _ _⟩
  · have he := emp_not h0
    have hl := bts_len s
    have C := hide (fun T => key1 s T w h)
    cases hk : okK (bts s) <;> rw [hk] at C
    · have e2 : hasP s = false := by unfold hasP; rw [hk]; rfl
      have e1 : aboS s = ⟨#[]⟩ := by unfold aboS; rw [e2]; rfl
      rw [e1, e2]
      clear h h0 e1 e2 hk hl
      go_wp2_with (go_at_call 24; refine (unhide C _).mono ?_; rintro e w1 ⟨rfl, t1⟩)
      exact ⟨_, results_tmp2 rfl _ _ _, rfl, t1⟩
    · have e2 : hasP s = true := by unfold hasP; rw [hk, decide_eq_true h0]; rfl
      rw [e2]
      go_wp2_with (first
        | (go_at_call 25; refine (mkParts _ _).mono ?_; rintro e w4 ⟨rfl, rfl⟩)
        | (go_at_call 24; refine (unhide C _).mono ?_; rintro e w1 ⟨rfl, t1⟩))
      have KW : Ks w1 (.string (lastT [])) 9 [] ((w1.alloc (.cells #[.string ⟨#[]⟩] 9)).alloc (.cells #[.string s] 9)) := Ks.keep ⟨heap_new w1 _, Below.one w1 _, fun D hD => (by cases hD), List.nodup_nil⟩ (Below.one _ _)
      have HST := hide (parts_stops 8 (w1.heap.size + 1) s h ((w1.alloc (.cells #[.string ⟨#[]⟩] 9)).alloc (.cells #[.string s] 9)) (by simp) (by
        have := box1 (w1.alloc (.cells #[.string ⟨#[]⟩] 9)) (.string s) 9
        rwa [World.size_alloc] at this))
      have hz : ((w1.alloc (.cells #[.string ⟨#[]⟩] 9)).alloc (.cells #[.string s] 9)).heap.size = w1.heap.size + 2 := by simp
      have hw1 := t1.size
      obtain ⟨W4, hW4⟩ : ∃ W4, W4 = (w1.alloc (.cells #[.string ⟨#[]⟩] 9)).alloc (.cells #[.string s] 9) := ⟨_, rfl⟩
      rw [← hW4] at KW HST hz ⊢
      clear hW4
      refine (wpIn_wide (n := 9)).1 ?_
      refine wpIn_rangeFunc_ownG (F := Fence.wide) (n := 9) rfl (by omega) (gf := 29) (lb := #[.pointer (some ⟨w1.heap.size + 1, 0, none⟩)]) rfl trivial (enters_of Try.func29 (by kernel_rfl) rfl)
        (unhide HST) (fun _ _ => trivial) (fun _ _ _ _ _ _ _ _ => trivial) (Below.refl _ _) (fun _ => rfl)
        (fun pre W => Ks w1 (.string (lastT pre)) 9 [] W) (fun _ _ _ => False)
        (fun s A B row hs hg hr => hs.kept hg hr (by omega) (fun D hD => by cases hD))
        (fun c s A B row hs hg hr => hs.elim) KW
        (fun x => { tmps := #[.string s, undef, .string ⟨#[]⟩, .bool false, .pointer (some ⟨w1.heap.size, 0, none⟩), .string x.1, .string s, .bool false, .bool false, .string s, .slice (some ⟨w.heap.size, 0, none⟩) 1 1, .bool true, .bool false, .bool false, .string s, .func (.func 29) #[] #[.pointer (some ⟨w1.heap.size + 1, 0, none⟩)], .string x.1, undef, undef, undef, undef], defers := [] }) ?assign ?body ?done ?stop
      case assign =>
        intro lz x W K hK
        unfold enc23
        gi_wp2
        exact hK
      case body =>
        rintro lz pre x W KW2 _
        have f2 := blk_cell KW2.res 0
        have f3 := Lib.frozen_of_heap KW2.res 0
        have KS := hide (KW2.set (.string x.1))
        have HQ := hide (lastT_app pre x)
        clear KW2
        generalize lastT pre = lp at *
        generalize x.1 = x1 at *
        gi_wp2
        refine ⟨(KeepsOthers.setCell _ _ _).from _, trivial, ?_⟩
        have := unhide KS
        show Ks w1 (.string (lastT (pre ++ [x]))) 9 [] _
        rw [unhide HQ]
        exact this
      case done =>
        rintro D ys W hD hys KW2 hK
        have hb0 : bts s ≠ [] := fun e => h0 (by rw [← hl, e]; rfl)
        obtain ⟨ini, last, e3, e4⟩ := prtS_last hb0 hk
        have e5 : lastT ys = last := by
          rw [e3] at hys
          rcases List.eq_nil_or_concat ys with rfl | ⟨yi, y, rfl⟩
          · simp at hys
          · rw [List.concat_eq_append, lastT_app]
            rw [List.concat_eq_append, List.map_append] at hys
            have := (List.append_inj' hys rfl).2
            simpa using this
        rw [e5] at KW2
        have f2 := blk_cell KW2.res 0
        have KN := KW2.mark (by omega) hK (fun E hE => by cases hE)
        have T := tsuf_any s last W (by omega)
        have e6 : (⟨(Lib.trimSuffix s.data.toList last.data.toList).toArray⟩ : ByteArray) = aboS s := by
          unfold Lib.trimSuffix Lib.hasSuffix aboS
          have e7 : (bts last).isSuffixOf (bts s) = true := by
            rw [List.isSuffixOf_iff_suffix]
            exact ⟨_, e4.symm⟩
          rw [e7, if_pos rfl, e2, if_pos rfl]
          show ofb _ = ofb _
          congr 1
          exact trim_end e4
        rw [e6] at T
        have HT := hide T
        clear KW2 hK hys e3 e4 e5 e6 T hb0 he hl h0 hk
        obtain ⟨y, hy⟩ : ∃ y, y = aboS s := ⟨_, rfl⟩
        rw [← hy] at HT
        have HY := hide hy
        clear hy
        go_wp2_with (go_at_call 26; refine (unhide HT).mono ?_; rintro e w5 ⟨rfl, rfl⟩)
        refine leaves_marks w.heap.size (fun W => Below w.heap.size w W) (fun W D h hD hd => h.grown (grownBy_putObj' W D _) h.size (fun q e => by cases e; exact hD)) (fun W h => ?_) [D] W KN.nd (fun E hE => ⟨Nat.le_trans hw1 (KN.ms E hE).1, (KN.ms E hE).2⟩) (t1.trans (KN.bel.mono hw1))
        exact ⟨_, results_tmp2 rfl _ _ _, by show Ending.returned (.tuple #[.string y, .bool true]) = _; rw [unhide HY], h⟩
      case stop => exact fun _ _ _ _ _ _ h => h.elim
set_option maxHeartbeats 1600000 in
theorem dnex_any (a b : ByteArray) (w : World) (h1 : a.size ≤ 20000) (h2 : b.size ≤ 20000) : Calls Try.prog 22 #[.string a, .string b] w fun e w' => e = .returned (.bool (nexS a b)) ∧ Below w.heap.size w w' := by
  have U := hide (dund_any a b w h1 h2)
  have A := hide (fun W => ddep_any a W h1)
  have B := hide (fun W => ddep_any b W h2)
  have en : nexS a b = (undS a b && decide (depK (bts a) = depK (bts b) + 1)) := rfl
  have db := dep_bound b
  rw [en]
  generalize undS a b = u at *
  generalize depK (bts a) = x at *
  generalize depK (bts b) = y at *
  cases u
  · rw [Bool.false_and]
    clear en A B db h1 h2
    go_enter Try.func22, Try.ntmps22
    go_wp2_with (go_at_call 20; refine (unhide U).mono ?_; rintro e w1 ⟨rfl, t1⟩)
    go_ret
    exact ⟨rfl, t1⟩
  · rw [Bool.true_and]
    have w1 : IntKind.i64.wrap (y + 1) = y + 1 := by rw [IntKind.wrap_i64]; omega
    have w3 : wrap64 (y + 1) = y + 1 := by unfold wrap64; omega
    have eq : (x == y + 1) = decide (x = y + 1) := by by_cases h : x = y + 1 <;> simp [h]
    clear en db h1 h2
    go_enter Try.func22, Try.ntmps22
    go_wp2_with (first
      | (go_at_call 14; have M := F1; refine (unhide B _).mono ?_; rintro e w3 ⟨rfl, b3⟩; have t3 := t2.trans (b3.mono t2.size))
      | (go_at_call 14; refine (unhide A _).mono ?_; rintro e w2 ⟨rfl, b2⟩; have t2 := t1.trans (b2.mono t1.size); have F1 := trivial)
      | (go_at_call 20; refine (unhide U).mono ?_; rintro e w1 ⟨rfl, t1⟩))
    go_ret
    exact ⟨by simp, t3⟩
theorem c23 : C23 := ⟨dchk_any, ddep_any, dabo_any, dund_any, dnex_any, dmov_any, dbeh_any⟩
end Go.Proofs.Ytmemflanfklmpaa
