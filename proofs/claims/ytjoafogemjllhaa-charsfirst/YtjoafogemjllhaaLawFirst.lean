/- The law CharsFirst. -/
import Derived.Test.YtjoafogemjllhaaRSome
import Derived.Test.YtjoafogemjllhaaFind
import Derived.Test.YtjoafogemjllhaaLawTable
namespace Go.Proofs.Ytjoafogemjllhaa
open Go.RowKit
open Go.Sort (grow)

theorem rowsT_rise : rowsT.Pairwise (fun a b => a.t < b.f) := of_decide_eq_true (by kernel_rfl)


theorem rng_mem (f : Int) (j : Nat) (x : Int) (h : x ∈ rng f j) : f ≤ x ∧ x < f + (j : Int) := by
  simp only [rng, List.mem_map, List.mem_range] at h
  obtain ⟨i, hi, rfl⟩ := h
  omega
theorem rng_rise (f : Int) (j : Nat) : (rng f j).Pairwise (· < ·) := by
  induction j with
  | zero => exact List.Pairwise.nil
  | succ j ih =>
    rw [rng_succ, List.pairwise_append]
    refine ⟨ih, List.pairwise_singleton _ _, fun a ha b hb => ?_⟩
    simp only [List.mem_singleton] at hb
    have := (rng_mem f j a ha).2
    omega
theorem ofS_mem (q : Int) (s : Sp) (x : Int) (h : x ∈ ofS q s) : s.h = q ∧ s.f ≤ x ∧ x ≤ s.t := by
  unfold ofS at h
  split at h
  · have := rng_mem _ _ _ h
    refine ⟨by assumption, ?_⟩
    omega
  · simp at h
theorem allK_kd (q x : Int) (h : x ∈ allK q rowsT) : kd x = q := by
  simp only [allK, List.mem_flatMap] at h
  obtain ⟨s, hs, hx⟩ := h
  obtain ⟨h1, h2, h3⟩ := ofS_mem q s x hx
  obtain ⟨m, hm, he⟩ := List.mem_iff_getElem.1 hs
  have hg : rowsT.getD m sp0 = s := by simp [List.getD, hm, he]
  have := search_in (l := rowsT) x (by rw [rowsT_len]; exact rowsT_ok) hm (by rw [hg, inS_iff]; exact ⟨h2, h3⟩)
  rw [kd, this, hg, h1]
theorem allK_rise (q : Int) : (allK q rowsT).Pairwise (· < ·) := by
  rw [allK, List.pairwise_flatMap]
  refine ⟨fun s _ => ?_, ?_⟩
  · unfold ofS
    split
    · exact rng_rise _ _
    · exact List.Pairwise.nil
  · refine rowsT_rise.imp fun hab x hx y hy => ?_
    have h1 := (ofS_mem q _ x hx).2
    have h2 := (ofS_mem q _ y hy).2
    omega
theorem allK_len (q : Int) : ∀ k, k ≤ 106 → ((allK q (rowsT.take k)).length : Int) = cntTo rowsT q k
  | 0, _ => by simp [allK, cntTo]
  | k + 1, h => by
    have hm := rowsT_may k (by omega)
    rw [allK_succ q k (by omega), List.length_append, cntTo]
    have := allK_len q k (by omega)
    push_cast
    rw [this]
    congr 1
    unfold ofS
    split
    · rw [rng_len]; omega
    · rfl
theorem someL_kd (q n : Int) (i : Nat) (h : i < (someL q n).length) : kd ((someL q n).getD i 0) = q := by
  unfold someL at h ⊢
  split at h
  · rename_i hc
    rw [if_pos hc]
    refine allK_kd q _ (List.mem_of_mem_take (i := n.toNat) ?_)
    have e : (List.take n.toNat (allK q rowsT)).getD i 0 = (List.take n.toNat (allK q rowsT))[i] := by simp only [List.getD, List.getElem?_eq_getElem h, Option.getD_some]
    rw [e]
    exact List.getElem_mem h
  · simp at h
theorem someL_rise (q n : Int) (i : Nat) (h0 : 0 < i) (h : i < (someL q n).length) : (someL q n).getD (i - 1) 0 < (someL q n).getD i 0 := by
  have hp : (someL q n).Pairwise (· < ·) := by
    unfold someL
    split
    · exact (allK_rise q).sublist (List.take_sublist _ _)
    · exact List.Pairwise.nil
  have := List.pairwise_iff_getElem.1 hp (i - 1) i (by omega) h (by omega)
  simpa [List.getD, h, show i - 1 < (someL q n).length by omega] using this
theorem cnt_len (q : Int) : cntT rowsT q = ((allK q rowsT).length : Int) := by
  rw [cntT_yes rowsT_chk, rowsT_len, ← allK_len q 106 (Nat.le_refl _), List.take_of_length_le (by rw [rowsT_len]; omega)]
theorem someL_in (q n : Int) (h : 1 ≤ n ∧ n ≤ 500 ∧ 1 ≤ q ∧ q ≤ 7) : ((someL q n).length : Int) = min n (cntT rowsT q) := by
  unfold someL
  rw [if_pos h, List.length_take, cnt_len]
  omega
theorem someL_out (q n : Int) (h : ¬ (1 ≤ n ∧ n ≤ 500 ∧ 1 ≤ q ∧ q ≤ 7)) : someL q n = [] := by
  unfold someL; rw [if_neg h]

set_option maxHeartbeats 3200000 in
theorem first_in (q n : Int) (hin : 1 ≤ n ∧ n ≤ 500 ∧ 1 ≤ q ∧ q ≤ 7) (w : World) :
    Calls Try.prog 7 #[.int .i64 q, .int .i64 n] w fun e w' => e = .returned (.bool true) ∧ Below w.heap.size w w' := by
  have mx := mixed
  have H1 := hide (some_any q n w)
  have H2 := hide table_any
  have H3 := hide (fun W v (h : Tab W v rowsT) => count_any v rowsT q W h)
  have HA := hide awake_any
  have HK := hide (someL_kd q n)
  have HR := hide (someL_rise q n)
  have hlen := someL_len q n
  have hlin := someL_in q n hin
  obtain ⟨i1, i2, i3, i4⟩ := hin
  generalize someL q n = zs at *
  generalize cntT rowsT q = C at *
  go_enter Try.func7, Try.ntmps7
  have HLIN := hide hlin
  clear hlin
  go_wp2_with (go_at_call 16; refine (unhide H1).mono ?_; rintro e w1 ⟨v1, rfl, ho1, hb1⟩; obtain ⟨xa, xc, rfl, hc⟩ := ho1.row; have HC := hide hc; clear hc ho1)
  go_loopw [6] (fun y wr => ∃ k : Nat, k ≤ zs.length ∧ y = .int .i64 (k : Int) ∧ Gr w1 wr) (fun y _ => zs.length - (intOf y).toNat)
  case atStart => exact ⟨0, Nat.zero_le _, rfl, Gr.refl _⟩
  case round =>
    obtain ⟨k, hk, rfl, hg⟩ := hrel
    by_cases hlt : k < zs.length
    · obtain ⟨b, o, rfl, hcc⟩ := unhide HC (by omega)
      have hzl : (k : Int) < (zs.length : Int) := by omega
      have hz0 : (0 : Int) ≤ (k : Int) := by omega
      have g1 := cell_gr (hg.cell (hcc k hlt))
      have hkx := unhide HK k hlt
      by_cases hk0 : k = 0
      · have hngt : ¬ (0 : Int) < (k : Int) := by omega
        have d1 : decide ((k : Int) > 0) = false := decide_eq_false (by omega)
        have d2 : decide ((0 : Int) < (k : Int)) = false := decide_eq_false (by omega)
        have d3 : decide (0 < k) = false := decide_eq_false (by omega)
        clear hk0
        generalize zs.getD k 0 = x at *
        have HX : Hid (∀ W, Calls Try.prog 8 #[.int .i32 x] W fun e w' => e = .returned (.int .i64 q) ∧ Gr W w') := fun W => hkx ▸ kind_any x W
        clear hkx hcc
        go_wp2
        refine wp_region_quiet_grown (by first | exact mx | assumption) (by kernel_rfl) ?_
        repeat (go_big_quiet_step ((go_at_call 8; exact callsGr (unhide HX _))))
        refine wpQuiet_nil ?_
        intro _ hw'
        obtain ⟨⟨nq, osq⟩, hw''⟩ := hw'
        subst hw''
        go_wp2
        go_roundw
        case rel => exact ⟨k + 1, by omega, by go_num, hg.grow _ _⟩
        case measure => simp [intOf]; omega
      · have g2 := cell_gr (hg.cell (hcc (k - 1) (by omega)))
        have hrise := unhide HR k (by omega) hlt
        have hofs : ((k : Int) - 1).toNat = k - 1 := by omega
        have hwr : IntKind.i64.wrap ((k : Int) - 1) = (k : Int) - 1 := by rw [IntKind.wrap_i64]; omega
        have hgt : (0 : Int) < (k : Int) := by omega
        have d1 : decide ((k : Int) > 0) = true := decide_eq_true (by omega)
        have d2 : decide ((0 : Int) < (k : Int)) = true := decide_eq_true (by omega)
        have d3 : decide (0 < k) = true := decide_eq_true (by omega)
        have hge1 : (0 : Int) ≤ (k : Int) - 1 := by omega
        have hlt1 : (k : Int) - 1 < (zs.length : Int) := by omega
        clear hk0
        generalize zs.getD (k - 1) 0 = p at *
        generalize zs.getD k 0 = x at *
        generalize k - 1 = k1 at *
        have hnle : ¬ x ≤ p := by omega
        have d4 : decide (x ≤ p) = false := decide_eq_false hnle
        have HX : Hid (∀ W, Calls Try.prog 8 #[.int .i32 x] W fun e w' => e = .returned (.int .i64 q) ∧ Gr W w') := fun W => hkx ▸ kind_any x W
        clear hkx hcc
        go_wp2
        refine wp_region_quiet_grown (by first | exact mx | assumption) (by kernel_rfl) ?_
        repeat (go_big_quiet_step ((go_at_call 8; exact callsGr (unhide HX _))))
        refine wpQuiet_nil ?_
        intro _ hw'
        obtain ⟨⟨nq, osq⟩, hw''⟩ := hw'
        subst hw''
        go_wp2
        go_roundw
        case rel => exact ⟨k + 1, by omega, by go_num, hg.grow _ _⟩
        case measure => simp [intOf]; omega
    · have hzl : ¬ (k : Int) < (zs.length : Int) := by omega
      have hb := below_gr hb1 hg
      go_wp2_with (first
        | (go_at_call 18; refine (unhide H2 _).mono ?_; rintro e w2 ⟨g2, c2, rfl, ho2, hb2⟩; replace hb := below_on hb hb2; have HT2 := hide (tab_of ho2); clear ho2)
        | (go_at_call 22; refine (unhide H3 _ _ (unhide HT2)).mono ?_; rintro e w3 ⟨rfl, gg⟩; replace hb := below_gr hb gg; clear gg)
        | (go_at_call 14; refine (unhide HA _).mono ?_; rintro e w6 ⟨rfl, gg⟩; replace hb := below_gr hb gg; clear gg))
      go_ret
      exact ⟨rfl, hb⟩

set_option maxHeartbeats 1600000 in
theorem first_out (q n : Int) (hout : ¬ (1 ≤ n ∧ n ≤ 500 ∧ 1 ≤ q ∧ q ≤ 7)) (w : World) :
    Calls Try.prog 7 #[.int .i64 q, .int .i64 n] w fun e w' => e = .returned (.bool true) ∧ Below w.heap.size w w' := by
  have H1 := hide (some_any q n w)
  rw [someL_out q n hout] at H1
  have HA := hide awake_any
  by_cases c0 : ¬ 1 ≤ n
  · clear hout
    go_enter Try.func7, Try.ntmps7
    go_wp2_with (go_at_call 16; refine (unhide H1).mono ?_; rintro e w1 ⟨v1, rfl, ho1, hb⟩; obtain ⟨xa, xc, hv⟩ := ho1.shape; simp only [List.length_nil] at hv; subst hv; clear ho1)
    refine wp_loop_rounds 1 ?_
    rw [rounds_succ]
    go_wp2_with (go_at_call 14; refine (unhide HA _).mono ?_; rintro e w6 ⟨rfl, gg⟩; replace hb := below_gr hb gg; clear gg)
    go_ret
    exact ⟨rfl, hb⟩
  · replace c0 := Decidable.not_not.1 c0
    by_cases c1 : ¬ n ≤ 500
    · clear hout
      go_enter Try.func7, Try.ntmps7
      go_wp2_with (go_at_call 16; refine (unhide H1).mono ?_; rintro e w1 ⟨v1, rfl, ho1, hb⟩; obtain ⟨xa, xc, hv⟩ := ho1.shape; simp only [List.length_nil] at hv; subst hv; clear ho1)
      refine wp_loop_rounds 1 ?_
      rw [rounds_succ]
      go_wp2_with (go_at_call 14; refine (unhide HA _).mono ?_; rintro e w6 ⟨rfl, gg⟩; replace hb := below_gr hb gg; clear gg)
      go_ret
      exact ⟨rfl, hb⟩
    · replace c1 := Decidable.not_not.1 c1
      by_cases c2 : ¬ 1 ≤ q
      · clear hout
        go_enter Try.func7, Try.ntmps7
        go_wp2_with (go_at_call 16; refine (unhide H1).mono ?_; rintro e w1 ⟨v1, rfl, ho1, hb⟩; obtain ⟨xa, xc, hv⟩ := ho1.shape; simp only [List.length_nil] at hv; subst hv; clear ho1)
        refine wp_loop_rounds 1 ?_
        rw [rounds_succ]
        go_wp2_with (go_at_call 14; refine (unhide HA _).mono ?_; rintro e w6 ⟨rfl, gg⟩; replace hb := below_gr hb gg; clear gg)
        go_ret
        exact ⟨rfl, hb⟩
      · replace c2 := Decidable.not_not.1 c2
        have c3 : ¬ q ≤ 7 := fun h9 => hout ⟨c0, c1, c2, h9⟩
        clear hout
        go_enter Try.func7, Try.ntmps7
        go_wp2_with (go_at_call 16; refine (unhide H1).mono ?_; rintro e w1 ⟨v1, rfl, ho1, hb⟩; obtain ⟨xa, xc, hv⟩ := ho1.shape; simp only [List.length_nil] at hv; subst hv; clear ho1)
        refine wp_loop_rounds 1 ?_
        rw [rounds_succ]
        go_wp2_with (go_at_call 14; refine (unhide HA _).mono ?_; rintro e w6 ⟨rfl, gg⟩; replace hb := below_gr hb gg; clear gg)
        go_ret
        exact ⟨rfl, hb⟩

/-- The law, of any two numbers. -/
theorem first_law (q n : Int) (w : World) :
    Calls Try.prog 7 #[.int .i64 q, .int .i64 n] w fun e w' => e = .returned (.bool true) ∧ Below w.heap.size w w' := by
  by_cases h : 1 ≤ n ∧ n ≤ 500 ∧ 1 ≤ q ∧ q ≤ 7
  · exact first_in q n h w
  · exact first_out q n h w
end Go.Proofs.Ytjoafogemjllhaa
