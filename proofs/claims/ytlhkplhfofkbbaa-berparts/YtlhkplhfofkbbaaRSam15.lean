/- The document's Check of layer 15; Same and SameAll, of what is the same. -/
import Derived.Test.YtlhkplhfofkbbaaRFin15
namespace Go.Proofs.Ytlhkplhfofkbbaa
open Go.RowKit

/-- What Check tells. -/
def chkB (e : El) : Int := if 12 < deepE e 13 then 153 else if fineE e = false then 2 else if 4000 < sizeE e then 3 else 0
set_option maxHeartbeats 400000 in
theorem rDeep_any (e : El) (v : Value) (w : World) (hV : ElV w e v) : Calls Try.prog 14 #[v] w fun r w' => r = .returned (.int .i64 (deepE e 13)) ∧ Gr w w' := by
  obtain ⟨ad, cap, hv, _⟩ := hV.open
  have H := fun (w2 : World) (g : Gr w w2) => rdeep_any e 13 v w2 (hV.grow g.below) (by omega) (by omega)
  clear hV
  subst hv
  have H1 := H _ (Gr.one w (.cells #[.int .i64 e.cls, .bool e.made, .int .i64 e.num, .string e.con, .slice ad e.els.length cap] 26))
  clear H
  generalize ((deepE e 13 : Nat) : Int) = x at *
  go_enter Try.func14, Try.ntmps14
  go_wp2_with (go_at_call 28; refine H1.mono ?_; rintro e w2 ⟨rfl, g2⟩)
  go_ret
  exact ⟨rfl, (Gr.one w _).trans g2⟩
set_option maxHeartbeats 1600000 in
theorem rcheck15_any (e : El) (v : Value) (w : World) (hV : ElV w e v) : Calls Try.prog 12 #[v] w fun r w' => r = .returned (.int .i64 (chkB e)) ∧ Gr w w' := by
  obtain ⟨ad, cap, hv, _⟩ := hV.open
  have HV := hide hV
  have hd := deepE_le e 13 (by omega)
  have hs := sizeE_le e
  have H1 : Hid (∀ w2, Gr w w2 → Calls Try.prog 14 #[v] w2 fun r w' => r = .returned (.int .i64 (deepE e 13)) ∧ Gr w2 w') := fun w2 g => rDeep_any e v w2 ((unhide HV).grow g.below)
  have H2 : Hid (∀ w2, Gr w w2 → Calls Try.prog 25 #[v] w2 fun r w' => r = .returned (.bool (fineE e)) ∧ Gr w2 w') := fun w2 g => rfine_any e v w2 ((unhide HV).grow g.below)
  have H3 : Hid (∀ w2, Gr w w2 → Calls Try.prog 26 #[v] w2 fun r w' => r = .returned (.int .i64 (sizeE e)) ∧ Gr w2 w') := fun w2 g => rsize_any e v w2 ((unhide HV).grow g.below)
  have HC : Hid (chkB e = if 12 < deepE e 13 then 153 else if fineE e = false then 2 else if 4000 < sizeE e then 3 else 0) := rfl
  clear HV hV
  subst hv
  have g0 := Gr.one w (.cells #[.int .i64 e.cls, .bool e.made, .int .i64 e.num, .string e.con, .slice ad e.els.length cap] 26)
  obtain ⟨k0, k1, k2, k3, k4⟩ := box5 (w := w) (T := 26) (a0 := .int .i64 e.cls) (a1 := .bool e.made) (a2 := .int .i64 e.num) (a3 := .string e.con) (a4 := .slice ad e.els.length cap) (Gr.refl _)
  by_cases c1 : 12 < deepE e 13
  · have z1 : (12 : Int) < ((deepE e 13 : Nat) : Int) := by omega
    rw [unhide HC, if_pos c1]
    clear HC
    go_enter Try.func12, Try.ntmps12
    go_wp2_with (go_at_call 14; refine (unhide H1 _ g0).mono ?_; rintro e w2 ⟨rfl, g2⟩)
    go_ret
    exact ⟨rfl, g0.trans g2⟩
  · have z1 : ¬ (12 : Int) < ((deepE e 13 : Nat) : Int) := by omega
    rw [unhide HC, if_neg c1]
    clear HC
    generalize ((deepE e 13 : Nat) : Int) = dd at *
    cases hf : fineE e
    · rw [hf] at H2
      go_enter Try.func12, Try.ntmps12
      go_wp2_with (first
        | (go_at_call 25; refine (unhide H2 _ h2).mono ?_; rintro e w3 ⟨rfl, g3⟩)
        | (go_at_call 14; refine (unhide H1 _ g0).mono ?_; rintro e w2 ⟨rfl, g2⟩; have h2 := g0.trans g2; obtain ⟨q0, q1, q2, q3, q4⟩ := box5 g2))
      go_ret
      exact ⟨rfl, h2.trans g3⟩
    · rw [hf] at H2
      by_cases c3 : 4000 < sizeE e
      · have z3 : (4000 : Int) < ((sizeE e : Nat) : Int) := by omega
        rw [if_neg (by simp), if_pos c3]
        generalize ((sizeE e : Nat) : Int) = ss at *
        go_enter Try.func12, Try.ntmps12
        go_wp2_with (first
          | (go_at_call 26; refine (unhide H3 _ h3).mono ?_; rintro e w4 ⟨rfl, g4⟩)
          | (go_at_call 25; refine (unhide H2 _ h2).mono ?_; rintro e w3 ⟨rfl, g3⟩; have h3 := h2.trans g3; obtain ⟨r0, r1, r2, r3, r4⟩ := box5 (g2.trans g3))
          | (go_at_call 14; refine (unhide H1 _ g0).mono ?_; rintro e w2 ⟨rfl, g2⟩; have h2 := g0.trans g2; obtain ⟨q0, q1, q2, q3, q4⟩ := box5 g2))
        go_ret
        exact ⟨rfl, h3.trans g4⟩
      · have z3 : ¬ (4000 : Int) < ((sizeE e : Nat) : Int) := by omega
        rw [if_neg (by simp), if_neg c3]
        generalize ((sizeE e : Nat) : Int) = ss at *
        go_enter Try.func12, Try.ntmps12
        go_wp2_with (first
          | (go_at_call 26; refine (unhide H3 _ h3).mono ?_; rintro e w4 ⟨rfl, g4⟩)
          | (go_at_call 25; refine (unhide H2 _ h2).mono ?_; rintro e w3 ⟨rfl, g3⟩; have h3 := h2.trans g3; obtain ⟨r0, r1, r2, r3, r4⟩ := box5 (g2.trans g3))
          | (go_at_call 14; refine (unhide H1 _ g0).mono ?_; rintro e w2 ⟨rfl, g2⟩; have h2 := g0.trans g2; obtain ⟨q0, q1, q2, q3, q4⟩ := box5 g2))
        go_ret
        exact ⟨rfl, h3.trans g4⟩
/-- Same answers true of the same element. -/
def SameOk (e : El) : Prop := ∀ (v v' : Value) (w : World), ElV w e v → ElV w e v' → Calls Try.prog 19 #[v, v'] w fun r w' => r = .returned (.bool true) ∧ Gr w w'
set_option maxHeartbeats 1600000 in
theorem rsameall_of (l : List El) (ih : ∀ e, e ∈ l → SameOk e) (v v' : Value) (w : World) (h1 : ElsV w v l) (h2 : ElsV w v' l) : Calls Try.prog 22 #[v, v'] w fun r w' => r = .returned (.bool true) ∧ Gr w w' := by
  have mx : Try.prog.follows .mixedOrders = true := by kernel_rfl
  obtain ⟨ad, cap, rfl, hn, hc⟩ := h1
  obtain ⟨ad', cap', rfl, _, hc'⟩ := h2
  have HIH := hide ih
  have HL := hide hc
  have HL' := hide hc'
  clear ih hc hc'
  go_enter Try.func22, Try.ntmps22
  go_wp2
  go_loopw [5] (fun vi wr => ∃ i : Nat, i ≤ l.length ∧ vi = .int .i64 (i : Int) ∧ Gr w wr) (fun i _ => l.length - (intOf i).toNat)
  case atStart => exact ⟨0, Nat.zero_le _, rfl, Gr.refl _⟩
  case round =>
    obtain ⟨i, hi, rfl, hnx⟩ := hrel
    by_cases hlt : i < l.length
    · have hzl : (i : Int) < (l.length : Int) := by omega
      have hz0 : (0 : Int) ≤ (i : Int) := by omega
      obtain ⟨g, off, rfl, hl⟩ := (unhide HL).resolve_left (by omega)
      obtain ⟨g', off', rfl, hl'⟩ := (unhide HL').resolve_left (by omega)
      obtain ⟨a0, a1, a2, a3, a4, q0, q1, q2, q3, q4, hv⟩ := hl.get i hlt
      obtain ⟨b0, b1, b2, b3, b4, p0, p1, p2, p3, p4, hv'⟩ := hl'.get i hlt
      replace q0 := cell_gr (hnx.cell q0)
      replace q1 := cell_gr (hnx.cell q1)
      replace q2 := cell_gr (hnx.cell q2)
      replace q3 := cell_gr (hnx.cell q3)
      replace q4 := cell_gr (hnx.cell q4)
      replace p0 := cell_gr (hnx.cell p0)
      replace p1 := cell_gr (hnx.cell p1)
      replace p2 := cell_gr (hnx.cell p2)
      replace p3 := cell_gr (hnx.cell p3)
      replace p4 := cell_gr (hnx.cell p4)
      have CI : Hid (∀ (nn : Nat) (os : Array Obj), Calls Try.prog 19 #[.agg #[a0, a1, a2, a3, a4], .agg #[b0, b1, b2, b3, b4]] (Go.Sort.grow (wr.drewN nn) os) fun r w' => r = .returned (.bool true) ∧ Gr (Go.Sort.grow (wr.drewN nn) os) w') := fun nn os =>
        unhide HIH _ (getD_mem l i hlt) _ _ _ (hv.grow (hnx.grow nn os).below) (hv'.grow (hnx.grow nn os).below)
      clear hv hv' hl hl'
      go_wp2
      refine wp_region_quiet_grown (by first | exact mx | assumption) (by kernel_rfl) ?_
      repeat (go_big_quiet_step ((go_at_call 19; exact callsGr (unhide CI _ _))))
      refine wpQuiet_nil ?_
      intro _ hw'
      obtain ⟨⟨nq, osq⟩, hw''⟩ := hw'
      subst hw''
      go_wp2
      go_roundw
      case rel => exact ⟨i + 1, by omega, by go_num, hnx.grow _ _⟩
      case measure => simp [intOf]; omega
    · have hzl : ¬ (i : Int) < (l.length : Int) := by omega
      go_wp2
      go_ret
      exact ⟨rfl, hnx⟩
set_option maxHeartbeats 1600000 in
theorem rsame_eq (e : El) : SameOk e := by
  induction e using El.ind with
  | h c m n s els ih =>
    intro v v' w h1 h2
    have HS := hide (rsameall_of els ih)
    simp only [ElV] at h1 h2
    obtain ⟨ad, cap, rfl, hn, hc⟩ := h1
    obtain ⟨ad', cap', rfl, _, hc'⟩ := h2
    have g0 : Gr w ((w.alloc (.cells #[.int .i64 c, .bool m, .int .i64 n, .string s, .slice ad els.length cap] 26)).alloc (.cells #[.int .i64 c, .bool m, .int .i64 n, .string s, .slice ad' els.length cap'] 26)) := (Gr.one w _).alloc _
    have e1 : ElsV w (.slice ad els.length cap) els := ⟨ad, cap, rfl, hn, hc⟩
    have e2 : ElsV w (.slice ad' els.length cap') els := ⟨ad', cap', rfl, hn, hc'⟩
    have CI := unhide HS _ _ _ (e1.below g0.below) (e2.below g0.below)
    have hq : (s.toList == s.toList) = true := by simp
    have hm : (m == m) = true := by simp
    clear ih HS e1 e2 hc hc'
    go_enter Try.func19, Try.ntmps19
    go_wp2_with (go_at_call 22; refine CI.mono ?_; rintro e w2 ⟨rfl, g2⟩)
    go_ret
    exact ⟨rfl, g0.trans g2⟩
theorem rsame_any (e : El) (v v' : Value) (w : World) (h1 : ElV w e v) (h2 : ElV w e v') : Calls Try.prog 19 #[v, v'] w fun r w' => r = .returned (.bool true) ∧ Gr w w' := rsame_eq e v v' w h1 h2
theorem rsameall_any (l : List El) (v v' : Value) (w : World) (h1 : ElsV w v l) (h2 : ElsV w v' l) : Calls Try.prog 22 #[v, v'] w fun r w' => r = .returned (.bool true) ∧ Gr w w' := rsameall_of l (fun e _ => rsame_eq e) v v' w h1 h2
end Go.Proofs.Ytlhkplhfofkbbaa
