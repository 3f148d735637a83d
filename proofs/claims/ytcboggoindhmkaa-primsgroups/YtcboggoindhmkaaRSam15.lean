/- The document's Check of layer 15; Same and SameAll, of what is the same. -/
import Derived.Test.YtcboggoindhmkaaRFin15
namespace Go.Proofs.Ytcboggoindhmkaa
open Go.RowKit

/-- What Check tells. -/
def chkB (e : El) : Int := if 12 < deepE e 13 then 153 else if fineE e = false then 2 else if 4000 < sizeE e then 3 else 0
/-- Same answers true of the same element. -/
def SameOk (e : El) : Prop := ∀ (v v' : Value) (w : World), ElV w e v → ElV w e v' → Calls Try.prog 14 #[v, v'] w fun r w' => r = .returned (.bool true) ∧ Gr w w'
set_option maxHeartbeats 1600000 in
theorem rsameall_of (l : List El) (ih : ∀ e, e ∈ l → SameOk e) (v v' : Value) (w : World) (h1 : ElsV w v l) (h2 : ElsV w v' l) : Calls Try.prog 33 #[v, v'] w fun r w' => r = .returned (.bool true) ∧ Gr w w' := by
  have mx : Try.prog.follows .mixedOrders = true := by kernel_rfl
  obtain ⟨ad, cap, rfl, hn, hc⟩ := h1
  obtain ⟨ad', cap', rfl, _, hc'⟩ := h2
  have HIH := hide ih
  have HL := hide hc
  have HL' := hide hc'
  clear ih hc hc'
  go_enter Try.func33, Try.ntmps33
  go_wp2
  go_loopw [5] (fun vi wr => ∃ i : Nat, i ≤ l.length ∧ vi = .int .i64 (i : Int) ∧ Gr w wr) (fun i _ => l.length - (intOf i).toNat)
  case atStart => exact ⟨0, Nat.zero_le _, rfl, Gr.refl _⟩
  case round =>
    obtain ⟨i, hi, rfl, hnx⟩ := hrel
    by_cases hlt : i < l.length
    · have hzl : (i : Int) < (l.length : Int) := by omega
      have hz0 : (0 : Int) ≤ (i : Int) := by omega
      obtain ⟨g, off, rfl, hl⟩ := (unhide HL).resolve_left (by omega)
      obtain ⟨g', off', rfl, hl'⟩ := (unhide HL').resolve_left (by omega)
      obtain ⟨a0, a1, a2, a3, a4, q0, q1, q2, q3, q4, hv⟩ := hl.get i hlt
      obtain ⟨b0, b1, b2, b3, b4, p0, p1, p2, p3, p4, hv'⟩ := hl'.get i hlt
      replace q0 := cell_gr (hnx.cell q0)
      replace q1 := cell_gr (hnx.cell q1)
      replace q2 := cell_gr (hnx.cell q2)
      replace q3 := cell_gr (hnx.cell q3)
      replace q4 := cell_gr (hnx.cell q4)
      replace p0 := cell_gr (hnx.cell p0)
      replace p1 := cell_gr (hnx.cell p1)
      replace p2 := cell_gr (hnx.cell p2)
      replace p3 := cell_gr (hnx.cell p3)
      replace p4 := cell_gr (hnx.cell p4)
      have CI : Hid (∀ (nn : Nat) (os : Array Obj), Calls Try.prog 14 #[.agg #[a0, a1, a2, a3, a4], .agg #[b0, b1, b2, b3, b4]] (Go.Sort.grow (wr.drewN nn) os) fun r w' => r = .returned (.bool true) ∧ Gr (Go.Sort.grow (wr.drewN nn) os) w') := fun nn os =>
        unhide HIH _ (getD_mem l i hlt) _ _ _ (hv.grow (hnx.grow nn os).below) (hv'.grow (hnx.grow nn os).below)
      clear hv hv' hl hl'
      go_wp2
      refine wp_region_quiet_grown (by first | exact mx | assumption) (by kernel_rfl) ?_
      repeat (go_big_quiet_step ((go_at_call 14; exact callsGr (unhide CI _ _))))
      refine wpQuiet_nil ?_
      intro _ hw'
      obtain ⟨⟨nq, osq⟩, hw''⟩ := hw'
      subst hw''
      go_wp2
      go_roundw
      case rel => exact ⟨i + 1, by omega, by go_num, hnx.grow _ _⟩
      case measure => simp [intOf]; omega
    · have hzl : ¬ (i : Int) < (l.length : Int) := by omega
      go_wp2
      go_ret
      exact ⟨rfl, hnx⟩
set_option maxHeartbeats 1600000 in
theorem rsame_eq (e : El) : SameOk e := by
  induction e using El.ind with
  | h c m n s els ih =>
    intro v v' w h1 h2
    have HS := hide (rsameall_of els ih)
    simp only [ElV] at h1 h2
    obtain ⟨ad, cap, rfl, hn, hc⟩ := h1
    obtain ⟨ad', cap', rfl, _, hc'⟩ := h2
    have g0 : Gr w ((w.alloc (.cells #[.int .i64 c, .bool m, .int .i64 n, .string s, .slice ad els.length cap] 26)).alloc (.cells #[.int .i64 c, .bool m, .int .i64 n, .string s, .slice ad' els.length cap'] 26)) := (Gr.one w _).alloc _
    have e1 : ElsV w (.slice ad els.length cap) els := ⟨ad, cap, rfl, hn, hc⟩
    have e2 : ElsV w (.slice ad' els.length cap') els := ⟨ad', cap', rfl, hn, hc'⟩
    have CI := unhide HS _ _ _ (e1.below g0.below) (e2.below g0.below)
    have hq : (s.toList == s.toList) = true := by simp
    have hm : (m == m) = true := by simp
    clear ih HS e1 e2 hc hc'
    go_enter Try.func14, Try.ntmps14
    go_wp2_with (go_at_call 33; refine CI.mono ?_; rintro e w2 ⟨rfl, g2⟩)
    go_ret
    exact ⟨rfl, g0.trans g2⟩
theorem rsame_any (e : El) (v v' : Value) (w : World) (h1 : ElV w e v) (h2 : ElV w e v') : Calls Try.prog 14 #[v, v'] w fun r w' => r = .returned (.bool true) ∧ Gr w w' := rsame_eq e v v' w h1 h2
theorem rsameall_any (l : List El) (v v' : Value) (w : World) (h1 : ElsV w v l) (h2 : ElsV w v' l) : Calls Try.prog 33 #[v, v'] w fun r w' => r = .returned (.bool true) ∧ Gr w w' := rsameall_of l (fun e _ => rsame_eq e) v v' w h1 h2
end Go.Proofs.Ytcboggoindhmkaa
