/- The program's plain, AsBool, Is of layer 16. -/
import Derived.Test.YtcboggoindhmkaaDa16
import Derived.Test.YtcboggoindhmkaaDc15
import Derived.Test.YtcboggoindhmkaaHlp15
namespace Go.Proofs.Ytcboggoindhmkaa
open Go.RowKit

/-- Has an element contents alone? -/
def plnE (e : El) : Bool := !e.made && decide (e.els.length = 0)
set_option maxHeartbeats 800000 in
theorem plain_any (e : El) (v : Value) (w : World) (hV : ElV w e v) : Calls Try.prog 34 #[v] w fun r w' => r = .returned (.bool (plnE e)) ∧ Gr w w' := by
  obtain ⟨ad, cap, hv, _⟩ := hV.open
  subst hv
  obtain ⟨c, m, n, s, els⟩ := e
  have HE : Hid (plnE (.mk c m n s els) = (!m && decide (els.length = 0))) := rfl
  generalize plnE (.mk c m n s els) = z at *
  simp only
  clear hV
  cases m
  · by_cases h0 : els.length = 0
    · have HZ : Hid (z = true) := by show _ = _; rw [unhide HE, h0]; rfl
      clear HE
      rw [h0]
      go_enter Try.func34, Try.ntmps34
      go_wp2
      go_ret
      exact ⟨ret_bool (unhide HZ).symm, Gr.one w _⟩
    · have HZ : Hid (z = false) := by show _ = _; rw [unhide HE]; simp [h0]
      have h1 : ((els.length : Int) == 0) = false := by simpa using h0
      clear HE
      go_enter Try.func34, Try.ntmps34
      go_wp2
      go_ret
      exact ⟨ret_bool (unhide HZ).symm, Gr.one w _⟩
  · have HZ : Hid (z = false) := unhide HE
    clear HE
    go_enter Try.func34, Try.ntmps34
    go_wp2
    go_ret
    exact ⟨ret_bool (unhide HZ).symm, Gr.one w _⟩
/-- What AsBool tells. -/
def asB (e : El) : Bool × Int := if plnE e = true ∧ e.con.size = 1 then (decide ((nums e.con).getD 0 0 ≠ 0), 0) else (false, 160)
theorem one_byte (s : ByteArray) (h : s.size = 1) : (s.toList == [0]) = decide ((nums s).getD 0 0 = 0) := by
  have hl : s.data.toList.length = 1 := by simpa using h
  obtain ⟨b, hb⟩ : ∃ b, s.data.toList = [b] := List.length_eq_one_iff.1 hl
  unfold nums
  rw [ByteArray.toList_eq, hb]
  rw [Bool.eq_iff_iff]
  simp
  constructor
  · rintro rfl; rfl
  · intro h; exact UInt8.toNat_inj.1 h
set_option maxHeartbeats 800000 in
theorem asbool_any (e : El) (v : Value) (w : World) (hV : ElV w e v) : Calls Try.prog 22 #[v] w fun r w' => r = .returned (.tuple #[.bool (asB e).1, .int .i64 (asB e).2]) ∧ Gr w w' := by
  have HP := hide (fun w2 (g : Gr w w2) => plain_any e v w2 (hV.grow g.below))
  obtain ⟨ad, cap, hv, _⟩ := hV.open
  subst hv
  have HB : Hid (asB e = if plnE e = true ∧ e.con.size = 1 then (decide ((nums e.con).getD 0 0 ≠ 0), 0) else (false, 160)) := rfl
  have g0 := Gr.one w (bxE e ad cap)
  obtain ⟨k0, k1, k2, k3, k4⟩ := bxE_cells w e ad cap
  clear hV
  cases hp : plnE e
  · rw [hp] at HP HB
    rw [unhide HB, if_neg (by simp)]
    clear HB
    go_enter Try.func22, Try.ntmps22
    go_wp2_with (go_at_call 34; refine (unhide HP _ g0).mono ?_; rintro r w2 ⟨rfl, g2⟩)
    go_ret2
    exact ⟨rfl, g0.trans g2⟩
  · rw [hp] at HP HB
    by_cases h1 : e.con.size = 1
    · rw [unhide HB, if_pos ⟨rfl, h1⟩]
      have hq := one_byte e.con h1
      clear HB
      have h2 : ((e.con.size : Int) == 1) = true := by simp [h1]
      by_cases hz : (nums e.con).getD 0 0 = 0
      · rw [decide_eq_true hz] at hq
        rw [decide_eq_false (by simpa using hz)]
        go_enter Try.func22, Try.ntmps22
        go_wp2_with (go_at_call 34; refine (unhide HP _ g0).mono ?_; rintro r w2 ⟨rfl, g2⟩; have q3 := g2.cell k3)
        go_ret2
        exact ⟨rfl, g0.trans g2⟩
      · rw [decide_eq_false hz] at hq
        rw [decide_eq_true hz]
        go_enter Try.func22, Try.ntmps22
        go_wp2_with (go_at_call 34; refine (unhide HP _ g0).mono ?_; rintro r w2 ⟨rfl, g2⟩; have q3 := g2.cell k3)
        go_ret2
        exact ⟨rfl, g0.trans g2⟩
    · have h2 : ((e.con.size : Int) == 1) = false := by simpa using (by omega : ¬ (e.con.size : Int) = 1)
      rw [unhide HB, if_neg (fun h => h1 h.2)]
      clear HB
      go_enter Try.func22, Try.ntmps22
      go_wp2_with (go_at_call 34; refine (unhide HP _ g0).mono ?_; rintro r w2 ⟨rfl, g2⟩; have q3 := g2.cell k3)
      go_ret2
      exact ⟨rfl, g0.trans g2⟩
/-- Is an element of that sort? -/
def isE (e : El) (c n : Int) (m : Bool) : Bool := e.cls == c && (e.num == n && e.made == m)
set_option maxHeartbeats 800000 in
theorem is_any (e : El) (v : Value) (c n : Int) (m : Bool) (w : World) (hV : ElV w e v) : Calls Try.prog 19 #[v, .int .i64 c, .int .i64 n, .bool m] w fun r w' => r = .returned (.bool (isE e c n m)) ∧ Gr w w' := by
  obtain ⟨ad, cap, hv, _⟩ := hV.open
  subst hv
  clear hV
  have HB : Hid (isE e c n m = (e.cls == c && (e.num == n && e.made == m))) := rfl
  generalize isE e c n m = z at *
  cases h1 : e.cls == c
  · rw [h1] at HB
    have HZ : Hid (z = false) := unhide HB
    clear HB
    go_enter Try.func19, Try.ntmps19
    go_wp2
    go_ret
    exact ⟨ret_bool (unhide HZ).symm, Gr.one w _⟩
  · rw [h1] at HB
    cases h2 : e.num == n
    · rw [h2] at HB
      have HZ : Hid (z = false) := unhide HB
      clear HB
      go_enter Try.func19, Try.ntmps19
      go_wp2
      go_ret
      exact ⟨ret_bool (unhide HZ).symm, Gr.one w _⟩
    · rw [h2] at HB
      have HZ : Hid (z = (e.made == m)) := unhide HB
      clear HB
      go_enter Try.func19, Try.ntmps19
      go_wp2
      go_ret
      exact ⟨ret_bool (unhide HZ).symm, Gr.one w _⟩
end Go.Proofs.Ytcboggoindhmkaa
