/- The document's AsInt and AsBool of layer 16 (made by gen_ras.py). -/
import Derived.Test.YtcboggoindhmkaaRMk16
import Derived.Test.YtcboggoindhmkaaDc16
namespace Go.Proofs.Ytcboggoindhmkaa
open Go.RowKit

theorem ret_be {a b : Bool} {c : Int} (h : a = b) : Ending.returned (.tuple #[.bool a, .int .i64 c]) = .returned (.tuple #[.bool b, .int .i64 c]) := by rw [h]
theorem pln_parts {e : El} (h : plnE e = true) : e.made = false ∧ e.els.length = 0 := by
  unfold plnE at h
  cases hm : e.made
  · rw [hm] at h
    exact ⟨rfl, by simpa using h⟩
  · rw [hm] at h; simp at h
set_option maxHeartbeats 1600000 in
theorem rasint_no (e : El) (hp : plnE e = false) (v : Value) (w : World) (hV : ElV w e v) : Calls Try.prog 21 #[v] w fun r w' => r = .returned (.tuple #[.int .i64 0, .int .i64 160]) ∧ Gr w w' := by
  obtain ⟨ad, cap, hv, _⟩ := hV.open
  subst hv
  clear hV
  cases hm : e.made
  · have hl : (0 : Int) < (e.els.length : Int) := by
      unfold plnE at hp
      rw [hm] at hp
      simp at hp
      have := List.length_pos_iff.2 hp
      omega
    clear hp
    generalize e.els.length = N at *
    go_enter Try.func21, Try.ntmps21
    go_wp2
    go_ret2
    exact ⟨rfl, Gr.one w _⟩
  · clear hp
    go_enter Try.func21, Try.ntmps21
    go_wp2
    go_ret2
    exact ⟨rfl, Gr.one w _⟩
set_option maxHeartbeats 1600000 in
theorem rasint_len (e : El) (hp : plnE e = true) (hs : e.con.size < 1 ∨ 4 < e.con.size) (v : Value) (w : World) (hV : ElV w e v) : Calls Try.prog 21 #[v] w fun r w' => r = .returned (.tuple #[.int .i64 0, .int .i64 160]) ∧ Gr w w' := by
  obtain ⟨ad, cap, hv, _⟩ := hV.open
  subst hv
  obtain ⟨hm, hl⟩ := pln_parts hp
  rw [hm, hl]
  clear hV hp hm hl
  rcases hs with h | h
  · have h1 : (e.con.size : Int) < 1 := by omega
    clear h
    go_enter Try.func21, Try.ntmps21
    go_wp2
    go_ret2
    exact ⟨rfl, Gr.one w _⟩
  · have h1 : ¬ (e.con.size : Int) < 1 := by omega
    have h2 : (4 : Int) < (e.con.size : Int) := by omega
    clear h
    go_enter Try.func21, Try.ntmps21
    go_wp2
    go_ret2
    exact ⟨rfl, Gr.one w _⟩
theorem rsv_1 (l : List Int) (hl : l.length = 1) (hb : ∀ x ∈ l, 0 ≤ x ∧ x < 256) : ∃ b0 : Int, l = [b0] ∧ (0 ≤ b0 ∧ b0 < 256) ∧ svI l = if 127 < b0 then b0 - 256 else b0 := by
  match l, hl, hb with
  | [b0], _, hb =>
    refine ⟨b0, rfl, hb _ (by simp), ?_⟩
    simp only [svI, uvI, pwI, List.getD_cons_zero]
    split <;> omega
set_option maxHeartbeats 3200000 in
theorem rasint_1 (e : El) (hp : plnE e = true) (hs : e.con.size = 1) (v : Value) (w : World) (hV : ElV w e v) : Calls Try.prog 21 #[v] w fun r w' => r = .returned (.tuple #[.int .i64 (asI (nums e.con)).1, .int .i64 (asI (nums e.con)).2]) ∧ Gr w w' := by
  obtain ⟨ad, cap, hv, _⟩ := hV.open
  subst hv
  obtain ⟨hm, hl0⟩ := pln_parts hp
  rw [hm, hl0]
  have g0 := Gr.one w (.cells #[.int .i64 e.cls, .bool false, .int .i64 e.num, .string e.con, .slice ad 0 cap] 26)
  clear hV hp hm hl0
  obtain ⟨b0, hl, ⟨p0, q0⟩, hsv⟩ := rsv_1 (nums e.con) (by rw [nums_length]; exact hs) (nums_bound _)
  have i0 : 0 < e.con.size := by omega
  have y0 : (e.con[0].toNat : Int) = b0 := by
    rw [← nums_at e.con 0 i0, hl]
    rfl
  have HA : Hid (asI (nums e.con) = if bytI (svI (nums e.con)) = nums e.con then (svI (nums e.con), 0) else (0, 160)) := by
    show _ = _
    unfold asI
    rw [if_neg (by rw [nums_length]; omega)]
  have HSS := hide (fun X hX => str_same X hX e.con)
  rw [unhide HA]
  clear HA hl
  rw [hsv]
  have s0 : wrap64 b0 = b0 := by unfold wrap64; omega
  by_cases hb : 127 < b0
  · rw [if_pos hb]
    have r0 : ¬ (127 : Int) ≥ b0 := by omega
    generalize hr : b0 - 256 = R at *
    have zr : wrap64 R = R := by unfold wrap64; omega
    have HW := hide (rbytes_any R)
    have HQ := hide (unhide HSS (bytI R) (bytI_byte R))
    clear HSS hsv p0 q0
    by_cases hq : bytI R = nums e.con
    · have z : ((strOfNums (bytI R)).toList == e.con.toList) = true := by rw [unhide HQ]; exact decide_eq_true hq
      rw [if_pos hq]
      clear hq HQ
      go_enter Try.func21, Try.ntmps21
      go_wp2
      refine wp_loop_rounds 2 ?_
      rw [rounds_succ]
      go_wp2
      rw [rounds_succ]
      go_wp2_with (go_at_call 31; refine (unhide HW _).mono ?_; rintro r w4 ⟨rfl, g4⟩)
      go_ret2
      exact ⟨rfl, g0.trans g4⟩
    · have z : ((strOfNums (bytI R)).toList == e.con.toList) = false := by rw [unhide HQ]; exact decide_eq_false hq
      rw [if_neg hq]
      clear hq HQ
      go_enter Try.func21, Try.ntmps21
      go_wp2
      refine wp_loop_rounds 2 ?_
      rw [rounds_succ]
      go_wp2
      rw [rounds_succ]
      go_wp2_with (go_at_call 31; refine (unhide HW _).mono ?_; rintro r w4 ⟨rfl, g4⟩)
      go_ret2
      exact ⟨rfl, g0.trans g4⟩
  · rw [if_neg hb]
    have HW := hide (rbytes_any b0)
    have HQ := hide (unhide HSS (bytI b0) (bytI_byte b0))
    clear HSS hsv p0 q0
    by_cases hq : bytI b0 = nums e.con
    · have z : ((strOfNums (bytI b0)).toList == e.con.toList) = true := by rw [unhide HQ]; exact decide_eq_true hq
      rw [if_pos hq]
      clear hq HQ
      go_enter Try.func21, Try.ntmps21
      go_wp2
      refine wp_loop_rounds 2 ?_
      rw [rounds_succ]
      go_wp2
      rw [rounds_succ]
      go_wp2_with (go_at_call 31; refine (unhide HW _).mono ?_; rintro r w4 ⟨rfl, g4⟩)
      go_ret2
      exact ⟨rfl, g0.trans g4⟩
    · have z : ((strOfNums (bytI b0)).toList == e.con.toList) = false := by rw [unhide HQ]; exact decide_eq_false hq
      rw [if_neg hq]
      clear hq HQ
      go_enter Try.func21, Try.ntmps21
      go_wp2
      refine wp_loop_rounds 2 ?_
      rw [rounds_succ]
      go_wp2
      rw [rounds_succ]
      go_wp2_with (go_at_call 31; refine (unhide HW _).mono ?_; rintro r w4 ⟨rfl, g4⟩)
      go_ret2
      exact ⟨rfl, g0.trans g4⟩
theorem rsv_2 (l : List Int) (hl : l.length = 2) (hb : ∀ x ∈ l, 0 ≤ x ∧ x < 256) : ∃ b0 b1 : Int, l = [b0, b1] ∧ (0 ≤ b0 ∧ b0 < 256) ∧ (0 ≤ b1 ∧ b1 < 256) ∧ svI l = if 127 < b0 then 256 * b0 + b1 - 65536 else 256 * b0 + b1 := by
  match l, hl, hb with
  | [b0, b1], _, hb =>
    refine ⟨b0, b1, rfl, hb _ (by simp), hb _ (by simp), ?_⟩
    simp only [svI, uvI, pwI, List.getD_cons_zero]
    split <;> omega
set_option maxHeartbeats 3200000 in
theorem rasint_2 (e : El) (hp : plnE e = true) (hs : e.con.size = 2) (v : Value) (w : World) (hV : ElV w e v) : Calls Try.prog 21 #[v] w fun r w' => r = .returned (.tuple #[.int .i64 (asI (nums e.con)).1, .int .i64 (asI (nums e.con)).2]) ∧ Gr w w' := by
  obtain ⟨ad, cap, hv, _⟩ := hV.open
  subst hv
  obtain ⟨hm, hl0⟩ := pln_parts hp
  rw [hm, hl0]
  have g0 := Gr.one w (.cells #[.int .i64 e.cls, .bool false, .int .i64 e.num, .string e.con, .slice ad 0 cap] 26)
  clear hV hp hm hl0
  obtain ⟨b0, b1, hl, ⟨p0, q0⟩, ⟨p1, q1⟩, hsv⟩ := rsv_2 (nums e.con) (by rw [nums_length]; exact hs) (nums_bound _)
  have i0 : 0 < e.con.size := by omega
  have y0 : (e.con[0].toNat : Int) = b0 := by
    rw [← nums_at e.con 0 i0, hl]
    rfl
  have i1 : 1 < e.con.size := by omega
  have y1 : (e.con[1].toNat : Int) = b1 := by
    rw [← nums_at e.con 1 i1, hl]
    rfl
  have HA : Hid (asI (nums e.con) = if bytI (svI (nums e.con)) = nums e.con then (svI (nums e.con), 0) else (0, 160)) := by
    show _ = _
    unfold asI
    rw [if_neg (by rw [nums_length]; omega)]
  have HSS := hide (fun X hX => str_same X hX e.con)
  rw [unhide HA]
  clear HA hl
  rw [hsv]
  have s0 : wrap64 b0 = b0 := by unfold wrap64; omega
  have s1 : wrap64 b1 = b1 := by unfold wrap64; omega
  have x1 : wrap64 (256 * b0) = 256 * b0 := by unfold wrap64; omega
  generalize hn1 : 256 * b0 + b1 = n1 at *
  have z1 : wrap64 n1 = n1 := by unfold wrap64; omega
  by_cases hb : 127 < b0
  · rw [if_pos hb]
    have r0 : ¬ (127 : Int) ≥ b0 := by omega
    generalize hr : n1 - 65536 = R at *
    have zr : wrap64 R = R := by unfold wrap64; omega
    have HW := hide (rbytes_any R)
    have HQ := hide (unhide HSS (bytI R) (bytI_byte R))
    clear HSS hsv p0 q0 p1 q1
    by_cases hq : bytI R = nums e.con
    · have z : ((strOfNums (bytI R)).toList == e.con.toList) = true := by rw [unhide HQ]; exact decide_eq_true hq
      rw [if_pos hq]
      clear hq HQ
      go_enter Try.func21, Try.ntmps21
      go_wp2
      refine wp_loop_rounds 3 ?_
      rw [rounds_succ]
      go_wp2
      rw [rounds_succ]
      go_wp2
      rw [rounds_succ]
      go_wp2_with (go_at_call 31; refine (unhide HW _).mono ?_; rintro r w4 ⟨rfl, g4⟩)
      go_ret2
      exact ⟨rfl, g0.trans g4⟩
    · have z : ((strOfNums (bytI R)).toList == e.con.toList) = false := by rw [unhide HQ]; exact decide_eq_false hq
      rw [if_neg hq]
      clear hq HQ
      go_enter Try.func21, Try.ntmps21
      go_wp2
      refine wp_loop_rounds 3 ?_
      rw [rounds_succ]
      go_wp2
      rw [rounds_succ]
      go_wp2
      rw [rounds_succ]
      go_wp2_with (go_at_call 31; refine (unhide HW _).mono ?_; rintro r w4 ⟨rfl, g4⟩)
      go_ret2
      exact ⟨rfl, g0.trans g4⟩
  · rw [if_neg hb]
    have HW := hide (rbytes_any n1)
    have HQ := hide (unhide HSS (bytI n1) (bytI_byte n1))
    clear HSS hsv p0 q0 p1 q1
    by_cases hq : bytI n1 = nums e.con
    · have z : ((strOfNums (bytI n1)).toList == e.con.toList) = true := by rw [unhide HQ]; exact decide_eq_true hq
      rw [if_pos hq]
      clear hq HQ
      go_enter Try.func21, Try.ntmps21
      go_wp2
      refine wp_loop_rounds 3 ?_
      rw [rounds_succ]
      go_wp2
      rw [rounds_succ]
      go_wp2
      rw [rounds_succ]
      go_wp2_with (go_at_call 31; refine (unhide HW _).mono ?_; rintro r w4 ⟨rfl, g4⟩)
      go_ret2
      exact ⟨rfl, g0.trans g4⟩
    · have z : ((strOfNums (bytI n1)).toList == e.con.toList) = false := by rw [unhide HQ]; exact decide_eq_false hq
      rw [if_neg hq]
      clear hq HQ
      go_enter Try.func21, Try.ntmps21
      go_wp2
      refine wp_loop_rounds 3 ?_
      rw [rounds_succ]
      go_wp2
      rw [rounds_succ]
      go_wp2
      rw [rounds_succ]
      go_wp2_with (go_at_call 31; refine (unhide HW _).mono ?_; rintro r w4 ⟨rfl, g4⟩)
      go_ret2
      exact ⟨rfl, g0.trans g4⟩
theorem rsv_3 (l : List Int) (hl : l.length = 3) (hb : ∀ x ∈ l, 0 ≤ x ∧ x < 256) : ∃ b0 b1 b2 : Int, l = [b0, b1, b2] ∧ (0 ≤ b0 ∧ b0 < 256) ∧ (0 ≤ b1 ∧ b1 < 256) ∧ (0 ≤ b2 ∧ b2 < 256) ∧ svI l = if 127 < b0 then 256 * (256 * b0 + b1) + b2 - 16777216 else 256 * (256 * b0 + b1) + b2 := by
  match l, hl, hb with
  | [b0, b1, b2], _, hb =>
    refine ⟨b0, b1, b2, rfl, hb _ (by simp), hb _ (by simp), hb _ (by simp), ?_⟩
    simp only [svI, uvI, pwI, List.getD_cons_zero]
    split <;> omega
set_option maxHeartbeats 3200000 in
theorem rasint_3 (e : El) (hp : plnE e = true) (hs : e.con.size = 3) (v : Value) (w : World) (hV : ElV w e v) : Calls Try.prog 21 #[v] w fun r w' => r = .returned (.tuple #[.int .i64 (asI (nums e.con)).1, .int .i64 (asI (nums e.con)).2]) ∧ Gr w w' := by
  obtain ⟨ad, cap, hv, _⟩ := hV.open
  subst hv
  obtain ⟨hm, hl0⟩ := pln_parts hp
  rw [hm, hl0]
  have g0 := Gr.one w (.cells #[.int .i64 e.cls, .bool false, .int .i64 e.num, .string e.con, .slice ad 0 cap] 26)
  clear hV hp hm hl0
  obtain ⟨b0, b1, b2, hl, ⟨p0, q0⟩, ⟨p1, q1⟩, ⟨p2, q2⟩, hsv⟩ := rsv_3 (nums e.con) (by rw [nums_length]; exact hs) (nums_bound _)
  have i0 : 0 < e.con.size := by omega
  have y0 : (e.con[0].toNat : Int) = b0 := by
    rw [← nums_at e.con 0 i0, hl]
    rfl
  have i1 : 1 < e.con.size := by omega
  have y1 : (e.con[1].toNat : Int) = b1 := by
    rw [← nums_at e.con 1 i1, hl]
    rfl
  have i2 : 2 < e.con.size := by omega
  have y2 : (e.con[2].toNat : Int) = b2 := by
    rw [← nums_at e.con 2 i2, hl]
    rfl
  have HA : Hid (asI (nums e.con) = if bytI (svI (nums e.con)) = nums e.con then (svI (nums e.con), 0) else (0, 160)) := by
    show _ = _
    unfold asI
    rw [if_neg (by rw [nums_length]; omega)]
  have HSS := hide (fun X hX => str_same X hX e.con)
  rw [unhide HA]
  clear HA hl
  rw [hsv]
  have s0 : wrap64 b0 = b0 := by unfold wrap64; omega
  have s1 : wrap64 b1 = b1 := by unfold wrap64; omega
  have x1 : wrap64 (256 * b0) = 256 * b0 := by unfold wrap64; omega
  generalize hn1 : 256 * b0 + b1 = n1 at *
  have z1 : wrap64 n1 = n1 := by unfold wrap64; omega
  have s2 : wrap64 b2 = b2 := by unfold wrap64; omega
  have x2 : wrap64 (256 * n1) = 256 * n1 := by unfold wrap64; omega
  generalize hn2 : 256 * n1 + b2 = n2 at *
  have z2 : wrap64 n2 = n2 := by unfold wrap64; omega
  by_cases hb : 127 < b0
  · rw [if_pos hb]
    have r0 : ¬ (127 : Int) ≥ b0 := by omega
    generalize hr : n2 - 16777216 = R at *
    have zr : wrap64 R = R := by unfold wrap64; omega
    have HW := hide (rbytes_any R)
    have HQ := hide (unhide HSS (bytI R) (bytI_byte R))
    clear HSS hsv p0 q0 p1 q1 p2 q2
    by_cases hq : bytI R = nums e.con
    · have z : ((strOfNums (bytI R)).toList == e.con.toList) = true := by rw [unhide HQ]; exact decide_eq_true hq
      rw [if_pos hq]
      clear hq HQ
      go_enter Try.func21, Try.ntmps21
      go_wp2
      refine wp_loop_rounds 4 ?_
      rw [rounds_succ]
      go_wp2
      rw [rounds_succ]
      go_wp2
      rw [rounds_succ]
      go_wp2
      rw [rounds_succ]
      go_wp2_with (go_at_call 31; refine (unhide HW _).mono ?_; rintro r w4 ⟨rfl, g4⟩)
      go_ret2
      exact ⟨rfl, g0.trans g4⟩
    · have z : ((strOfNums (bytI R)).toList == e.con.toList) = false := by rw [unhide HQ]; exact decide_eq_false hq
      rw [if_neg hq]
      clear hq HQ
      go_enter Try.func21, Try.ntmps21
      go_wp2
      refine wp_loop_rounds 4 ?_
      rw [rounds_succ]
      go_wp2
      rw [rounds_succ]
      go_wp2
      rw [rounds_succ]
      go_wp2
      rw [rounds_succ]
      go_wp2_with (go_at_call 31; refine (unhide HW _).mono ?_; rintro r w4 ⟨rfl, g4⟩)
      go_ret2
      exact ⟨rfl, g0.trans g4⟩
  · rw [if_neg hb]
    have HW := hide (rbytes_any n2)
    have HQ := hide (unhide HSS (bytI n2) (bytI_byte n2))
    clear HSS hsv p0 q0 p1 q1 p2 q2
    by_cases hq : bytI n2 = nums e.con
    · have z : ((strOfNums (bytI n2)).toList == e.con.toList) = true := by rw [unhide HQ]; exact decide_eq_true hq
      rw [if_pos hq]
      clear hq HQ
      go_enter Try.func21, Try.ntmps21
      go_wp2
      refine wp_loop_rounds 4 ?_
      rw [rounds_succ]
      go_wp2
      rw [rounds_succ]
      go_wp2
      rw [rounds_succ]
      go_wp2
      rw [rounds_succ]
      go_wp2_with (go_at_call 31; refine (unhide HW _).mono ?_; rintro r w4 ⟨rfl, g4⟩)
      go_ret2
      exact ⟨rfl, g0.trans g4⟩
    · have z : ((strOfNums (bytI n2)).toList == e.con.toList) = false := by rw [unhide HQ]; exact decide_eq_false hq
      rw [if_neg hq]
      clear hq HQ
      go_enter Try.func21, Try.ntmps21
      go_wp2
      refine wp_loop_rounds 4 ?_
      rw [rounds_succ]
      go_wp2
      rw [rounds_succ]
      go_wp2
      rw [rounds_succ]
      go_wp2
      rw [rounds_succ]
      go_wp2_with (go_at_call 31; refine (unhide HW _).mono ?_; rintro r w4 ⟨rfl, g4⟩)
      go_ret2
      exact ⟨rfl, g0.trans g4⟩
theorem rsv_4 (l : List Int) (hl : l.length = 4) (hb : ∀ x ∈ l, 0 ≤ x ∧ x < 256) : ∃ b0 b1 b2 b3 : Int, l = [b0, b1, b2, b3] ∧ (0 ≤ b0 ∧ b0 < 256) ∧ (0 ≤ b1 ∧ b1 < 256) ∧ (0 ≤ b2 ∧ b2 < 256) ∧ (0 ≤ b3 ∧ b3 < 256) ∧ svI l = if 127 < b0 then 256 * (256 * (256 * b0 + b1) + b2) + b3 - 4294967296 else 256 * (256 * (256 * b0 + b1) + b2) + b3 := by
  match l, hl, hb with
  | [b0, b1, b2, b3], _, hb =>
    refine ⟨b0, b1, b2, b3, rfl, hb _ (by simp), hb _ (by simp), hb _ (by simp), hb _ (by simp), ?_⟩
    simp only [svI, uvI, pwI, List.getD_cons_zero]
    split <;> omega
set_option maxHeartbeats 3200000 in
theorem rasint_4 (e : El) (hp : plnE e = true) (hs : e.con.size = 4) (v : Value) (w : World) (hV : ElV w e v) : Calls Try.prog 21 #[v] w fun r w' => r = .returned (.tuple #[.int .i64 (asI (nums e.con)).1, .int .i64 (asI (nums e.con)).2]) ∧ Gr w w' := by
  obtain ⟨ad, cap, hv, _⟩ := hV.open
  subst hv
  obtain ⟨hm, hl0⟩ := pln_parts hp
  rw [hm, hl0]
  have g0 := Gr.one w (.cells #[.int .i64 e.cls, .bool false, .int .i64 e.num, .string e.con, .slice ad 0 cap] 26)
  clear hV hp hm hl0
  obtain ⟨b0, b1, b2, b3, hl, ⟨p0, q0⟩, ⟨p1, q1⟩, ⟨p2, q2⟩, ⟨p3, q3⟩, hsv⟩ := rsv_4 (nums e.con) (by rw [nums_length]; exact hs) (nums_bound _)
  have i0 : 0 < e.con.size := by omega
  have y0 : (e.con[0].toNat : Int) = b0 := by
    rw [← nums_at e.con 0 i0, hl]
    rfl
  have i1 : 1 < e.con.size := by omega
  have y1 : (e.con[1].toNat : Int) = b1 := by
    rw [← nums_at e.con 1 i1, hl]
    rfl
  have i2 : 2 < e.con.size := by omega
  have y2 : (e.con[2].toNat : Int) = b2 := by
    rw [← nums_at e.con 2 i2, hl]
    rfl
  have i3 : 3 < e.con.size := by omega
  have y3 : (e.con[3].toNat : Int) = b3 := by
    rw [← nums_at e.con 3 i3, hl]
    rfl
  have HA : Hid (asI (nums e.con) = if bytI (svI (nums e.con)) = nums e.con then (svI (nums e.con), 0) else (0, 160)) := by
    show _ = _
    unfold asI
    rw [if_neg (by rw [nums_length]; omega)]
  have HSS := hide (fun X hX => str_same X hX e.con)
  rw [unhide HA]
  clear HA hl
  rw [hsv]
  have s0 : wrap64 b0 = b0 := by unfold wrap64; omega
  have s1 : wrap64 b1 = b1 := by unfold wrap64; omega
  have x1 : wrap64 (256 * b0) = 256 * b0 := by unfold wrap64; omega
  generalize hn1 : 256 * b0 + b1 = n1 at *
  have z1 : wrap64 n1 = n1 := by unfold wrap64; omega
  have s2 : wrap64 b2 = b2 := by unfold wrap64; omega
  have x2 : wrap64 (256 * n1) = 256 * n1 := by unfold wrap64; omega
  generalize hn2 : 256 * n1 + b2 = n2 at *
  have z2 : wrap64 n2 = n2 := by unfold wrap64; omega
  have s3 : wrap64 b3 = b3 := by unfold wrap64; omega
  have x3 : wrap64 (256 * n2) = 256 * n2 := by unfold wrap64; omega
  generalize hn3 : 256 * n2 + b3 = n3 at *
  have z3 : wrap64 n3 = n3 := by unfold wrap64; omega
  by_cases hb : 127 < b0
  · rw [if_pos hb]
    have r0 : ¬ (127 : Int) ≥ b0 := by omega
    generalize hr : n3 - 4294967296 = R at *
    have zr : wrap64 R = R := by unfold wrap64; omega
    have HW := hide (rbytes_any R)
    have HQ := hide (unhide HSS (bytI R) (bytI_byte R))
    clear HSS hsv p0 q0 p1 q1 p2 q2 p3 q3
    by_cases hq : bytI R = nums e.con
    · have z : ((strOfNums (bytI R)).toList == e.con.toList) = true := by rw [unhide HQ]; exact decide_eq_true hq
      rw [if_pos hq]
      clear hq HQ
      go_enter Try.func21, Try.ntmps21
      go_wp2
      refine wp_loop_rounds 5 ?_
      rw [rounds_succ]
      go_wp2
      rw [rounds_succ]
      go_wp2
      rw [rounds_succ]
      go_wp2
      rw [rounds_succ]
      go_wp2
      rw [rounds_succ]
      go_wp2_with (go_at_call 31; refine (unhide HW _).mono ?_; rintro r w4 ⟨rfl, g4⟩)
      go_ret2
      exact ⟨rfl, g0.trans g4⟩
    · have z : ((strOfNums (bytI R)).toList == e.con.toList) = false := by rw [unhide HQ]; exact decide_eq_false hq
      rw [if_neg hq]
      clear hq HQ
      go_enter Try.func21, Try.ntmps21
      go_wp2
      refine wp_loop_rounds 5 ?_
      rw [rounds_succ]
      go_wp2
      rw [rounds_succ]
      go_wp2
      rw [rounds_succ]
      go_wp2
      rw [rounds_succ]
      go_wp2
      rw [rounds_succ]
      go_wp2_with (go_at_call 31; refine (unhide HW _).mono ?_; rintro r w4 ⟨rfl, g4⟩)
      go_ret2
      exact ⟨rfl, g0.trans g4⟩
  · rw [if_neg hb]
    have HW := hide (rbytes_any n3)
    have HQ := hide (unhide HSS (bytI n3) (bytI_byte n3))
    clear HSS hsv p0 q0 p1 q1 p2 q2 p3 q3
    by_cases hq : bytI n3 = nums e.con
    · have z : ((strOfNums (bytI n3)).toList == e.con.toList) = true := by rw [unhide HQ]; exact decide_eq_true hq
      rw [if_pos hq]
      clear hq HQ
      go_enter Try.func21, Try.ntmps21
      go_wp2
      refine wp_loop_rounds 5 ?_
      rw [rounds_succ]
      go_wp2
      rw [rounds_succ]
      go_wp2
      rw [rounds_succ]
      go_wp2
      rw [rounds_succ]
      go_wp2
      rw [rounds_succ]
      go_wp2_with (go_at_call 31; refine (unhide HW _).mono ?_; rintro r w4 ⟨rfl, g4⟩)
      go_ret2
      exact ⟨rfl, g0.trans g4⟩
    · have z : ((strOfNums (bytI n3)).toList == e.con.toList) = false := by rw [unhide HQ]; exact decide_eq_false hq
      rw [if_neg hq]
      clear hq HQ
      go_enter Try.func21, Try.ntmps21
      go_wp2
      refine wp_loop_rounds 5 ?_
      rw [rounds_succ]
      go_wp2
      rw [rounds_succ]
      go_wp2
      rw [rounds_succ]
      go_wp2
      rw [rounds_succ]
      go_wp2
      rw [rounds_succ]
      go_wp2_with (go_at_call 31; refine (unhide HW _).mono ?_; rintro r w4 ⟨rfl, g4⟩)
      go_ret2
      exact ⟨rfl, g0.trans g4⟩
theorem rasint_any (e : El) (v : Value) (w : World) (hV : ElV w e v) : Calls Try.prog 21 #[v] w fun r w' => r = .returned (.tuple #[.int .i64 (asIE e).1, .int .i64 (asIE e).2]) ∧ Gr w w' := by
  unfold asIE
  cases hp : plnE e
  · exact rasint_no e hp v w hV
  · by_cases hs : e.con.size < 1 ∨ 4 < e.con.size
    · have : asI (nums e.con) = (0, 160) := by unfold asI; rw [if_pos (by rw [nums_length]; exact hs)]
      rw [if_pos rfl, this]
      exact rasint_len e hp hs v w hV
    · rw [if_pos rfl]
      have h4 : e.con.size = 1 ∨ e.con.size = 2 ∨ e.con.size = 3 ∨ e.con.size = 4 := by omega
      rcases h4 with h | h | h | h
      · exact rasint_1 e hp h v w hV
      · exact rasint_2 e hp h v w hV
      · exact rasint_3 e hp h v w hV
      · exact rasint_4 e hp h v w hV
set_option maxHeartbeats 1600000 in
theorem rasbool_any (e : El) (v : Value) (w : World) (hV : ElV w e v) : Calls Try.prog 23 #[v] w fun r w' => r = .returned (.tuple #[.bool (asB e).1, .int .i64 (asB e).2]) ∧ Gr w w' := by
  obtain ⟨ad, cap, hv, _⟩ := hV.open
  subst hv
  unfold asB
  clear hV
  cases hp : plnE e
  · rw [if_neg (by simp)]
    cases hm : e.made
    · have hl : (0 : Int) < (e.els.length : Int) := by
        unfold plnE at hp
        rw [hm] at hp
        simp at hp
        have := List.length_pos_iff.2 hp
        omega
      clear hp
      generalize e.els.length = N at *
      go_enter Try.func23, Try.ntmps23
      go_wp2
      go_ret2
      exact ⟨rfl, Gr.one w _⟩
    · clear hp
      go_enter Try.func23, Try.ntmps23
      go_wp2
      go_ret2
      exact ⟨rfl, Gr.one w _⟩
  · obtain ⟨hm, hl⟩ := pln_parts hp
    rw [hm, hl]
    clear hp hm hl
    by_cases h1 : e.con.size = 1
    · rw [if_pos ⟨rfl, h1⟩]
      have i0 : 0 < e.con.size := by omega
      have hat := nums_at e.con 0 i0
      obtain ⟨b, y0⟩ : ∃ b : Int, (e.con[0].toNat : Int) = b := ⟨_, rfl⟩
      rw [hat, y0]
      clear hat
      by_cases hb : b = 0
      · subst hb
        go_enter Try.func23, Try.ntmps23
        go_wp2
        go_ret2
        exact ⟨rfl, Gr.one w _⟩
      · have hz : (b != 0) = true := by simpa using hb
        have HZ := hide hz
        clear hz
        rw [decide_eq_true hb]
        go_enter Try.func23, Try.ntmps23
        go_wp2
        go_ret2
        exact ⟨ret_be (unhide HZ), Gr.one w _⟩
    · have h2 : ((e.con.size : Int) == 1) = false := by simpa using (by omega : ¬ (e.con.size : Int) = 1)
      rw [if_neg (fun h => h1 h.2)]
      go_enter Try.func23, Try.ntmps23
      go_wp2
      go_ret2
      exact ⟨rfl, Gr.one w _⟩
end Go.Proofs.Ytcboggoindhmkaa
