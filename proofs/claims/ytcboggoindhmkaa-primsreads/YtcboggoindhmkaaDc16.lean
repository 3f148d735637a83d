/- The program's AsInt of layer 16 (made by gen_asint.py). -/
import Derived.Test.YtcboggoindhmkaaDb16
namespace Go.Proofs.Ytcboggoindhmkaa
open Go.RowKit

theorem i64_or256s (x y : Int) (h0 : -16777216 ≤ x) (h1 : x < 16777216) (h2 : 0 ≤ y) (h3 : y < 256) : bits .or .i64 (x * 256) y = 256 * x + y := by
  by_cases hx : 0 ≤ x
  · exact i64_or256 x y hx h1 h2 h3
  · obtain ⟨b, rfl⟩ := Int.eq_ofNat_of_zero_le h2
    obtain ⟨a, ha⟩ : ∃ a : Nat, 18446744073709551616 + x * 256 = (a : Int) := ⟨(18446744073709551616 + x * 256).toNat, by omega⟩
    have e : (BitVec.ofInt 64 (x * 256)).toNat = a := by
      rw [BitVec.toNat_ofInt]
      have : x * 256 % ((2 ^ 64 : Nat) : Int) = (a : Int) := by
        have h64 : ((2 ^ 64 : Nat) : Int) = 18446744073709551616 := by decide
        rw [h64]
        omega
      rw [this]
      rfl
    show IntKind.i64.wrap ((BitVec.ofInt 64 (x * 256) ||| BitVec.ofInt 64 (b : Int)).toNat : Int) = _
    rw [BitVec.toNat_or, e, ofInt_i64 b (by omega), nat_join 8 a b (by omega) (by omega)]
    simp only [IntKind.wrap, IntKind.bits, IntKind.signed]
    simp
    omega
/-- What AsInt tells. -/
def asIE (e : El) : Int × Int := if plnE e = true then asI (nums e.con) else (0, 160)
/-- A byte, as a number from -128 to 127. -/
def sb (b : Int) : Int := if 127 < b then b - 256 else b
theorem sb_wrap (b : Int) (h0 : 0 ≤ b) (h1 : b < 256) : IntKind.i8.wrap b = sb b := by
  unfold sb
  simp [IntKind.wrap, IntKind.bits, IntKind.signed]
  split <;> omega
theorem sb_in (b : Int) (h0 : 0 ≤ b) (h1 : b < 256) : -128 ≤ sb b ∧ sb b < 128 := by
  unfold sb
  split <;> omega
theorem getD_lt (l : List Int) : ∀ (a : Int) (i : Nat), (a :: l).getD (i + 1) 0 = l.getD i 0 := fun _ _ => rfl
set_option maxHeartbeats 800000 in
theorem asint_no (e : El) (hp : plnE e = false) (v : Value) (w : World) (hV : ElV w e v) : Calls Try.prog 20 #[v] w fun r w' => r = .returned (.tuple #[.int .i64 0, .int .i64 160]) ∧ Below w.heap.size w w' := by
  have HP := hide (fun w2 (g : Gr w w2) => plain_any e v w2 (hV.grow g.below))
  rw [hp] at HP
  obtain ⟨ad, cap, hv, _⟩ := hV.open
  subst hv
  have g0 := Gr.one w (bxE e ad cap)
  clear hV hp
  go_enter Try.func20, Try.ntmps20
  go_wp2_with (go_at_call 34; refine (unhide HP _ g0).mono ?_; rintro r w2 ⟨rfl, g2⟩)
  go_ret2
  exact ⟨rfl, (g0.trans g2).below⟩
set_option maxHeartbeats 800000 in
theorem asint_len (e : El) (hp : plnE e = true) (hs : e.con.size < 1 ∨ 4 < e.con.size) (v : Value) (w : World) (hV : ElV w e v) : Calls Try.prog 20 #[v] w fun r w' => r = .returned (.tuple #[.int .i64 0, .int .i64 160]) ∧ Below w.heap.size w w' := by
  have HP := hide (fun w2 (g : Gr w w2) => plain_any e v w2 (hV.grow g.below))
  rw [hp] at HP
  obtain ⟨ad, cap, hv, _⟩ := hV.open
  subst hv
  have g0 := Gr.one w (bxE e ad cap)
  clear hV hp
  rcases hs with h | h
  · have e1 := toList_none (show e.con.size = 0 by omega)
    clear h
    go_enter Try.func20, Try.ntmps20
    go_wp2_with (go_at_call 34; refine (unhide HP _ g0).mono ?_; rintro r w2 ⟨rfl, g2⟩)
    go_ret2
    exact ⟨rfl, (g0.trans g2).below⟩
  · have e1 := toList_some (show 0 < e.con.size by omega)
    have e2 : (4 : Int) < (e.con.size : Int) := by omega
    clear h
    go_enter Try.func20, Try.ntmps20
    go_wp2_with (go_at_call 34; refine (unhide HP _ g0).mono ?_; rintro r w2 ⟨rfl, g2⟩)
    go_ret2
    exact ⟨rfl, (g0.trans g2).below⟩
theorem sv_1 (l : List Int) (hl : l.length = 1) (hb : ∀ x ∈ l, 0 ≤ x ∧ x < 256) : ∃ b0 : Int, l = [b0] ∧ (0 ≤ b0 ∧ b0 < 256) ∧ svI l = sb b0 := by
  match l, hl, hb with
  | [b0], _, hb =>
    refine ⟨b0, rfl, hb _ (by simp), ?_⟩
    have h0 := hb b0 (by simp)
    simp only [svI, uvI, pwI, List.getD_cons_zero, sb]
    split <;> omega
set_option maxHeartbeats 3200000 in
theorem asint_1 (e : El) (hp : plnE e = true) (hs : e.con.size = 1) (v : Value) (w : World) (hV : ElV w e v) : Calls Try.prog 20 #[v] w fun r w' => r = .returned (.tuple #[.int .i64 (asI (nums e.con)).1, .int .i64 (asI (nums e.con)).2]) ∧ Below w.heap.size w w' := by
  have HP := hide (fun w2 (g : Gr w w2) => plain_any e v w2 (hV.grow g.below))
  rw [hp] at HP
  obtain ⟨ad, cap, hv, _⟩ := hV.open
  subst hv
  have g0 := Gr.one w (bxE e ad cap)
  clear hV hp
  obtain ⟨b0, hl, ⟨p0, q0⟩, hsv⟩ := sv_1 (nums e.con) (by rw [nums_length]; exact hs) (nums_bound _)
  have i1 : 0 < e.con.size := by omega
  have e1 := toList_some i1
  have hat := nums_at e.con 0 i1
  rw [hl] at hat
  have hb : (e.con[0].toNat : Int) = b0 := hat.symm
  have w8 := sb_wrap b0 p0 q0
  obtain ⟨m0, m1⟩ := sb_in b0 p0 q0
  have HA : Hid (asI (nums e.con) = if bytI (sb b0) = nums e.con then (sb b0, 0) else (0, 160)) := by
    show _ = _
    unfold asI
    rw [if_neg (by rw [nums_length]; omega), hsv]
  have HSS := hide (fun X hX => str_same X hX e.con)
  clear hsv hat
  rw [unhide HA]
  clear HA
  generalize sb b0 = n0 at *
  have s0 : wrap64 n0 = n0 := by unfold wrap64; omega
  have r0 : -128 ≤ n0 := by omega
  have r1 : n0 < 128 := by omega
  have HW := hide (whole_any n0 (by omega) (by omega))
  have HQ := hide (unhide HSS (bytI n0) (bytI_byte n0))
  have HBN := hide (fun W => bytes_new ByteArray.empty W)
  have hz : ByteArray.empty.size = 0 := rfl
  have HZ := hide hz
  clear hz hl HSS   m0 m1 p0 q0 r0 r1
  by_cases hq : bytI n0 = nums e.con
  · have z : ((strOfNums (bytI n0)).toList == e.con.toList) = true := by rw [unhide HQ]; exact decide_eq_true hq
    rw [if_pos hq]
    clear hq HQ
    go_enter Try.func20, Try.ntmps20
    go_wp2_with (go_at_call 34; refine (unhide HP _ g0).mono ?_; rintro r w2 ⟨rfl, g2⟩; have t2 := (g0.trans g2).below; obtain ⟨w3, cap3, hcv, hcell, hbel⟩ := unhide HBN w2; rw [unhide HZ] at hcv hcell; have t3 := below_next t2 hbel; clear hcell hbel)
    refine wp_loop_rounds 1 ?_
    rw [rounds_succ]
    go_wp2_with (go_at_call 30; refine (unhide HW _).mono ?_; rintro r w4 ⟨rfl, b4⟩)
    go_ret2
    exact ⟨rfl, below_next t3 b4⟩
  · have z : ((strOfNums (bytI n0)).toList == e.con.toList) = false := by rw [unhide HQ]; exact decide_eq_false hq
    rw [if_neg hq]
    clear hq HQ
    go_enter Try.func20, Try.ntmps20
    go_wp2_with (go_at_call 34; refine (unhide HP _ g0).mono ?_; rintro r w2 ⟨rfl, g2⟩; have t2 := (g0.trans g2).below; obtain ⟨w3, cap3, hcv, hcell, hbel⟩ := unhide HBN w2; rw [unhide HZ] at hcv hcell; have t3 := below_next t2 hbel; clear hcell hbel)
    refine wp_loop_rounds 1 ?_
    rw [rounds_succ]
    go_wp2_with (go_at_call 30; refine (unhide HW _).mono ?_; rintro r w4 ⟨rfl, b4⟩)
    go_ret2
    exact ⟨rfl, below_next t3 b4⟩
theorem sv_2 (l : List Int) (hl : l.length = 2) (hb : ∀ x ∈ l, 0 ≤ x ∧ x < 256) : ∃ b0 b1 : Int, l = [b0, b1] ∧ (0 ≤ b0 ∧ b0 < 256) ∧ (0 ≤ b1 ∧ b1 < 256) ∧ svI l = 256 * sb b0 + b1 := by
  match l, hl, hb with
  | [b0, b1], _, hb =>
    refine ⟨b0, b1, rfl, hb _ (by simp), hb _ (by simp), ?_⟩
    have h0 := hb b0 (by simp)
    simp only [svI, uvI, pwI, List.getD_cons_zero, sb]
    split <;> omega
set_option maxHeartbeats 3200000 in
theorem asint_2 (e : El) (hp : plnE e = true) (hs : e.con.size = 2) (v : Value) (w : World) (hV : ElV w e v) : Calls Try.prog 20 #[v] w fun r w' => r = .returned (.tuple #[.int .i64 (asI (nums e.con)).1, .int .i64 (asI (nums e.con)).2]) ∧ Below w.heap.size w w' := by
  have HP := hide (fun w2 (g : Gr w w2) => plain_any e v w2 (hV.grow g.below))
  rw [hp] at HP
  obtain ⟨ad, cap, hv, _⟩ := hV.open
  subst hv
  have g0 := Gr.one w (bxE e ad cap)
  clear hV hp
  obtain ⟨b0, b1, hl, ⟨p0, q0⟩, ⟨p1, q1⟩, hsv⟩ := sv_2 (nums e.con) (by rw [nums_length]; exact hs) (nums_bound _)
  have i1 : 0 < e.con.size := by omega
  have e1 := toList_some i1
  have hat := nums_at e.con 0 i1
  rw [hl] at hat
  have hb : (e.con[0].toNat : Int) = b0 := hat.symm
  have w8 := sb_wrap b0 p0 q0
  obtain ⟨m0, m1⟩ := sb_in b0 p0 q0
  have HA : Hid (asI (nums e.con) = if bytI (256 * sb b0 + b1) = nums e.con then (256 * sb b0 + b1, 0) else (0, 160)) := by
    show _ = _
    unfold asI
    rw [if_neg (by rw [nums_length]; omega), hsv]
  have HSS := hide (fun X hX => str_same X hX e.con)
  clear hsv hat
  rw [unhide HA]
  clear HA
  generalize sb b0 = n0 at *
  have s0 : wrap64 n0 = n0 := by unfold wrap64; omega
  have s1 : wrap64 (n0 * 256) = n0 * 256 := by unfold wrap64; omega
  have u1 : wrap64 b1 = b1 := by unfold wrap64; omega
  have o1 := i64_or256s n0 b1 (by omega) (by omega) p1 q1
  generalize hn1 : 256 * n0 + b1 = n1 at *
  have r0 : -32768 ≤ n1 := by omega
  have r1 : n1 < 32768 := by omega
  have HW := hide (whole_any n1 (by omega) (by omega))
  have HQ := hide (unhide HSS (bytI n1) (bytI_byte n1))
  have HBN := hide (fun W => bytes_new (e.con.extract 1 2) W)
  have hz : (e.con.extract 1 2).size = 1 := by rw [ByteArray.size_extract]; omega
  have y1 : (nums (e.con.extract 1 2)).getD 0 0 = b1 := by rw [nums_sub, getD_sub _ _ _ _ (by omega), hl]; rfl
  have HZ := hide hz
  have Y1 := hide y1
  clear hz hl HSS y1 hn1 m0 m1 p0 q0 p1 q1 r0 r1
  by_cases hq : bytI n1 = nums e.con
  · have z : ((strOfNums (bytI n1)).toList == e.con.toList) = true := by rw [unhide HQ]; exact decide_eq_true hq
    rw [if_pos hq]
    clear hq HQ
    go_enter Try.func20, Try.ntmps20
    go_wp2_with (go_at_call 34; refine (unhide HP _ g0).mono ?_; rintro r w2 ⟨rfl, g2⟩; have t2 := (g0.trans g2).below; obtain ⟨w3, cap3, hcv, hcell, hbel⟩ := unhide HBN w2; rw [unhide HZ] at hcv hcell; have t3 := below_next t2 hbel; have c1 := hcell 0 (by omega); rw [unhide Y1] at c1; clear hcell hbel)
    refine wp_loop_rounds 2 ?_
    rw [rounds_succ]
    go_wp2
    rw [rounds_succ]
    go_wp2_with (go_at_call 30; refine (unhide HW _).mono ?_; rintro r w4 ⟨rfl, b4⟩)
    go_ret2
    exact ⟨rfl, below_next t3 b4⟩
  · have z : ((strOfNums (bytI n1)).toList == e.con.toList) = false := by rw [unhide HQ]; exact decide_eq_false hq
    rw [if_neg hq]
    clear hq HQ
    go_enter Try.func20, Try.ntmps20
    go_wp2_with (go_at_call 34; refine (unhide HP _ g0).mono ?_; rintro r w2 ⟨rfl, g2⟩; have t2 := (g0.trans g2).below; obtain ⟨w3, cap3, hcv, hcell, hbel⟩ := unhide HBN w2; rw [unhide HZ] at hcv hcell; have t3 := below_next t2 hbel; have c1 := hcell 0 (by omega); rw [unhide Y1] at c1; clear hcell hbel)
    refine wp_loop_rounds 2 ?_
    rw [rounds_succ]
    go_wp2
    rw [rounds_succ]
    go_wp2_with (go_at_call 30; refine (unhide HW _).mono ?_; rintro r w4 ⟨rfl, b4⟩)
    go_ret2
    exact ⟨rfl, below_next t3 b4⟩
theorem sv_3 (l : List Int) (hl : l.length = 3) (hb : ∀ x ∈ l, 0 ≤ x ∧ x < 256) : ∃ b0 b1 b2 : Int, l = [b0, b1, b2] ∧ (0 ≤ b0 ∧ b0 < 256) ∧ (0 ≤ b1 ∧ b1 < 256) ∧ (0 ≤ b2 ∧ b2 < 256) ∧ svI l = 256 * (256 * sb b0 + b1) + b2 := by
  match l, hl, hb with
  | [b0, b1, b2], _, hb =>
    refine ⟨b0, b1, b2, rfl, hb _ (by simp), hb _ (by simp), hb _ (by simp), ?_⟩
    have h0 := hb b0 (by simp)
    simp only [svI, uvI, pwI, List.getD_cons_zero, sb]
    split <;> omega
set_option maxHeartbeats 3200000 in
theorem asint_3 (e : El) (hp : plnE e = true) (hs : e.con.size = 3) (v : Value) (w : World) (hV : ElV w e v) : Calls Try.prog 20 #[v] w fun r w' => r = .returned (.tuple #[.int .i64 (asI (nums e.con)).1, .int .i64 (asI (nums e.con)).2]) ∧ Below w.heap.size w w' := by
  have HP := hide (fun w2 (g : Gr w w2) => plain_any e v w2 (hV.grow g.below))
  rw [hp] at HP
  obtain ⟨ad, cap, hv, _⟩ := hV.open
  subst hv
  have g0 := Gr.one w (bxE e ad cap)
  clear hV hp
  obtain ⟨b0, b1, b2, hl, ⟨p0, q0⟩, ⟨p1, q1⟩, ⟨p2, q2⟩, hsv⟩ := sv_3 (nums e.con) (by rw [nums_length]; exact hs) (nums_bound _)
  have i1 : 0 < e.con.size := by omega
  have e1 := toList_some i1
  have hat := nums_at e.con 0 i1
  rw [hl] at hat
  have hb : (e.con[0].toNat : Int) = b0 := hat.symm
  have w8 := sb_wrap b0 p0 q0
  obtain ⟨m0, m1⟩ := sb_in b0 p0 q0
  have HA : Hid (asI (nums e.con) = if bytI (256 * (256 * sb b0 + b1) + b2) = nums e.con then (256 * (256 * sb b0 + b1) + b2, 0) else (0, 160)) := by
    show _ = _
    unfold asI
    rw [if_neg (by rw [nums_length]; omega), hsv]
  have HSS := hide (fun X hX => str_same X hX e.con)
  clear hsv hat
  rw [unhide HA]
  clear HA
  generalize sb b0 = n0 at *
  have s0 : wrap64 n0 = n0 := by unfold wrap64; omega
  have s1 : wrap64 (n0 * 256) = n0 * 256 := by unfold wrap64; omega
  have u1 : wrap64 b1 = b1 := by unfold wrap64; omega
  have o1 := i64_or256s n0 b1 (by omega) (by omega) p1 q1
  generalize hn1 : 256 * n0 + b1 = n1 at *
  have s2 : wrap64 (n1 * 256) = n1 * 256 := by unfold wrap64; omega
  have u2 : wrap64 b2 = b2 := by unfold wrap64; omega
  have o2 := i64_or256s n1 b2 (by omega) (by omega) p2 q2
  generalize hn2 : 256 * n1 + b2 = n2 at *
  have r0 : -8388608 ≤ n2 := by omega
  have r1 : n2 < 8388608 := by omega
  have HW := hide (whole_any n2 (by omega) (by omega))
  have HQ := hide (unhide HSS (bytI n2) (bytI_byte n2))
  have HBN := hide (fun W => bytes_new (e.con.extract 1 3) W)
  have hz : (e.con.extract 1 3).size = 2 := by rw [ByteArray.size_extract]; omega
  have y1 : (nums (e.con.extract 1 3)).getD 0 0 = b1 := by rw [nums_sub, getD_sub _ _ _ _ (by omega), hl]; rfl
  have y2 : (nums (e.con.extract 1 3)).getD 1 0 = b2 := by rw [nums_sub, getD_sub _ _ _ _ (by omega), hl]; rfl
  have HZ := hide hz
  have Y1 := hide y1
  have Y2 := hide y2
  clear hz hl HSS y1 y2 hn1 hn2 m0 m1 p0 q0 p1 q1 p2 q2 r0 r1
  by_cases hq : bytI n2 = nums e.con
  · have z : ((strOfNums (bytI n2)).toList == e.con.toList) = true := by rw [unhide HQ]; exact decide_eq_true hq
    rw [if_pos hq]
    clear hq HQ
    go_enter Try.func20, Try.ntmps20
    go_wp2_with (go_at_call 34; refine (unhide HP _ g0).mono ?_; rintro r w2 ⟨rfl, g2⟩; have t2 := (g0.trans g2).below; obtain ⟨w3, cap3, hcv, hcell, hbel⟩ := unhide HBN w2; rw [unhide HZ] at hcv hcell; have t3 := below_next t2 hbel; have c1 := hcell 0 (by omega); rw [unhide Y1] at c1; have c2 := hcell 1 (by omega); rw [unhide Y2] at c2; clear hcell hbel)
    refine wp_loop_rounds 3 ?_
    rw [rounds_succ]
    go_wp2
    rw [rounds_succ]
    go_wp2
    rw [rounds_succ]
    go_wp2_with (go_at_call 30; refine (unhide HW _).mono ?_; rintro r w4 ⟨rfl, b4⟩)
    go_ret2
    exact ⟨rfl, below_next t3 b4⟩
  · have z : ((strOfNums (bytI n2)).toList == e.con.toList) = false := by rw [unhide HQ]; exact decide_eq_false hq
    rw [if_neg hq]
    clear hq HQ
    go_enter Try.func20, Try.ntmps20
    go_wp2_with (go_at_call 34; refine (unhide HP _ g0).mono ?_; rintro r w2 ⟨rfl, g2⟩; have t2 := (g0.trans g2).below; obtain ⟨w3, cap3, hcv, hcell, hbel⟩ := unhide HBN w2; rw [unhide HZ] at hcv hcell; have t3 := below_next t2 hbel; have c1 := hcell 0 (by omega); rw [unhide Y1] at c1; have c2 := hcell 1 (by omega); rw [unhide Y2] at c2; clear hcell hbel)
    refine wp_loop_rounds 3 ?_
    rw [rounds_succ]
    go_wp2
    rw [rounds_succ]
    go_wp2
    rw [rounds_succ]
    go_wp2_with (go_at_call 30; refine (unhide HW _).mono ?_; rintro r w4 ⟨rfl, b4⟩)
    go_ret2
    exact ⟨rfl, below_next t3 b4⟩
theorem sv_4 (l : List Int) (hl : l.length = 4) (hb : ∀ x ∈ l, 0 ≤ x ∧ x < 256) : ∃ b0 b1 b2 b3 : Int, l = [b0, b1, b2, b3] ∧ (0 ≤ b0 ∧ b0 < 256) ∧ (0 ≤ b1 ∧ b1 < 256) ∧ (0 ≤ b2 ∧ b2 < 256) ∧ (0 ≤ b3 ∧ b3 < 256) ∧ svI l = 256 * (256 * (256 * sb b0 + b1) + b2) + b3 := by
  match l, hl, hb with
  | [b0, b1, b2, b3], _, hb =>
    refine ⟨b0, b1, b2, b3, rfl, hb _ (by simp), hb _ (by simp), hb _ (by simp), hb _ (by simp), ?_⟩
    have h0 := hb b0 (by simp)
    simp only [svI, uvI, pwI, List.getD_cons_zero, sb]
    split <;> omega
set_option maxHeartbeats 3200000 in
theorem asint_4 (e : El) (hp : plnE e = true) (hs : e.con.size = 4) (v : Value) (w : World) (hV : ElV w e v) : Calls Try.prog 20 #[v] w fun r w' => r = .returned (.tuple #[.int .i64 (asI (nums e.con)).1, .int .i64 (asI (nums e.con)).2]) ∧ Below w.heap.size w w' := by
  have HP := hide (fun w2 (g : Gr w w2) => plain_any e v w2 (hV.grow g.below))
  rw [hp] at HP
  obtain ⟨ad, cap, hv, _⟩ := hV.open
  subst hv
  have g0 := Gr.one w (bxE e ad cap)
  clear hV hp
  obtain ⟨b0, b1, b2, b3, hl, ⟨p0, q0⟩, ⟨p1, q1⟩, ⟨p2, q2⟩, ⟨p3, q3⟩, hsv⟩ := sv_4 (nums e.con) (by rw [nums_length]; exact hs) (nums_bound _)
  have i1 : 0 < e.con.size := by omega
  have e1 := toList_some i1
  have hat := nums_at e.con 0 i1
  rw [hl] at hat
  have hb : (e.con[0].toNat : Int) = b0 := hat.symm
  have w8 := sb_wrap b0 p0 q0
  obtain ⟨m0, m1⟩ := sb_in b0 p0 q0
  have HA : Hid (asI (nums e.con) = if bytI (256 * (256 * (256 * sb b0 + b1) + b2) + b3) = nums e.con then (256 * (256 * (256 * sb b0 + b1) + b2) + b3, 0) else (0, 160)) := by
    show _ = _
    unfold asI
    rw [if_neg (by rw [nums_length]; omega), hsv]
  have HSS := hide (fun X hX => str_same X hX e.con)
  clear hsv hat
  rw [unhide HA]
  clear HA
  generalize sb b0 = n0 at *
  have s0 : wrap64 n0 = n0 := by unfold wrap64; omega
  have s1 : wrap64 (n0 * 256) = n0 * 256 := by unfold wrap64; omega
  have u1 : wrap64 b1 = b1 := by unfold wrap64; omega
  have o1 := i64_or256s n0 b1 (by omega) (by omega) p1 q1
  generalize hn1 : 256 * n0 + b1 = n1 at *
  have s2 : wrap64 (n1 * 256) = n1 * 256 := by unfold wrap64; omega
  have u2 : wrap64 b2 = b2 := by unfold wrap64; omega
  have o2 := i64_or256s n1 b2 (by omega) (by omega) p2 q2
  generalize hn2 : 256 * n1 + b2 = n2 at *
  have s3 : wrap64 (n2 * 256) = n2 * 256 := by unfold wrap64; omega
  have u3 : wrap64 b3 = b3 := by unfold wrap64; omega
  have o3 := i64_or256s n2 b3 (by omega) (by omega) p3 q3
  generalize hn3 : 256 * n2 + b3 = n3 at *
  have r0 : -2147483648 ≤ n3 := by omega
  have r1 : n3 < 2147483648 := by omega
  have HW := hide (whole_any n3 (by omega) (by omega))
  have HQ := hide (unhide HSS (bytI n3) (bytI_byte n3))
  have HBN := hide (fun W => bytes_new (e.con.extract 1 4) W)
  have hz : (e.con.extract 1 4).size = 3 := by rw [ByteArray.size_extract]; omega
  have y1 : (nums (e.con.extract 1 4)).getD 0 0 = b1 := by rw [nums_sub, getD_sub _ _ _ _ (by omega), hl]; rfl
  have y2 : (nums (e.con.extract 1 4)).getD 1 0 = b2 := by rw [nums_sub, getD_sub _ _ _ _ (by omega), hl]; rfl
  have y3 : (nums (e.con.extract 1 4)).getD 2 0 = b3 := by rw [nums_sub, getD_sub _ _ _ _ (by omega), hl]; rfl
  have HZ := hide hz
  have Y1 := hide y1
  have Y2 := hide y2
  have Y3 := hide y3
  clear hz hl HSS y1 y2 y3 hn1 hn2 hn3 m0 m1 p0 q0 p1 q1 p2 q2 p3 q3 r0 r1
  by_cases hq : bytI n3 = nums e.con
  · have z : ((strOfNums (bytI n3)).toList == e.con.toList) = true := by rw [unhide HQ]; exact decide_eq_true hq
    rw [if_pos hq]
    clear hq HQ
    go_enter Try.func20, Try.ntmps20
    go_wp2_with (go_at_call 34; refine (unhide HP _ g0).mono ?_; rintro r w2 ⟨rfl, g2⟩; have t2 := (g0.trans g2).below; obtain ⟨w3, cap3, hcv, hcell, hbel⟩ := unhide HBN w2; rw [unhide HZ] at hcv hcell; have t3 := below_next t2 hbel; have c1 := hcell 0 (by omega); rw [unhide Y1] at c1; have c2 := hcell 1 (by omega); rw [unhide Y2] at c2; have c3 := hcell 2 (by omega); rw [unhide Y3] at c3; clear hcell hbel)
    refine wp_loop_rounds 4 ?_
    rw [rounds_succ]
    go_wp2
    rw [rounds_succ]
    go_wp2
    rw [rounds_succ]
    go_wp2
    rw [rounds_succ]
    go_wp2_with (go_at_call 30; refine (unhide HW _).mono ?_; rintro r w4 ⟨rfl, b4⟩)
    go_ret2
    exact ⟨rfl, below_next t3 b4⟩
  · have z : ((strOfNums (bytI n3)).toList == e.con.toList) = false := by rw [unhide HQ]; exact decide_eq_false hq
    rw [if_neg hq]
    clear hq HQ
    go_enter Try.func20, Try.ntmps20
    go_wp2_with (go_at_call 34; refine (unhide HP _ g0).mono ?_; rintro r w2 ⟨rfl, g2⟩; have t2 := (g0.trans g2).below; obtain ⟨w3, cap3, hcv, hcell, hbel⟩ := unhide HBN w2; rw [unhide HZ] at hcv hcell; have t3 := below_next t2 hbel; have c1 := hcell 0 (by omega); rw [unhide Y1] at c1; have c2 := hcell 1 (by omega); rw [unhide Y2] at c2; have c3 := hcell 2 (by omega); rw [unhide Y3] at c3; clear hcell hbel)
    refine wp_loop_rounds 4 ?_
    rw [rounds_succ]
    go_wp2
    rw [rounds_succ]
    go_wp2
    rw [rounds_succ]
    go_wp2
    rw [rounds_succ]
    go_wp2_with (go_at_call 30; refine (unhide HW _).mono ?_; rintro r w4 ⟨rfl, b4⟩)
    go_ret2
    exact ⟨rfl, below_next t3 b4⟩
theorem asint_any (e : El) (v : Value) (w : World) (hV : ElV w e v) : Calls Try.prog 20 #[v] w fun r w' => r = .returned (.tuple #[.int .i64 (asIE e).1, .int .i64 (asIE e).2]) ∧ Below w.heap.size w w' := by
  unfold asIE
  cases hp : plnE e
  · exact asint_no e hp v w hV
  · by_cases hs : e.con.size < 1 ∨ 4 < e.con.size
    · have : asI (nums e.con) = (0, 160) := by unfold asI; rw [if_pos (by rw [nums_length]; exact hs)]
      rw [if_pos rfl, this]
      exact asint_len e hp hs v w hV
    · rw [if_pos rfl]
      have h4 : e.con.size = 1 ∨ e.con.size = 2 ∨ e.con.size = 3 ∨ e.con.size = 4 := by omega
      rcases h4 with h | h | h | h
      · exact asint_1 e hp h v w hV
      · exact asint_2 e hp h v w hV
      · exact asint_3 e hp h v w hV
      · exact asint_4 e hp h v w hV
end Go.Proofs.Ytcboggoindhmkaa
