/- The laws of layer 23, out of the landed contracts. -/
import Derived.Test.YtmemflanfklmpaaRh23
namespace Go.Proofs.Ytmemflanfklmpaa
open Go.RowKit

/-- What the landed calls answer: of texts of at most 20000 bytes. -/
structure C23 : Prop where
  chk : ∀ (s : ByteArray) (w : World), s.size ≤ 20000 → Calls Try.prog 12 #[.string s] w fun e w' => e = .returned (.int .i64 (chkE s)) ∧ Below w.heap.size w w'
  dep : ∀ (s : ByteArray) (w : World), s.size ≤ 20000 → Calls Try.prog 14 #[.string s] w fun e w' => e = .returned (.int .i64 (depK (bts s))) ∧ Below w.heap.size w w'
  abo : ∀ (s : ByteArray) (w : World), s.size ≤ 20000 → Calls Try.prog 10 #[.string s] w fun e w' => e = .returned (.tuple #[.string (aboS s), .bool (hasP s)]) ∧ Below w.heap.size w w'
  und : ∀ (a b : ByteArray) (w : World), a.size ≤ 20000 → b.size ≤ 20000 → Calls Try.prog 20 #[.string a, .string b] w fun e w' => e = .returned (.bool (undS a b)) ∧ Below w.heap.size w w'
  nex : ∀ (a b : ByteArray) (w : World), a.size ≤ 20000 → b.size ≤ 20000 → Calls Try.prog 22 #[.string a, .string b] w fun e w' => e = .returned (.bool (nexS a b)) ∧ Below w.heap.size w w'
  mov : ∀ (k f t : ByteArray) (w : World), k.size ≤ 20000 → f.size ≤ 20000 → t.size ≤ 20000 → Calls Try.prog 18 #[.string k, .string f, .string t] w fun e w' => e = .returned (.tuple #[.string (movS k f t), .int .i64 (movI k f t)]) ∧ Below w.heap.size w w'
  beh : ∀ (s : ByteArray) (w : World), s.size ≤ 20000 → Calls Try.prog 16 #[.string s] w fun e w' => e = .returned (.string (behS s)) ∧ Below w.heap.size w w'
def shB (a b c : ByteArray) : Bool := decide (a.size ≤ 5000 ∧ b.size ≤ 5000 ∧ c.size ≤ 5000)
theorem short23 (a b c : ByteArray) (w : World) : Calls Try.prog 8 #[.string a, .string b, .string c] w fun e w' => e = .returned (.bool (shB a b c)) ∧ w = w' := by
  have go : ∀ z : Bool, shB a b c = z → Calls Try.prog 8 #[.string a, .string b, .string c] w fun e w' => e = .returned (.bool z) ∧ w = w' := fun z hz => by
    unfold shB at hz
    by_cases h1 : a.size ≤ 5000
    · have z1 : (a.size : Int) ≤ 5000 := by omega
      by_cases h2 : b.size ≤ 5000
      · have z2 : (b.size : Int) ≤ 5000 := by omega
        by_cases h3 : c.size ≤ 5000
        · have z3 : (c.size : Int) ≤ 5000 := by omega
          rw [decide_eq_true ⟨h1, h2, h3⟩] at hz
          subst hz
          clear h1 h2 h3
          go_enter Try.func8, Try.ntmps8
          go_wp2
          go_ret
          exact ⟨rfl, rfl⟩
        · have z3 : ¬ (c.size : Int) ≤ 5000 := by omega
          rw [decide_eq_false (fun h => h3 h.2.2)] at hz
          subst hz
          clear h1 h2 h3
          go_enter Try.func8, Try.ntmps8
          go_wp2
          go_ret
          exact ⟨rfl, rfl⟩
      · have z2 : ¬ (b.size : Int) ≤ 5000 := by omega
        rw [decide_eq_false (fun h => h2 h.2.1)] at hz
        subst hz
        clear h1 h2
        go_enter Try.func8, Try.ntmps8
        go_wp2
        go_ret
        exact ⟨rfl, rfl⟩
    · have z1 : ¬ (a.size : Int) ≤ 5000 := by omega
      rw [decide_eq_false (fun h => h1 h.1)] at hz
      subst hz
      clear h1
      go_enter Try.func8, Try.ntmps8
      go_wp2
      go_ret
      exact ⟨rfl, rfl⟩
  exact go _ rfl
/-! The probe. -/
def kA : ByteArray := ⟨#[111, 61, 97, 0, 99, 110, 61, 98, 0]⟩
def kB : ByteArray := ⟨#[111, 61, 97, 0]⟩
def kC : ByteArray := ⟨#[111, 61, 99, 0]⟩
theorem aw23_1 : aboS kA = ⟨#[111, 61, 97, 0]⟩ ∧ hasP kA = true := ⟨by kernel_rfl, by kernel_rfl⟩
theorem aw23_2 : movS kA kB kC = ⟨#[111, 61, 99, 0, 99, 110, 61, 98, 0]⟩ ∧ movI kA kB kC = 0 ∧ movI kB kC ⟨#[]⟩ = 220 := ⟨by kernel_rfl, by kernel_rfl, by kernel_rfl⟩
theorem aw23_3 : depK (bts kA) = 2 ∧ chkE ⟨#[97]⟩ = 220 ∧ undS ⟨#[97, 0, 98, 0]⟩ ⟨#[97, 0]⟩ = true ∧ undS ⟨#[97, 98, 0]⟩ ⟨#[97, 0]⟩ = false ∧ nexS ⟨#[97, 0]⟩ ⟨#[]⟩ = true ∧ behS ⟨#[97, 0]⟩ = ⟨#[97, 1]⟩ := ⟨by kernel_rfl, by kernel_rfl, by kernel_rfl, by kernel_rfl, by kernel_rfl, by kernel_rfl⟩
set_option maxHeartbeats 3200000 in
theorem awake23 (C : C23) (w : World) : Calls Try.prog 9 #[] w fun e w' => e = .returned (.bool true) ∧ Below w.heap.size w w' := by
  have K1 : Hid (∀ W, Calls Try.prog 10 #[.string ⟨#[111, 61, 97, 0, 99, 110, 61, 98, 0]⟩] W fun e w' => e = .returned (.tuple #[.string ⟨#[111, 61, 97, 0]⟩, .bool true]) ∧ Below W.heap.size W w') := fun W => by
    have := C.abo kA W (by decide)
    rwa [aw23_1.1, aw23_1.2] at this
  have K2 : Hid (∀ W, Calls Try.prog 18 #[.string ⟨#[111, 61, 97, 0, 99, 110, 61, 98, 0]⟩, .string ⟨#[111, 61, 97, 0]⟩, .string ⟨#[111, 61, 99, 0]⟩] W fun e w' => e = .returned (.tuple #[.string ⟨#[111, 61, 99, 0, 99, 110, 61, 98, 0]⟩, .int .i64 0]) ∧ Below W.heap.size W w') := fun W => by
    have := C.mov kA kB kC W (by decide) (by decide) (by decide)
    rwa [aw23_2.1, aw23_2.2.1] at this
  have K3 : Hid (∀ W, Calls Try.prog 18 #[.string ⟨#[111, 61, 97, 0]⟩, .string ⟨#[111, 61, 99, 0]⟩, .string ⟨#[]⟩] W fun e w' => (∃ x, e = .returned (.tuple #[.string x, .int .i64 220])) ∧ Below W.heap.size W w') := fun W => by
    have := C.mov kB kC ⟨#[]⟩ W (by decide) (by decide) (by decide)
    rw [aw23_2.2.2] at this
    exact this.mono fun _ _ ⟨he, hb⟩ => ⟨⟨_, he⟩, hb⟩
  have K4 : Hid (∀ W, Calls Try.prog 14 #[.string ⟨#[111, 61, 97, 0, 99, 110, 61, 98, 0]⟩] W fun e w' => e = .returned (.int .i64 2) ∧ Below W.heap.size W w') := fun W => by
    have := C.dep kA W (by decide)
    rwa [aw23_3.1] at this
  have K5 : Hid (∀ W, Calls Try.prog 12 #[.string ⟨#[97]⟩] W fun e w' => e = .returned (.int .i64 220) ∧ Below W.heap.size W w') := fun W => by
    have := C.chk ⟨#[97]⟩ W (by decide)
    rwa [aw23_3.2.1] at this
  have K6 : Hid (∀ W, Calls Try.prog 20 #[.string ⟨#[97, 0, 98, 0]⟩, .string ⟨#[97, 0]⟩] W fun e w' => e = .returned (.bool true) ∧ Below W.heap.size W w') := fun W => by
    have := C.und ⟨#[97, 0, 98, 0]⟩ ⟨#[97, 0]⟩ W (by decide) (by decide)
    rwa [aw23_3.2.2.1] at this
  have K7 : Hid (∀ W, Calls Try.prog 20 #[.string ⟨#[97, 98, 0]⟩, .string ⟨#[97, 0]⟩] W fun e w' => e = .returned (.bool false) ∧ Below W.heap.size W w') := fun W => by
    have := C.und ⟨#[97, 98, 0]⟩ ⟨#[97, 0]⟩ W (by decide) (by decide)
    rwa [aw23_3.2.2.2.1] at this
  have K8 : Hid (∀ W, Calls Try.prog 22 #[.string ⟨#[97, 0]⟩, .string ⟨#[]⟩] W fun e w' => e = .returned (.bool true) ∧ Below W.heap.size W w') := fun W => by
    have := C.nex ⟨#[97, 0]⟩ ⟨#[]⟩ W (by decide) (by decide)
    rwa [aw23_3.2.2.2.2.1] at this
  have K9 : Hid (∀ W, Calls Try.prog 16 #[.string ⟨#[97, 0]⟩] W fun e w' => e = .returned (.string ⟨#[97, 1]⟩) ∧ Below W.heap.size W w') := fun W => by
    have := C.beh ⟨#[97, 0]⟩ W (by decide)
    rwa [aw23_3.2.2.2.2.2] at this
  clear C
  go_enter Try.func9, Try.ntmps9
  go_wp2_with (first
    | (go_at_call 16; refine (unhide K9 _).mono ?_; rintro e w9 ⟨rfl, b9⟩; have t9 := t8.trans (b9.mono t8.size))
    | (go_at_call 22; refine (unhide K8 _).mono ?_; rintro e w8 ⟨rfl, b8⟩; have t8 := t7.trans (b8.mono t7.size))
    | (go_at_call 20; have M := F6; refine (unhide K7 _).mono ?_; rintro e w7 ⟨rfl, b7⟩; have t7 := t6.trans (b7.mono t6.size))
    | (go_at_call 20; refine (unhide K6 _).mono ?_; rintro e w6 ⟨rfl, b6⟩; have t6 := t5.trans (b6.mono t5.size); have F6 := trivial)
    | (go_at_call 12; refine (unhide K5 _).mono ?_; rintro e w5 ⟨rfl, b5⟩; have t5 := t4.trans (b5.mono t4.size))
    | (go_at_call 14; refine (unhide K4 _).mono ?_; rintro e w4 ⟨rfl, b4⟩; have t4 := t3.trans (b4.mono t3.size))
    | (go_at_call 18; have M := F2; refine (unhide K3 _).mono ?_; rintro e w3 ⟨⟨x3, rfl⟩, b3⟩; have t3 := t2.trans (b3.mono t2.size))
    | (go_at_call 18; refine (unhide K2 _).mono ?_; rintro e w2 ⟨rfl, b2⟩; have t2 := t1.trans (b2.mono t1.size); have F2 := trivial)
    | (go_at_call 10; refine (unhide K1 _).mono ?_; rintro e w1 ⟨rfl, t1⟩))
  go_ret
  exact ⟨rfl, t9⟩
theorem te_sh (a b : ByteArray) : shB a b ⟨#[]⟩ = decide (a.size ≤ 5000 ∧ b.size ≤ 5000) := by
  unfold shB
  refine decide_eq_decide.2 ⟨fun h => ⟨h.1, h.2.1⟩, fun h => ⟨h.1, h.2, by decide⟩⟩
theorem sh_yes {a b c : ByteArray} (h : shB a b c = true) : a.size ≤ 20000 ∧ b.size ≤ 20000 ∧ c.size ≤ 20000 := by
  have := of_decide_eq_true h
  omega
set_option maxHeartbeats 3200000 in
theorem looks23 (C : C23) (s : ByteArray) (w : World) : Calls Try.prog 3 #[.string s] w fun e w' => e = .returned (.bool true) ∧ Below w.heap.size w w' := by
  have CS := hide (short23 s ⟨#[]⟩ ⟨#[]⟩ w)
  cases hs : shB s ⟨#[]⟩ ⟨#[]⟩ <;> rw [hs] at CS
  · have CA := hide (awake23 C w)
    clear C hs
    go_enter Try.func3, Try.ntmps3
    go_wp2_with (first
      | (go_at_call 9; refine (unhide CA).mono ?_; rintro e w2 ⟨rfl, t2⟩)
      | (go_at_call 8; refine (unhide CS).mono ?_; rintro e w' ⟨rfl, rfl⟩))
    go_ret
    exact ⟨rfl, t2⟩
  · obtain ⟨h1, _, _⟩ := sh_yes hs
    have CA := hide (fun W => awake23 C W)
    have A1 := hide (fun W => C.abo s W h1)
    have A2 := hide (fun W => rabove_any s W (by omega))
    have B1 := hide (fun W => C.chk s W h1)
    have B2 := hide (fun W => rcheck_any s W (by omega))
    have D1 := hide (fun W => C.dep s W h1)
    have D2 := hide (fun W => rdepth_any s W (by omega))
    have E1 := hide (fun W => C.beh s W h1)
    have E2 := hide (fun W => rbehind_any s W (by omega))
    clear C hs h1
    generalize aboS s = x1 at *
    generalize hasP s = x2 at *
    generalize chkE s = x3 at *
    generalize depK (bts s) = x4 at *
    generalize behS s = x5 at *
    have q1 : (x1.toList == x1.toList) = true := by simp
    have q2 : (x2 == x2) = true := by simp
    have q3 : (x3 == x3) = true := by simp
    have q4 : (x4 == x4) = true := by simp
    have q5 : (x5.toList == x5.toList) = true := by simp
    go_enter Try.func3, Try.ntmps3
    go_wp2_with (first
      | (go_at_call 9; refine (unhide CA _).mono ?_; rintro e w5 ⟨rfl, b5⟩; have t5 := t4.trans (b5.mono t4.size))
      | (go_at_call 17; refine (unhide E2 _).mono ?_; rintro e w' ⟨rfl, rfl⟩)
      | (go_at_call 16; refine (unhide E1 _).mono ?_; rintro e w4 ⟨rfl, b4⟩; have t4 := t3.trans (b4.mono t3.size))
      | (go_at_call 15; refine (unhide D2 _).mono ?_; rintro e w' ⟨rfl, rfl⟩)
      | (go_at_call 14; refine (unhide D1 _).mono ?_; rintro e w3 ⟨rfl, b3⟩; have t3 := t2.trans (b3.mono t2.size))
      | (go_at_call 13; refine (unhide B2 _).mono ?_; rintro e w' ⟨rfl, rfl⟩)
      | (go_at_call 12; refine (unhide B1 _).mono ?_; rintro e w2 ⟨rfl, b2⟩; have t2 := t1.trans (b2.mono t1.size))
      | (go_at_call 11; refine (unhide A2 _).mono ?_; rintro e w' ⟨rfl, rfl⟩)
      | (go_at_call 10; refine (unhide A1 _).mono ?_; rintro e w1 ⟨rfl, t1⟩)
      | (go_at_call 8; refine (unhide CS).mono ?_; rintro e w' ⟨rfl, rfl⟩))
    go_ret
    exact ⟨rfl, t5⟩
set_option maxHeartbeats 3200000 in
theorem pairs23 (C : C23) (a b c : ByteArray) (w : World) : Calls Try.prog 4 #[.string a, .string b, .string c] w fun e w' => e = .returned (.bool true) ∧ Below w.heap.size w w' := by
  have CS := hide (short23 a b c w)
  cases hs : shB a b c <;> rw [hs] at CS
  · have CA := hide (awake23 C w)
    clear C hs
    go_enter Try.func4, Try.ntmps4
    go_wp2_with (first
      | (go_at_call 9; refine (unhide CA).mono ?_; rintro e w2 ⟨rfl, t2⟩)
      | (go_at_call 8; refine (unhide CS).mono ?_; rintro e w' ⟨rfl, rfl⟩))
    go_ret
    exact ⟨rfl, t2⟩
  · obtain ⟨h1, h2, h3⟩ := sh_yes hs
    have CA := hide (fun W => awake23 C W)
    have A1 := hide (fun W => C.mov a b c W h1 h2 h3)
    have A2 := hide (fun W => rmove_any a b c W (by omega) (by omega) (by omega))
    have B1 := hide (fun W => C.und a b W h1 h2)
    have B2 := hide (fun W => runder_any a b W (by omega) (by omega))
    have D1 := hide (fun W => C.nex a b W h1 h2)
    have D2 := hide (fun W => rnext_any a b W (by omega) (by omega))
    clear C hs h1 h2 h3
    generalize movS a b c = x1 at *
    generalize movI a b c = x2 at *
    generalize undS a b = x3 at *
    generalize nexS a b = x4 at *
    have q1 : (x1.toList == x1.toList) = true := by simp
    have q2 : (x2 == x2) = true := by simp
    have q3 : (x3 == x3) = true := by simp
    have q4 : (x4 == x4) = true := by simp
    go_enter Try.func4, Try.ntmps4
    go_wp2_with (first
      | (go_at_call 9; refine (unhide CA _).mono ?_; rintro e w5 ⟨rfl, b5⟩; have t5 := t3.trans (b5.mono t3.size))
      | (go_at_call 23; refine (unhide D2 _).mono ?_; rintro e w' ⟨rfl, rfl⟩)
      | (go_at_call 22; refine (unhide D1 _).mono ?_; rintro e w3 ⟨rfl, b3⟩; have t3 := t2.trans (b3.mono t2.size))
      | (go_at_call 21; refine (unhide B2 _).mono ?_; rintro e w' ⟨rfl, rfl⟩)
      | (go_at_call 20; refine (unhide B1 _).mono ?_; rintro e w2 ⟨rfl, b2⟩; have t2 := t1.trans (b2.mono t1.size))
      | (go_at_call 19; refine (unhide A2 _).mono ?_; rintro e w' ⟨rfl, rfl⟩)
      | (go_at_call 18; refine (unhide A1 _).mono ?_; rintro e w1 ⟨rfl, t1⟩)
      | (go_at_call 8; refine (unhide CS).mono ?_; rintro e w' ⟨rfl, rfl⟩))
    go_ret
    exact ⟨rfl, t5⟩
set_option maxHeartbeats 3200000 in
theorem moves23 (C : C23) (a b c : ByteArray) (w : World) : Calls Try.prog 7 #[.string a, .string b, .string c] w fun e w' => e = .returned (.bool true) ∧ Below w.heap.size w w' := by
  have CS := hide (short23 a b c w)
  cases hs : shB a b c <;> rw [hs] at CS
  · have CA := hide (awake23 C w)
    clear C hs
    go_enter Try.func7, Try.ntmps7
    go_wp2_with (first
      | (go_at_call 9; refine (unhide CA).mono ?_; rintro e w2 ⟨rfl, t2⟩)
      | (go_at_call 8; refine (unhide CS).mono ?_; rintro e w' ⟨rfl, rfl⟩))
    go_ret
    exact ⟨rfl, t2⟩
  · have hsz := of_decide_eq_true hs
    have CA := hide (fun W => awake23 C W)
    have A1 := hide (fun W => C.mov a b c W (by omega) (by omega) (by omega))
    by_cases h0 : movI a b c = 0
    · obtain ⟨m1, m2, m3, m4⟩ := move_back (key := bts a) (fro := bts b) (dst := bts c) h0
      have hms : (movS a b c).size ≤ 10000 := by
        unfold movS movK
        rw [ofb_size]
        split
        · rw [List.length_append, List.length_drop, bts_len, bts_len, bts_len]; omega
        · simp
      have eM : movS a b c = ofb (movK (bts a) (bts b) (bts c)) := rfl
      have e1 : movI (movS a b c) c b = 0 := by unfold movI; rw [eM, bts_ofb]; exact m1
      have e2 : movS (movS a b c) c b = a := by unfold movS; rw [bts_ofb, m2, ofb_bts]
      have e3 : undS (movS a b c) c = true := by unfold undS; rw [eM, bts_ofb]; exact m3
      have e4 : depK (bts (movS a b c)) - depK (bts c) = depK (bts a) - depK (bts b) := by rw [eM, bts_ofb]; exact m4
      have A2 := hide (fun W => C.mov (movS a b c) c b W (by omega) (by omega) (by omega))
      rw [e1, e2] at A2
      have B1 := hide (fun W => C.und (movS a b c) c W (by omega) (by omega))
      rw [e3] at B1
      have D1 := hide (fun W => C.dep (movS a b c) W (by omega))
      have D2 := hide (fun W => C.dep c W (by omega))
      have D3 := hide (fun W => C.dep a W (by omega))
      have D4 := hide (fun W => C.dep b W (by omega))
      rw [h0] at A1
      have d1 := dep_bound (movS a b c)
      have d2 := dep_bound c
      have d3 := dep_bound a
      have d4 := dep_bound b
      generalize movS a b c = m at *
      generalize depK (bts m) = y1 at *
      generalize depK (bts c) = y2 at *
      generalize depK (bts a) = y3 at *
      generalize depK (bts b) = y4 at *
      have w1 : IntKind.i64.wrap (y1 - y2) = y1 - y2 := by rw [IntKind.wrap_i64]; omega
      have w2 : IntKind.i64.wrap (y3 - y4) = y3 - y4 := by rw [IntKind.wrap_i64]; omega
      have w3 : wrap64 (y1 - y2) = y1 - y2 := by unfold wrap64; omega
      have w4 : wrap64 (y3 - y4) = y3 - y4 := by unfold wrap64; omega
      have q1 : (a.toList == a.toList) = true := by simp
      have q2 : (y1 - y2 == y3 - y4) = true := by rw [e4]; simp
      clear C hs hsz h0 m1 m2 m3 m4 hms eM e1 e2 e3 e4 d1 d2 d3 d4
      go_enter Try.func7, Try.ntmps7
      go_wp2_with (first
        | (go_at_call 9; refine (unhide CA _).mono ?_; rintro e w8 ⟨rfl, b8⟩; have t8 := t7.trans (b8.mono t7.size))
        | (go_at_call 14; have M := F3; refine (unhide D4 _).mono ?_; rintro e w7 ⟨rfl, b7⟩; have t7 := t6.trans (b7.mono t6.size))
        | (go_at_call 14; have M := F2; refine (unhide D3 _).mono ?_; rintro e w6 ⟨rfl, b6⟩; have t6 := t5.trans (b6.mono t5.size); have F3 := trivial)
        | (go_at_call 14; have M := F1; refine (unhide D2 _).mono ?_; rintro e w5 ⟨rfl, b5⟩; have t5 := t4.trans (b5.mono t4.size); have F2 := trivial)
        | (go_at_call 14; refine (unhide D1 _).mono ?_; rintro e w4 ⟨rfl, b4⟩; have t4 := t3.trans (b4.mono t3.size); have F1 := trivial)
        | (go_at_call 20; refine (unhide B1 _).mono ?_; rintro e w3 ⟨rfl, b3⟩; have t3 := t2.trans (b3.mono t2.size))
        | (go_at_call 18; have M := F0; refine (unhide A2 _).mono ?_; rintro e w2 ⟨rfl, b2⟩; have t2 := t1.trans (b2.mono t1.size))
        | (go_at_call 18; refine (unhide A1 _).mono ?_; rintro e w1 ⟨rfl, t1⟩; have F0 := trivial)
        | (go_at_call 8; refine (unhide CS).mono ?_; rintro e w' ⟨rfl, rfl⟩))
      go_ret
      exact ⟨rfl, t8⟩
    · obtain ⟨h1, h2⟩ := move_bad (key := bts a) (fro := bts b) (dst := bts c) h0
      have e1 : movI a b c = 220 := h1
      have e2 : movS a b c = ⟨#[]⟩ := by unfold movS; rw [h2]
      rw [e1, e2] at A1
      clear C hs hsz h0 h1 h2 e1 e2
      go_enter Try.func7, Try.ntmps7
      go_wp2_with (first
        | (go_at_call 9; refine (unhide CA _).mono ?_; rintro e w8 ⟨rfl, b8⟩; have t8 := t1.trans (b8.mono t1.size))
        | (go_at_call 18; refine (unhide A1 _).mono ?_; rintro e w1 ⟨rfl, t1⟩)
        | (go_at_call 8; refine (unhide CS).mono ?_; rintro e w' ⟨rfl, rfl⟩))
      go_ret
      exact ⟨rfl, t8⟩
end Go.Proofs.Ytmemflanfklmpaa
