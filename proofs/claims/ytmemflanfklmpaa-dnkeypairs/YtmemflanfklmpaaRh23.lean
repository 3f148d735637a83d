/- The document's Under, Next, Move, Behind of layer 23. -/
import Derived.Test.YtmemflanfklmpaaRg23
namespace Go.Proofs.Ytmemflanfklmpaa
open Go.RowKit

def undS (a b : ByteArray) : Bool := undK (bts a) (bts b)
theorem pre_take (a b : ByteArray) : decide (a.extract 0 b.size = b) = (bts b).isPrefixOf (bts a) := by
  rw [ext_take, Bool.eq_iff_iff, decide_eq_true_eq, List.isPrefixOf_iff_prefix]
  constructor
  · intro e
    have e2 := congrArg bts e
    rw [bts_ofb] at e2
    exact ⟨(bts a).drop b.size, by rw [← e2]; exact List.take_append_drop _ _⟩
  · rintro ⟨r, hr⟩
    rw [← hr, show b.size = (bts b).length from (bts_len b).symm, List.take_left, ofb_bts]
theorem pre_long (a b : ByteArray) (h : ¬ b.size ≤ a.size) : (bts b).isPrefixOf (bts a) = false := by
  cases e : (bts b).isPrefixOf (bts a)
  · rfl
  · exact absurd (by have := (List.isPrefixOf_iff_prefix.1 e).length_le; rwa [bts_len, bts_len] at this) h
theorem ret_b {x y : Bool} (h : x = y) : Ending.returned (.bool x) = .returned (.bool y) := by rw [h]
set_option maxHeartbeats 1600000 in
theorem runder_any (a b : ByteArray) (w : World) (ha : a.size ≤ 1000000) (hb : b.size ≤ 1000000) : Calls Try.prog 21 #[.string a, .string b] w fun e w' => e = .returned (.bool (undS a b)) ∧ w = w' := by
  have CA := hide (rcheck_any a w ha)
  have CB := hide (rcheck_any b w hb)
  cases hka : okK (bts a)
  · have HE : Hid (false = undS a b) := by show _ = _; unfold undS undK; rw [hka]; rfl
    rw [chk_no hka] at CA
    clear hka CB
    go_enter Try.func21, Try.ntmps21
    go_wp2_with (go_at_call_of 13 (a); refine (unhide CA).mono ?_; rintro e w2 ⟨rfl, rfl⟩)
    go_ret
    exact ⟨ret_b (unhide HE), rfl⟩
  · rw [chk_yes hka] at CA
    cases hkb : okK (bts b)
    · have HE : Hid (false = undS a b) := by show _ = _; unfold undS undK; rw [hkb, Bool.and_false]; rfl
      rw [chk_no hkb] at CB
      clear hka hkb
      go_enter Try.func21, Try.ntmps21
      go_wp2_with (first
        | (go_at_call 13; have M := F1; refine (unhide CB).mono ?_; rintro e w2 ⟨rfl, rfl⟩)
        | (go_at_call 13; refine (unhide CA).mono ?_; rintro e w2 ⟨rfl, rfl⟩; have F1 := trivial))
      go_ret
      exact ⟨ret_b (unhide HE), rfl⟩
    · rw [chk_yes hkb] at CB
      by_cases hl : b.size ≤ a.size
      · have HE : Hid (decide (a.extract 0 b.size = b) = undS a b) := by show _ = _; rw [pre_take a b]; unfold undS undK; rw [hka, hkb]; rfl
        have hq := txt23 (a.extract 0 b.size) b
        have zl : (b.size : Int) ≤ (a.size : Int) := by omega
        have z0 : (0 : Int) ≤ (b.size : Int) := by omega
        clear hka hkb hl
        generalize decide (a.extract 0 b.size = b) = d at *
        go_enter Try.func21, Try.ntmps21
        go_wp2_with (first
          | (go_at_call 13; have M := F1; refine (unhide CB).mono ?_; rintro e w2 ⟨rfl, rfl⟩)
          | (go_at_call 13; refine (unhide CA).mono ?_; rintro e w2 ⟨rfl, rfl⟩; have F1 := trivial))
        go_ret
        exact ⟨ret_b (unhide HE), rfl⟩
      · have HE : Hid (false = undS a b) := by show _ = _; unfold undS undK; rw [pre_long a b hl, Bool.and_false]
        have zl : ¬ (b.size : Int) ≤ (a.size : Int) := by omega
        clear hka hkb hl
        go_enter Try.func21, Try.ntmps21
        go_wp2_with (first
          | (go_at_call 13; have M := F1; refine (unhide CB).mono ?_; rintro e w2 ⟨rfl, rfl⟩)
          | (go_at_call 13; refine (unhide CA).mono ?_; rintro e w2 ⟨rfl, rfl⟩; have F1 := trivial))
        go_ret
        exact ⟨ret_b (unhide HE), rfl⟩
def nexS (a b : ByteArray) : Bool := nexK (bts a) (bts b)
theorem dep_bound (s : ByteArray) : -1 ≤ depK (bts s) ∧ depK (bts s) ≤ s.size := by
  unfold depK
  have h := zer_le (bts s)
  rw [bts_len] at h
  split <;> omega
set_option maxHeartbeats 1600000 in
theorem rnext_any (a b : ByteArray) (w : World) (ha : a.size ≤ 1000000) (hb : b.size ≤ 1000000) : Calls Try.prog 23 #[.string a, .string b] w fun e w' => e = .returned (.bool (nexS a b)) ∧ w = w' := by
  have CU := hide (runder_any a b w ha hb)
  have CA := hide (rdepth_any a w ha)
  have CB := hide (rdepth_any b w hb)
  have HE : Hid ((undS a b && decide (depK (bts a) = depK (bts b) + 1)) = nexS a b) := rfl
  have h1 := dep_bound a
  have h2 := dep_bound b
  generalize depK (bts a) = x at *
  generalize depK (bts b) = y at *
  have hw : IntKind.i64.wrap (y + 1) = y + 1 := by rw [IntKind.wrap_i64]; omega
  have hw2 : wrap64 (y + 1) = y + 1 := by unfold wrap64; omega
  generalize undS a b = u at *
  generalize nexS a b = v at *
  clear h1 h2
  cases u
  · rw [Bool.false_and] at HE
    go_enter Try.func23, Try.ntmps23
    go_wp2_with (go_at_call 21; refine (unhide CU).mono ?_; rintro e w2 ⟨rfl, rfl⟩)
    go_ret
    exact ⟨ret_b (unhide HE), rfl⟩
  · rw [Bool.true_and] at HE
    have hq : (x == y + 1) = decide (x = y + 1) := by by_cases h : x = y + 1 <;> simp [h]
    generalize decide (x = y + 1) = d at *
    go_enter Try.func23, Try.ntmps23
    go_wp2_with (first
      | (go_at_call 15; have M := F1; refine (unhide CB).mono ?_; rintro e w2 ⟨rfl, rfl⟩)
      | (go_at_call 15; refine (unhide CA).mono ?_; rintro e w2 ⟨rfl, rfl⟩; have F1 := trivial)
      | (go_at_call 21; refine (unhide CU).mono ?_; rintro e w2 ⟨rfl, rfl⟩))
    go_ret
    exact ⟨ret_b (unhide HE), rfl⟩
def movS (k f t : ByteArray) : ByteArray := ofb (movK (bts k) (bts f) (bts t))
def movI (k f t : ByteArray) : Int := movE (bts k) (bts f) (bts t)
theorem ret_si {a b : ByteArray} {x y : Int} (h1 : a = b) (h2 : x = y) : Ending.returned (.tuple #[.string a, .int .i64 x]) = .returned (.tuple #[.string b, .int .i64 y]) := by rw [h1, h2]
theorem ext_drop23 (s : ByteArray) (n : Nat) : s.extract n s.size = ofb ((bts s).drop n) := by
  apply ByteArray.ext
  rw [ByteArray.data_extract]
  apply Array.ext'
  simp
  rw [List.take_of_length_le]
  rw [List.length_drop]
  have := bts_len s
  unfold bts at this
  omega
theorem app23 (a b : List UInt8) : ofb a ++ ofb b = ofb (a ++ b) := by
  apply ByteArray.ext
  rw [ByteArray.data_append]
  simp
theorem und_len {a b : ByteArray} (h : undS a b = true) : b.size ≤ a.size := by
  obtain ⟨_, _, r, hr⟩ := undK_iff.1 h
  have := congrArg List.length hr
  rw [List.length_append, bts_len, bts_len] at this
  omega
set_option maxHeartbeats 1600000 in
theorem rmove_any (k f t : ByteArray) (w : World) (hk : k.size ≤ 1000000) (hf : f.size ≤ 1000000) (ht : t.size ≤ 1000000) : Calls Try.prog 19 #[.string k, .string f, .string t] w fun e w' => e = .returned (.tuple #[.string (movS k f t), .int .i64 (movI k f t)]) ∧ w = w' := by
  have CT := hide (rcheck_any t w ht)
  have CU := hide (runder_any k f w hk hf)
  cases hkt : okK (bts t)
  · have HE : Hid ((⟨#[]⟩ : ByteArray) = movS k f t ∧ 220 = movI k f t) := by
      unfold movS movI movK movE
      rw [hkt]
      exact ⟨rfl, rfl⟩
    rw [chk_no hkt] at CT
    clear hkt
    go_enter Try.func19, Try.ntmps19
    go_wp2_with (go_at_call 13; refine (unhide CT).mono ?_; rintro e w2 ⟨rfl, rfl⟩)
    refine bodyPost_ret (results_tmp2 rfl _ _ _) rfl ?_
    exact ⟨ret_si (unhide HE).1 (unhide HE).2, rfl⟩
  · rw [chk_yes hkt] at CT
    cases hu : undS k f
    · have HE : Hid ((⟨#[]⟩ : ByteArray) = movS k f t ∧ 220 = movI k f t) := by
        have h2 : undK (bts k) (bts f) = false := hu
        unfold movS movI movK movE
        rw [hkt, h2]
        exact ⟨rfl, rfl⟩
      rw [hu] at CU
      clear hkt hu
      go_enter Try.func19, Try.ntmps19
      go_wp2_with (first
        | (go_at_call 21; refine (unhide CU).mono ?_; rintro e w2 ⟨rfl, rfl⟩)
        | (go_at_call 13; refine (unhide CT).mono ?_; rintro e w2 ⟨rfl, rfl⟩))
      refine bodyPost_ret (results_tmp2 rfl _ _ _) rfl ?_
      exact ⟨ret_si (unhide HE).1 (unhide HE).2, rfl⟩
    · have hl := und_len hu
      have HE : Hid (t ++ k.extract f.size k.size = movS k f t ∧ 0 = movI k f t) := by
        have h2 : undK (bts k) (bts f) = true := hu
        unfold movS movI movK movE
        rw [hkt, h2, ext_drop23]
        refine ⟨?_, rfl⟩
        show t ++ _ = ofb (bts t ++ (bts k).drop (bts f).length)
        rw [← app23, ofb_bts, bts_len]
      have zl : (f.size : Int) ≤ (k.size : Int) := by omega
      have z0 : (0 : Int) ≤ (f.size : Int) := by omega
      have zz : t.size + (k.extract f.size k.size).size ≤ 9223372036854775807 := by rw [ByteArray.size_extract]; omega
      rw [hu] at CU
      clear hkt hu hl
      go_enter Try.func19, Try.ntmps19
      go_wp2_with (first
        | (go_at_call 21; refine (unhide CU).mono ?_; rintro e w2 ⟨rfl, rfl⟩)
        | (go_at_call 13; refine (unhide CT).mono ?_; rintro e w2 ⟨rfl, rfl⟩))
      refine bodyPost_ret (results_tmp2 rfl _ _ _) rfl ?_
      exact ⟨ret_si (unhide HE).1 (unhide HE).2, rfl⟩
theorem ret_s {a b : ByteArray} (h : a = b) : Ending.returned (.string a) = .returned (.string b) := by rw [h]
def behS (s : ByteArray) : ByteArray := ofb (behK (bts s))
set_option maxHeartbeats 1600000 in
theorem rbehind_any (s : ByteArray) (w : World) (hs : s.size ≤ 1000000) : Calls Try.prog 17 #[.string s] w fun e w' => e = .returned (.string (behS s)) ∧ w = w' := by
  have CD := hide (rdepth_any s w hs)
  have hdp := dep_pos (s := s)
  cases hp : hasP s
  · rw [hp] at hdp
    have hlt : depK (bts s) < 1 := by
      have : ¬ 1 ≤ depK (bts s) := fun h => by have := hdp.1 h; cases this
      omega
    have HE : Hid ((⟨#[255]⟩ : ByteArray) = behS s) := by
      unfold behS behK
      unfold hasP at hp
      have : (okK (bts s) && !(bts s).isEmpty) = false := by
        rw [← hp]
        congr 1
        have := bts_len s
        cases hb : bts s with
        | nil => rw [hb] at this; have h0 : s.size = 0 := this.symm; rw [h0]; rfl
        | cons c t => rw [hb] at this; have h0 : s.size ≠ 0 := by rw [← this]; simp
                      rw [decide_eq_true h0]; rfl
      rw [this]
      rfl
    clear hp hdp
    generalize depK (bts s) = d at *
    go_enter Try.func17, Try.ntmps17
    go_wp2_with (go_at_call 15; refine (unhide CD).mono ?_; rintro e w2 ⟨rfl, rfl⟩)
    go_ret
    exact ⟨ret_s (unhide HE), rfl⟩
  · have hlt : ¬ depK (bts s) < 1 := by rw [hp] at hdp; have := hdp.2 rfl; omega
    have h2 := hp
    unfold hasP at h2
    rw [Bool.and_eq_true, decide_eq_true_eq] at h2
    obtain ⟨hk, hz⟩ := h2
    obtain ⟨m, hm⟩ : ∃ m, s.size = m + 1 := ⟨s.size - 1, by omega⟩
    have HE : Hid (s.extract 0 m ++ ⟨#[1]⟩ = behS s) := by
      have hne : bts s ≠ [] := fun e => hz (by rw [← bts_len, e]; rfl)
      have he : (bts s).isEmpty = false := by cases hb : bts s <;> simp_all
      unfold behS behK
      rw [hk, he, ext_take]
      show ofb ((bts s).take m) ++ ofb [1] = ofb ((bts s).dropLast ++ [1])
      rw [app23, List.dropLast_eq_take, bts_len, hm]
      rfl
    have zs : (s.size : Int) - 1 = (m : Int) := by omega
    have z0 : (0 : Int) ≤ (m : Int) := by omega
    have zl : (m : Int) ≤ (s.size : Int) := by omega
    have zz : (s.extract 0 m).size + 1 ≤ 9223372036854775807 := by rw [ByteArray.size_extract]; omega
    have HM := hide hm
    clear hp hdp hk hz hm
    generalize depK (bts s) = d at *
    go_enter Try.func17, Try.ntmps17
    go_wp2_with (go_at_call 15; refine (unhide CD).mono ?_; rintro e w2 ⟨rfl, rfl⟩)
    go_ret
    exact ⟨ret_s (unhide HE), rfl⟩
end Go.Proofs.Ytmemflanfklmpaa
