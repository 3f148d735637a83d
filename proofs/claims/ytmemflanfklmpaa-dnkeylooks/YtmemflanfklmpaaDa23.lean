/- The landed Check, Under, Behind of layer 23. -/
import Derived.Test.YtmemflanfklmpaaAk23
import Derived.Test.YtmemflanfklmpaaRh23
namespace Go.Proofs.Ytmemflanfklmpaa
open Go.RowKit

theorem key1 (s : ByteArray) (T : TypeId) (w : World) (hs : s.size ≤ 20000) : Calls Try.prog 24 #[.slice (some ⟨w.heap.size, 0, none⟩) 1 1] (w.alloc (.cells #[.string s] T)) fun e w' => e = .returned (.bool (okK (bts s))) ∧ Below w.heap.size w w' := by
  have C := keys_any [s] w.heap.size 1 (w.alloc (.cells #[.string s] T)) (by simp) (fun t ht => by simp at ht; rw [ht]; exact hs) (fun j hj => by
    have : j = 0 := by simp at hj; exact hj
    subst this
    exact blk_cell (heap_new w _) 0)
  refine C.mono ?_
  rintro e w' ⟨rfl, hb⟩
  exact ⟨by simp, (Below.one w _).trans (hb.mono (by simp))⟩
theorem key2 (s t : ByteArray) (T : TypeId) (w : World) (hs : s.size ≤ 20000) (ht : t.size ≤ 20000) : Calls Try.prog 24 #[.slice (some ⟨w.heap.size, 0, none⟩) 2 2] (w.alloc (.cells #[.string s, .string t] T)) fun e w' => e = .returned (.bool (okK (bts s) && okK (bts t))) ∧ Below w.heap.size w w' := by
  have C := keys_any [s, t] w.heap.size 2 (w.alloc (.cells #[.string s, .string t] T)) (by simp) (fun x hx => by
    rcases List.mem_cons.1 hx with rfl | hx
    · exact hs
    · simp at hx; rw [hx]; exact ht) (fun j hj => by
    have : j = 0 ∨ j = 1 := by simp at hj; omega
    rcases this with rfl | rfl
    · exact blk_cell (heap_new w _) 0
    · exact blk_cell (heap_new w _) 1)
  refine C.mono ?_
  rintro e w' ⟨rfl, hb⟩
  exact ⟨by simp, (Below.one w _).trans (hb.mono (by simp))⟩
theorem dchk_any (s : ByteArray) (w : World) (h : s.size ≤ 20000) : Calls Try.prog 12 #[.string s] w fun e w' => e = .returned (.int .i64 (chkE s)) ∧ Below w.heap.size w w' := by
  have C := hide (fun T => key1 s T w h)
  cases hk : okK (bts s) <;> rw [hk] at C
  · have e1 := chk_no hk
    rw [e1]
    clear hk e1 h
    go_enter Try.func12, Try.ntmps12
    go_wp2_with (go_at_call 24; refine (unhide C _).mono ?_; rintro e w1 ⟨rfl, t1⟩)
    go_ret
    exact ⟨rfl, t1⟩
  · have e1 := chk_yes hk
    rw [e1]
    clear hk e1 h
    go_enter Try.func12, Try.ntmps12
    go_wp2_with (go_at_call 24; refine (unhide C _).mono ?_; rintro e w1 ⟨rfl, t1⟩)
    go_ret
    exact ⟨rfl, t1⟩
theorem dund_any (a b : ByteArray) (w : World) (h1 : a.size ≤ 20000) (h2 : b.size ≤ 20000) : Calls Try.prog 20 #[.string a, .string b] w fun e w' => e = .returned (.bool (undS a b)) ∧ Below w.heap.size w w' := by
  have C := hide (fun T => key2 a b T w h1 h2)
  have H := hide (fun W => hpre_any a b W)
  have eu : undS a b = (okK (bts a) && okK (bts b) && Lib.hasPrefix a.data.toList b.data.toList) := rfl
  rw [eu]
  generalize Lib.hasPrefix a.data.toList b.data.toList = p at *
  cases hk : (okK (bts a) && okK (bts b)) <;> rw [hk] at C
  · rw [Bool.false_and]
    clear hk eu h1 h2 H
    go_enter Try.func20, Try.ntmps20
    go_wp2_with (go_at_call 24; refine (unhide C _).mono ?_; rintro e w1 ⟨rfl, t1⟩)
    go_ret
    exact ⟨rfl, t1⟩
  · rw [Bool.true_and]
    clear hk eu h1 h2
    go_enter Try.func20, Try.ntmps20
    go_wp2_with (first
      | (go_at_call 28; refine (unhide H _).mono ?_; rintro e w2 ⟨rfl, rfl⟩)
      | (go_at_call 24; refine (unhide C _).mono ?_; rintro e w1 ⟨rfl, t1⟩))
    go_ret
    exact ⟨rfl, t1⟩
theorem emp_bts {s : ByteArray} (h : s.size = 0) : s = ⟨#[]⟩ := by
  have := bts_len s
  rw [← ofb_bts s, List.length_eq_zero_iff.1 (this.trans h)]
theorem emp_not {s : ByteArray} (h : ¬ s.size = 0) : s.toList.isEmpty = false := by
  rw [Lib.toList_data]
  cases e : s.data.toList with
  | nil => exact absurd (by rw [← bts_len s]; show s.data.toList.length = 0; rw [e]; rfl) h
  | cons a b => rfl
set_option maxHeartbeats 1600000 in
theorem dbeh_any (s : ByteArray) (w : World) (h : s.size ≤ 20000) : Calls Try.prog 16 #[.string s] w fun e w' => e = .returned (.string (behS s)) ∧ Below w.heap.size w w' := by
  by_cases h0 : s.size = 0
  · obtain rfl := emp_bts h0
    have e1 : behS ⟨#[]⟩ = ⟨#[255]⟩ := by kernel_rfl
    rw [e1]
    clear h h0 e1
    go_enter Try.func16, Try.ntmps16
    go_wp2
    go_ret
    exact ⟨rfl, Below.refl _ _⟩
  · have he := emp_not h0
    have hl := bts_len s
    have C := hide (fun T => key1 s T w h)
    cases hk : okK (bts s) <;> rw [hk] at C
    · have e1 : behS s = ⟨#[255]⟩ := by unfold behS behK; rw [hk]; rfl
      rw [e1]
      clear h h0 e1 hk hl
      go_enter Try.func16, Try.ntmps16
      go_wp2_with (go_at_call 24; refine (unhide C _).mono ?_; rintro e w1 ⟨rfl, t1⟩)
      go_ret
      exact ⟨rfl, t1⟩
    · obtain ⟨m, hm⟩ : ∃ m, s.size = m + 1 := ⟨s.size - 1, by omega⟩
      have hz : (s.size : Int) - 1 = (m : Int) := by omega
      have zm0 : (0 : Int) ≤ (m : Int) := by omega
      have zml : (m : Int) ≤ (s.size : Int) := by omega
      have HE : Hid (s.extract 0 m ++ ⟨#[1]⟩ = behS s) := by
        have hne : (bts s).isEmpty = false := by
          cases e : bts s with
          | nil => rw [e] at hl; simp at hl; omega
          | cons a b => rfl
        unfold behS behK
        rw [hk, hne, ext_take]
        show ofb ((bts s).take m) ++ ofb [1] = ofb ((bts s).dropLast ++ [1])
        rw [app23, List.dropLast_eq_take, bts_len, hm]
        rfl
      have zz : (s.extract 0 m).size + 1 ≤ 9223372036854775807 := by rw [ByteArray.size_extract]; omega
      have HM := hide hm
      clear hk hl h0 hm
      go_enter Try.func16, Try.ntmps16
      go_wp2_with (go_at_call 24; refine (unhide C _).mono ?_; rintro e w1 ⟨rfl, t1⟩)
      go_ret
      exact ⟨ret_s (unhide HE), t1⟩
theorem ofb_nums (l : List UInt8) : ofb l = ⟨l.toArray⟩ := rfl
theorem okK_nil : okK [] = true := rfl
set_option maxHeartbeats 1600000 in
theorem dmov_any (k f t : ByteArray) (w : World) (h1 : k.size ≤ 20000) (h2 : f.size ≤ 20000) (h3 : t.size ≤ 20000) : Calls Try.prog 18 #[.string k, .string f, .string t] w fun e w' => e = .returned (.tuple #[.string (movS k f t), .int .i64 (movI k f t)]) ∧ Below w.heap.size w w' := by
  have U := hide (dund_any k f w h1 h2)
  have C := hide (fun T W => key1 t T W h3)
  have em : movI k f t = if (okK (bts t) && undS k f) = true then 0 else 220 := rfl
  have es : movS k f t = ofb (if (okK (bts t) && undS k f) = true then bts t ++ (bts k).drop (bts f).length else []) := rfl
  cases hu : undS k f <;> rw [hu] at U em es
  · rw [Bool.and_false, if_neg (by decide)] at em es
    rw [em, es]
    clear hu h1 h2 h3 C em es
    go_enter Try.func18, Try.ntmps18
    go_wp2_with (go_at_call 20; refine (unhide U).mono ?_; rintro e w1 ⟨rfl, t1⟩)
    refine bodyPost_ret (results_tmp2 rfl _ _ _) rfl ?_
    exact ⟨rfl, t1⟩
  · rw [Bool.and_true] at em es
    cases hk : okK (bts t) <;> rw [hk] at C em es
    · rw [if_neg (by decide)] at em es
      rw [em, es]
      clear hu h1 h2 h3 em es hk
      go_enter Try.func18, Try.ntmps18
      go_wp2_with (first
        | (go_at_call 24; refine (unhide C _ _).mono ?_; rintro e w2 ⟨rfl, b2⟩; have t2 := t1.trans (b2.mono t1.size))
        | (go_at_call 20; refine (unhide U).mono ?_; rintro e w1 ⟨rfl, t1⟩))
      refine bodyPost_ret (results_tmp2 rfl _ _ _) rfl ?_
      exact ⟨rfl, t2⟩
    · rw [if_pos rfl] at em es
      have P := hide (fun W => tpre_any k f W)
      have hp : Lib.trimPrefix k.data.toList f.data.toList = (bts k).drop (bts f).length := by
        unfold Lib.trimPrefix Lib.hasPrefix
        have hu2 := hu
        unfold undS undK at hu2
        rw [Bool.and_eq_true] at hu2
        rw [hu2.2, if_pos rfl]
      rw [hp] at P
      obtain ⟨r, hr⟩ : ∃ r : ByteArray, r = ⟨((bts k).drop (bts f).length).toArray⟩ := ⟨_, rfl⟩
      rw [← hr] at P
      have hrl : r.size ≤ k.size := by
        rw [hr, show (⟨((bts k).drop (bts f).length).toArray⟩ : ByteArray) = ofb ((bts k).drop (bts f).length) from rfl, ofb_size, List.length_drop, bts_len]
        omega
      have HE : Hid (t ++ r = movS k f t) := by
        show _ = _
        rw [es, hr]
        show t ++ ofb ((bts k).drop (bts f).length) = _
        rw [← ofb_bts t, app23, bts_ofb]
      have zz : t.size + r.size ≤ 9223372036854775807 := by omega
      rw [em]
      generalize movS k f t = y at *
      clear hu h1 h2 h3 em es hk hp hr hrl
      go_enter Try.func18, Try.ntmps18
      go_wp2_with (first
        | (go_at_call 27; refine (unhide P _).mono ?_; rintro e w3 ⟨rfl, rfl⟩)
        | (go_at_call 24; refine (unhide C _ _).mono ?_; rintro e w2 ⟨rfl, b2⟩; have t2 := t1.trans (b2.mono t1.size))
        | (go_at_call 20; refine (unhide U).mono ?_; rintro e w1 ⟨rfl, t1⟩))
      refine bodyPost_ret (results_tmp2 rfl _ _ _) rfl ?_
      exact ⟨by rw [← unhide HE]; rfl, t2⟩
end Go.Proofs.Ytmemflanfklmpaa
