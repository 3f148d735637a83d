/- The landed pass, and words: what they do, given what Space answers. -/
import Derived.Test.YtdlbdfndnjdeeaaMath11
import Derived.Test.YtdlbdfndnjdeeaaRn
import Derived.ScopeJumps
import Derived.WalkMore
namespace Go.Proofs.Ytdlbdfndnjdeeaa
open Go.RowKit

/-- No slice is longer than its room. -/
def Fits (v : Value) : Prop := ∀ a n c, v = .slice a n c → n ≤ c
theorem Rn.fits {w : World} {B : Nat} {v : Value} {l : List Int} (h : Rn B v l w) : Fits v := by
  intro a n c hv
  rcases h.2 with ⟨hv', _⟩ | ⟨g, cap, cur, hv', _, _, hc, _⟩
  · rw [hv'] at hv; cases hv; exact Nat.le_refl _
  · rw [hv'] at hv; cases hv; exact hc
theorem fits_of {a : Option Addr} {n c : Nat} (h : n ≤ c) : Fits (.slice a n c) := fun _ _ _ e => by cases e; exact h

section
variable (M : Int → Bool)
/-- How many stand first that are spaces (or that are none). -/
def skp (b : Bool) : List Int → Nat
  | [] => 0
  | x :: t => if (sp M x t == b) = true then skp b t + 1 else 0
end
section
variable {M : Int → Bool}
theorem skp_le (b : Bool) : ∀ t : List Int, skp M b t ≤ t.length
  | [] => Nat.le_refl _
  | x :: t => by
    have := skp_le b t
    simp only [skp, List.length_cons]
    split <;> omega
theorem skp_yes {b : Bool} {x : Int} {t : List Int} (h : sp M x t = b) : skp M b (x :: t) = skp M b t + 1 := by
  simp [skp, h]
theorem skp_no {b : Bool} {x : Int} {t : List Int} (h : sp M x t = !b) : skp M b (x :: t) = 0 := by
  cases b <;> simp [skp, h]
theorem inn_skp (s : Bool) : ∀ t : List Int, inn M s true t = inn M s true (t.drop (skp M true t))
  | [] => rfl
  | x :: t => by
    cases hs : sp M x t
    · rw [skp_no (b := true) hs]; rfl
    · rw [skp_yes hs, inn_sp hs, List.drop_succ_cons, ← inn_skp s t]
theorem inn_word : ∀ t : List Int, inn M true false t = t.take (skp M false t) ++ inn M true true (t.drop (skp M false t))
  | [] => rfl
  | x :: t => by
    cases hs : sp M x t
    · rw [skp_yes hs, inn_no hs, List.take_succ_cons, List.drop_succ_cons, inn_word t]; rfl
    · rw [skp_no (b := false) hs, inn_sp hs]
      show _ = [] ++ inn M true true (x :: t)
      rw [inn_sp hs]; rfl
/-- Behind the spaces stands a word, or nothing. -/
theorem skp_zero : ∀ t : List Int, skp M false (t.drop (skp M true t)) = 0 → t.drop (skp M true t) = []
  | [], _ => rfl
  | x :: t, h => by
    cases hs : sp M x t
    · rw [skp_no (b := true) hs] at h
      rw [List.drop_zero, skp_yes hs] at h
      omega
    · rw [skp_yes hs, List.drop_succ_cons] at h ⊢
      exact skp_zero t h
theorem inn_two (s : Bool) (t : List Int) (h : 0 < skp M false t) : inn M s true t = (if s then [32, 32] else []) ++ (t.take (skp M false t) ++ inn M true true (t.drop (skp M false t))) := by
  cases t with
  | nil => simp [skp] at h
  | cons x t =>
    cases hs : sp M x t
    · rw [skp_yes hs, inn_no hs, List.take_succ_cons, List.drop_succ_cons, inn_word t]
      simp
    · rw [skp_no (b := false) hs] at h
      omega
end

theorem drop_at' (l : List Int) (k : Nat) (h : k < l.length) : l.drop k = l.getD k 0 :: l.drop (k + 1) := by
  rw [List.drop_eq_getElem_cons h]
  simp [List.getD, h]
/-- What is asked of Space. -/
def SpOk (M : Int → Bool) (w : World) (a : Option Addr) (cap : Nat) (l : List Int) : Prop :=
  ∀ (m : Nat) (W : World), m < l.length → Below w.heap.size w W → Calls Try.prog 18 #[.slice a l.length cap, .int .i64 (m : Int)] W fun e w' => e = .returned (.bool (sp M (l.getD m 0) (l.drop (m + 1)))) ∧ Below W.heap.size W w'

set_option maxHeartbeats 1600000 in
theorem pass_walk (M : Int → Bool) (a : Option Addr) (cap : Nat) (l : List Int) (k : Nat) (s : Bool) (w : World) (hlen : l.length ≤ 20000) (hk : k ≤ l.length) (HSP : SpOk M w a cap l) :
    Calls Try.prog 37 #[.slice a l.length cap, .int .i64 (k : Int), .bool s] w fun e w' => e = .returned (.int .i64 ((k + skp M s (l.drop k) : Nat) : Int)) ∧ Below w.heap.size w w' := by
  have HS := hide HSP
  clear HSP
  go_enter Try.func37, Try.ntmps37
  go_wp2
  go_loopw [1] (fun i wr => ∃ m : Nat, m ≤ l.length ∧ i = .int .i64 (m : Int) ∧ Hid (m + skp M s (l.drop m) = k + skp M s (l.drop k)) ∧ Below w.heap.size w wr) (fun i _ => l.length - (intOf i).toNat)
  case atStart => exact ⟨k, hk, rfl, by show _ = _; rfl, Below.refl _ _⟩
  case round =>
    obtain ⟨m, hm, rfl, HE, hb⟩ := hrel
    by_cases hlt : m < l.length
    · have hzl : (m : Int) < (l.length : Int) := by omega
      have HX := hide (unhide HS m wr hlt hb)
      have HD := hide (drop_at' l m hlt)
      generalize l.getD m 0 = x at *
      cases hs : sp M x (l.drop (m + 1)) <;> cases s
      · rw [hs] at HX
        have HE2 : Hid (m + 1 + skp M false (l.drop (m + 1)) = k + skp M false (l.drop k)) := by show _ = _; rw [← unhide HE, unhide HD, skp_yes hs]; omega
        go_wp2_with (go_at_call 18; refine (unhide HX).mono ?_; rintro e w2 ⟨rfl, b2⟩)
        go_roundw
        case rel => exact ⟨m + 1, by omega, by go_num, HE2, hb.trans (b2.mono hb.size)⟩
        case measure => simp [intOf]; omega
      · rw [hs] at HX
        have HE2 : Hid (k + skp M true (l.drop k) = m) := by show _ = _; rw [← unhide HE, unhide HD, skp_no (b := true) hs]; rfl
        go_wp2_with (go_at_call 18; refine (unhide HX).mono ?_; rintro e w2 ⟨rfl, b2⟩)
        go_ret
        exact ⟨ret_int (by rw [unhide HE2]), hb.trans (b2.mono hb.size)⟩
      · rw [hs] at HX
        have HE2 : Hid (k + skp M false (l.drop k) = m) := by show _ = _; rw [← unhide HE, unhide HD, skp_no (b := false) hs]; rfl
        go_wp2_with (go_at_call 18; refine (unhide HX).mono ?_; rintro e w2 ⟨rfl, b2⟩)
        go_ret
        exact ⟨ret_int (by rw [unhide HE2]), hb.trans (b2.mono hb.size)⟩
      · rw [hs] at HX
        have HE2 : Hid (m + 1 + skp M true (l.drop (m + 1)) = k + skp M true (l.drop k)) := by show _ = _; rw [← unhide HE, unhide HD, skp_yes hs]; omega
        go_wp2_with (go_at_call 18; refine (unhide HX).mono ?_; rintro e w2 ⟨rfl, b2⟩)
        go_roundw
        case rel => exact ⟨m + 1, by omega, by go_num, HE2, hb.trans (b2.mono hb.size)⟩
        case measure => simp [intOf]; omega
    · have hzl : ¬ (m : Int) < (l.length : Int) := by omega
      obtain rfl : m = l.length := by omega
      have HE2 : Hid (k + skp M s (l.drop k) = l.length) := by show _ = _; rw [← unhide HE, List.drop_length]; rfl
      go_wp2
      go_ret
      exact ⟨ret_int (by have := unhide HE2; omega), hb⟩
end Go.Proofs.Ytdlbdfndnjdeeaa
