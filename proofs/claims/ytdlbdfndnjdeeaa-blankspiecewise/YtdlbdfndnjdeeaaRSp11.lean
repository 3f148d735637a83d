/- The document's lone, Space and Hyphen. -/
import Derived.Test.YtdlbdfndnjdeeaaMath11
import Derived.Test.YtdlbdfndnjdeeaaRn
import Derived.Test.YtdlbdfndnjdeeaaRef2
namespace Go.Proofs.Ytdlbdfndnjdeeaa
open Go.RowKit

def mk11 (x : Int) : Bool := decide (kd x = 3)
theorem mk11_32 : mk11 32 = false := by kernel_rfl
theorem mk11_hy (y : Int) (h : hy y = true) : mk11 y = false := by
  simp only [hy, decide_eq_true_eq] at h
  rcases h with rfl | rfl | rfl <;> kernel_rfl
def spAt (l : List Int) (i : Int) : Bool := if 0 ≤ i ∧ i < l.length then sp mk11 (l.getD i.toNat 0) (l.drop (i.toNat + 1)) else false
def hpAt (l : List Int) (i : Int) : Bool := if 0 ≤ i ∧ i < l.length then hp mk11 (l.getD i.toNat 0) (l.drop (i.toNat + 1)) else false
theorem fre_drop (l : List Int) (k : Nat) (h : k + 1 < l.length) : fre mk11 (l.drop (k + 1)) = !decide (kd (l.getD (k + 1) 0) = 3) := by
  rw [List.drop_eq_getElem_cons h]
  simp [fre, mk11, List.getD, h]
theorem fre_last (l : List Int) (k : Nat) (h : k + 1 = l.length) : fre mk11 (l.drop (k + 1)) = true := by
  rw [h, List.drop_length]; rfl

set_option maxHeartbeats 800000 in
theorem rlone_any (b off cap : Nat) (l : List Int) (k : Nat) (w : World) (hlen : l.length ≤ 20000) (hk : k < l.length) (hcell : ∀ i, i < l.length → w.cell? ⟨b, off + i, none⟩ = some (.int .i32 (l.getD i 0))) :
    Calls Try.prog 34 #[.slice (some ⟨b, off, none⟩) l.length cap, .int .i64 k] w fun e w' => e = .returned (.bool (fre mk11 (l.drop (k + 1)))) ∧ Below w.heap.size w w' := by
  by_cases hl : k + 1 = l.length
  · have HF := hide (fre_last l k hl)
    generalize fre mk11 (l.drop (k + 1)) = z at *
    have e1 : ((k : Int) == (l.length : Int) - 1) = true := by simp; omega
    go_enter Try.func34, Try.ntmps34
    go_wp2
    go_ret
    exact ⟨ret_bool (unhide HF).symm, Below.refl _ _⟩
  · have HF := hide (fre_drop l k (by omega))
    generalize fre mk11 (l.drop (k + 1)) = z at *
    have c1 := hcell (k + 1) (by omega)
    have HK := hide (rkind_any (l.getD (k + 1) 0))
    generalize l.getD (k + 1) 0 = x at *
    generalize kd x = q at *
    have hz1 : ¬ (k : Int) = (l.length : Int) - 1 := by omega
    have hz2 : (k : Int) + 1 < (l.length : Int) := by omega
    have hz3 : (0 : Int) ≤ (k : Int) + 1 := by omega
    go_enter Try.func34, Try.ntmps34
    go_wp2_with (go_at_call 39; refine (unhide HK _).mono ?_; rintro e w1 ⟨rfl, b1⟩)
    go_ret
    refine ⟨ret_bool ?_, b1⟩
    rw [unhide HF]
    have : ((k : Int) == (l.length : Int) - 1) = false := by simpa using hz1
    rw [this, Bool.false_or]
    by_cases hq : q = 3
    · simp [hq]
    · simp [hq]
set_option maxHeartbeats 800000 in
theorem rspace_out (a : Option Addr) (n cap : Nat) (i : Int) (w : World) (hi : i < 0 ∨ (n : Int) ≤ i) :
    Calls Try.prog 19 #[.slice a n cap, .int .i64 i] w fun e w' => e = .returned (.bool false) ∧ Below w.heap.size w w' := by
  by_cases h0 : i < 0
  · go_enter Try.func19, Try.ntmps19
    go_wp2
    go_ret
    exact ⟨rfl, Below.refl _ _⟩
  · have h1 : (n : Int) ≤ i := by omega
    go_enter Try.func19, Try.ntmps19
    go_wp2
    go_ret
    exact ⟨rfl, Below.refl _ _⟩
set_option maxHeartbeats 800000 in
theorem rspace_in (b off cap : Nat) (l : List Int) (k : Nat) (w : World) (hlen : l.length ≤ 20000) (hk : k < l.length) (hcell : ∀ i, i < l.length → w.cell? ⟨b, off + i, none⟩ = some (.int .i32 (l.getD i 0))) :
    Calls Try.prog 19 #[.slice (some ⟨b, off, none⟩) l.length cap, .int .i64 k] w fun e w' => e = .returned (.bool (sp mk11 (l.getD k 0) (l.drop (k + 1)))) ∧ Below w.heap.size w w' := by
  have HL := hide (rlone_any b off cap l k w hlen hk hcell)
  have c1 := hcell k hk
  have hz0 : (0 : Int) ≤ (k : Int) := by omega
  have hz1 : (k : Int) < (l.length : Int) := by omega
  have hz2 : ¬ (k : Int) < 0 := by omega
  have hz3 : ¬ (l.length : Int) ≤ (k : Int) := by omega
  unfold sp
  clear hcell
  generalize fre mk11 (l.drop (k + 1)) = f at *
  generalize l.getD k 0 = x at *
  by_cases hx : x = 32
  · subst hx
    go_enter Try.func19, Try.ntmps19
    go_wp2_with (go_at_call 34; refine (unhide HL).mono ?_; rintro e w1 ⟨rfl, b1⟩)
    go_ret
    exact ⟨ret_bool (by simp), b1⟩
  · go_enter Try.func19, Try.ntmps19
    go_wp2
    go_ret
    exact ⟨ret_bool (by simp), Below.refl _ _⟩
theorem rspace_any (v : Value) (l : List Int) (i : Int) (w : World) (hlen : l.length ≤ 20000) (hR : Row w v l) :
    Calls Try.prog 19 #[v, .int .i64 i] w fun e w' => e = .returned (.bool (spAt l i)) ∧ Below w.heap.size w w' := by
  obtain ⟨a, cap, rfl, hc⟩ := hR
  unfold spAt
  by_cases h : 0 ≤ i ∧ i < l.length
  · rw [if_pos h]
    obtain ⟨k, rfl⟩ := Int.eq_ofNat_of_zero_le h.1
    obtain ⟨b, off, rfl, hcc⟩ := hc (by omega)
    exact rspace_in b off cap l k w hlen (by omega) hcc
  · rw [if_neg h]
    exact rspace_out a l.length cap i w (by omega)
set_option maxHeartbeats 800000 in
theorem rhyphen_out (a : Option Addr) (n cap : Nat) (i : Int) (w : World) (hi : i < 0 ∨ (n : Int) ≤ i) :
    Calls Try.prog 21 #[.slice a n cap, .int .i64 i] w fun e w' => e = .returned (.bool false) ∧ Below w.heap.size w w' := by
  by_cases h0 : i < 0
  · go_enter Try.func21, Try.ntmps21
    go_wp2
    go_ret
    exact ⟨rfl, Below.refl _ _⟩
  · have h1 : (n : Int) ≤ i := by omega
    go_enter Try.func21, Try.ntmps21
    go_wp2
    go_ret
    exact ⟨rfl, Below.refl _ _⟩
set_option maxHeartbeats 1600000 in
theorem rhyphen_in (b off cap : Nat) (l : List Int) (k : Nat) (w : World) (hlen : l.length ≤ 20000) (hk : k < l.length) (hcell : ∀ i, i < l.length → w.cell? ⟨b, off + i, none⟩ = some (.int .i32 (l.getD i 0))) :
    Calls Try.prog 21 #[.slice (some ⟨b, off, none⟩) l.length cap, .int .i64 k] w fun e w' => e = .returned (.bool (hp mk11 (l.getD k 0) (l.drop (k + 1)))) ∧ Below w.heap.size w w' := by
  have HL := hide (rlone_any b off cap l k w hlen hk hcell)
  have c1 := hcell k hk
  have hz0 : (0 : Int) ≤ (k : Int) := by omega
  have hz1 : (k : Int) < (l.length : Int) := by omega
  have hz2 : ¬ (k : Int) < 0 := by omega
  have hz3 : ¬ (l.length : Int) ≤ (k : Int) := by omega
  unfold hp hy
  clear hcell
  generalize fre mk11 (l.drop (k + 1)) = f at *
  generalize l.getD k 0 = x at *
  by_cases hx : x = 45
  · subst hx
    go_enter Try.func21, Try.ntmps21
    go_wp2_with (go_at_call 34; refine (unhide HL).mono ?_; rintro e w1 ⟨rfl, b1⟩)
    go_ret
    exact ⟨ret_bool (by simp), b1⟩
  · by_cases hx2 : x = 8208
    · subst hx2
      go_enter Try.func21, Try.ntmps21
      go_wp2_with (go_at_call 34; refine (unhide HL).mono ?_; rintro e w1 ⟨rfl, b1⟩)
      go_ret
      exact ⟨ret_bool (by simp), b1⟩
    · by_cases hx3 : x = 8722
      · subst hx3
        go_enter Try.func21, Try.ntmps21
        go_wp2_with (go_at_call 34; refine (unhide HL).mono ?_; rintro e w1 ⟨rfl, b1⟩)
        go_ret
        exact ⟨ret_bool (by simp), b1⟩
      · have n1 : (x != 45) = true := by simpa using hx
        have n2 : (x != 8208) = true := by simpa using hx2
        have n3 : (x != 8722) = true := by simpa using hx3
        have HZ : Hid (decide (x = 45 ∨ x = 8208 ∨ x = 8722) = false) := by show _ = _; simp [hx, hx2, hx3]
        generalize decide (x = 45 ∨ x = 8208 ∨ x = 8722) = z at *
        go_enter Try.func21, Try.ntmps21
        go_wp2
        go_ret
        exact ⟨ret_bool (by rw [unhide HZ]; rfl), Below.refl _ _⟩
theorem rhyphen_any (v : Value) (l : List Int) (i : Int) (w : World) (hlen : l.length ≤ 20000) (hR : Row w v l) :
    Calls Try.prog 21 #[v, .int .i64 i] w fun e w' => e = .returned (.bool (hpAt l i)) ∧ Below w.heap.size w w' := by
  obtain ⟨a, cap, rfl, hc⟩ := hR
  unfold hpAt
  by_cases h : 0 ≤ i ∧ i < l.length
  · rw [if_pos h]
    obtain ⟨k, rfl⟩ := Int.eq_ofNat_of_zero_le h.1
    obtain ⟨b, off, rfl, hcc⟩ := hc (by omega)
    exact rhyphen_in b off cap l k w hlen (by omega) hcc
  · rw [if_neg h]
    exact rhyphen_out a l.length cap i w (by omega)
end Go.Proofs.Ytdlbdfndnjdeeaa
