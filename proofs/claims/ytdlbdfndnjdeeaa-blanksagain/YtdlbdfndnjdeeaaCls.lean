/- Is and Class: what they answer of any number. -/
import Derived.Test.YtdlbdfndnjdeeaaKind2
namespace Go.Proofs.Ytdlbdfndnjdeeaa
open Go.RowKit

/-- A slice that holds the numbers zs. -/
def Ints (w : World) (v : Value) (zs : List Int) : Prop :=
  ∃ a cap, v = .slice a zs.length cap ∧ (0 < zs.length → ∃ b off, a = some ⟨b, off, none⟩ ∧ ∀ j, j < zs.length → w.cell? ⟨b, off + j, none⟩ = some (.int .i64 (zs.getD j 0)))
theorem Gr.ints {w w2 : World} (hb : Gr w w2) {v : Value} {l : List Int} (h : Ints w v l) : Ints w2 v l := by
  obtain ⟨a, cap, rfl, hc⟩ := h
  refine ⟨a, cap, rfl, fun i => ?_⟩
  obtain ⟨b, off, rfl, hcc⟩ := hc i
  exact ⟨b, off, rfl, fun j hj => hb.cell (hcc j hj)⟩

theorem mem_getD (zs : List Int) (q : Int) : q ∈ zs ↔ ∃ j, j < zs.length ∧ zs.getD j 0 = q := by
  rw [List.mem_iff_getElem]
  constructor
  · rintro ⟨i, hi, h⟩; exact ⟨i, hi, by simpa [List.getD, hi] using h⟩
  · rintro ⟨i, hi, h⟩; exact ⟨i, hi, by simpa [List.getD, hi] using h⟩

set_option maxHeartbeats 800000 in
theorem index_some (b o c : Nat) (zs : List Int) (q : Int) (w : World) (hle : zs.length ≤ 10000) (hc : ∀ j, j < zs.length → w.cell? ⟨b, o + j, none⟩ = some (.int .i64 (zs.getD j 0))) :
    Calls Try.prog 40 #[.slice (some ⟨b, o, none⟩) zs.length c, .int .i64 q] w fun e w' => ∃ x : Int, e = .returned (.int .i64 x) ∧ (0 ≤ x ↔ q ∈ zs) ∧ Gr w w' := by
  have HC := hide hc
  clear hc
  go_enter Try.func40, Try.ntmps40
  go_wp2
  go_loopw [8] (fun i wr => ∃ k : Nat, k ≤ zs.length ∧ i = .int .i64 k ∧ Gr w wr ∧ Hid (∀ j, j < k → zs.getD j 0 ≠ q)) (fun i _ => zs.length - (intOf i).toNat)
  case atStart => exact ⟨0, Nat.zero_le _, rfl, Gr.refl _, hide (fun j hj => by omega)⟩
  case round =>
    obtain ⟨k, hk, rfl, hg, HE⟩ := hrel
    by_cases hlt : k < zs.length
    · have hzl : (k : Int) < (zs.length : Int) := by omega
      have hz0 : (0 : Int) ≤ (k : Int) := by omega
      have g1 := hg.cell (unhide HC k hlt)
      have hin : zs.getD k 0 = q → Hid ((0 ≤ (k : Int)) ↔ q ∈ zs) := fun h => ⟨fun _ => (mem_getD _ _).2 ⟨k, hlt, h⟩, fun _ => hz0⟩
      have hout : zs.getD k 0 ≠ q → Hid (∀ j, j < k + 1 → zs.getD j 0 ≠ q) := fun h => by
        show ∀ j, j < k + 1 → zs.getD j 0 ≠ q
        intro j hj
        rcases Nat.lt_succ_iff_lt_or_eq.1 hj with h1 | rfl
        · exact unhide HE j h1
        · exact h
      generalize zs.getD k 0 = s at *
      by_cases hq : q = s
      · have HO := hin hq.symm
        clear hin hout
        subst hq
        go_wp2
        go_ret
        exact ⟨k, rfl, unhide HO, hg⟩
      · have HO := hout (fun h => hq h.symm)
        clear hin hout
        go_wp2
        go_roundw
        case rel => exact ⟨k + 1, by omega, by go_num, hg, HO⟩
        case measure => simp [intOf]; omega
    · have hzl : ¬ (k : Int) < (zs.length : Int) := by omega
      have HB : Hid ((0 : Int) ≤ -1 ↔ q ∈ zs) := by
        refine hide ⟨fun h => by omega, fun h => ?_⟩
        obtain ⟨j, hj, he⟩ := (mem_getD _ _).1 h
        exact absurd he (unhide HE j (by omega))
      go_wp2
      go_ret
      exact ⟨-1, rfl, unhide HB, hg⟩

set_option maxHeartbeats 400000 in
theorem index_none (a : Option Addr) (c : Nat) (q : Int) (w : World) :
    Calls Try.prog 40 #[.slice a 0 c, .int .i64 q] w fun e w' => ∃ x : Int, e = .returned (.int .i64 x) ∧ (0 ≤ x ↔ q ∈ ([] : List Int)) ∧ Gr w w' := by
  go_enter Try.func40, Try.ntmps40
  go_wp2
  refine wp_loop_rounds 1 ?_
  rw [rounds_succ]
  go_wp2
  go_ret
  exact ⟨-1, rfl, by simp, Gr.refl _⟩

theorem index_any (v : Value) (zs : List Int) (q : Int) (w : World) (h : Ints w v zs) (hl : zs.length ≤ 10000) :
    Calls Try.prog 40 #[v, .int .i64 q] w fun e w' => ∃ x : Int, e = .returned (.int .i64 x) ∧ (0 ≤ x ↔ q ∈ zs) ∧ Gr w w' := by
  obtain ⟨a, c, rfl, h⟩ := h
  by_cases h0 : zs.length = 0
  · obtain rfl : zs = [] := List.length_eq_zero_iff.1 h0
    exact index_none a c q w
  · obtain ⟨b, o, rfl, hc⟩ := h (by omega)
    exact index_some b o c zs q w hl hc

set_option maxHeartbeats 400000 in
theorem contains_any (v : Value) (zs : List Int) (q : Int) (w : World) (h : Ints w v zs) (hl : zs.length ≤ 10000) :
    Calls Try.prog 35 #[v, .int .i64 q] w fun e w' => e = .returned (.bool (decide (q ∈ zs))) ∧ Gr w w' := by
  have HI := hide (index_any v zs q w h hl)
  obtain ⟨a, c, rfl, -⟩ := h
  go_enter Try.func35, Try.ntmps35
  go_wp2_with (go_at_call 40; refine (unhide HI).mono ?_; rintro e w1 ⟨x, rfl, hx, hg1⟩; have HX := hide hx; clear hx)
  go_ret
  exact ⟨ret_bool (by simp [unhide HX]), hg1⟩

set_option maxHeartbeats 400000 in
/-- Is, of any number and kinds. -/
theorem is_any (r : Int) (v : Value) (zs : List Int) (w : World) (h : Ints w v zs) (hl : zs.length ≤ 10000) :
    Calls Try.prog 23 #[.int .i32 r, v] w fun e w' => e = .returned (.bool (decide (kd r ∈ zs))) ∧ Gr w w' := by
  have HK := hide (kind_any r)
  have HI := hide (fun W (hW : Gr w W) => contains_any v zs (kd r) W (hW.ints h) hl)
  obtain ⟨a, c, rfl, -⟩ := h
  generalize kd r = k at *
  go_enter Try.func23, Try.ntmps23
  go_wp2_with (first
    | (go_at_call 36; refine (unhide HK _).mono ?_; rintro e w1 ⟨rfl, hg1⟩)
    | (go_at_call 35; refine (unhide HI _ hg1).mono ?_; rintro e w2 ⟨rfl, hg2⟩))
  go_ret
  exact ⟨rfl, hg1.trans hg2⟩


/-- A mark's class. -/
def cl (r k : Int) : Int := if k = 3 then (if r = 807 ∨ r = 808 then 202 else if r = 803 then 220 else if r = 12441 ∨ r = 12442 then 8 else 230) else 0
def cls (r : Int) : Int := cl r (kd r)

/-- A kind is one of a row that the number is in, or none. -/
theorem fnd_mem (l : List Sp) (r : Int) : fnd l r = 0 ∨ ∃ s, s ∈ l ∧ inS s r = true ∧ fnd l r = s.h := by
  induction l with
  | nil => exact .inl rfl
  | cons s l ih =>
    by_cases h : inS s r = true
    · exact .inr ⟨s, by simp, h, by simp [fnd, h]⟩
    · rcases ih with h1 | ⟨s', h1, h2, h3⟩
      · exact .inl (by simp [fnd, h, h1])
      · exact .inr ⟨s', by simp [h1], h2, by simp [fnd, h, h3]⟩
theorem rowsT_all : (rowsT.all fun s => decide (1 ≤ s.h ∧ s.h ≤ 7 ∧ 0 ≤ s.f ∧ s.t ≤ 1114111)) = true := by kernel_rfl
theorem kd_bound (r : Int) : 0 ≤ kd r ∧ kd r ≤ 7 ∧ (kd r = 0 ∨ (0 ≤ r ∧ r ≤ 1114111)) := by
  rcases fnd_mem rowsT r with h | ⟨s, h1, h2, h3⟩
  · rw [kd, h]; omega
  · have h4 := List.all_eq_true.1 rowsT_all s h1
    rw [inS_iff] at h2
    rw [kd, h3]
    simp at h4
    omega
end Go.Proofs.Ytdlbdfndnjdeeaa
