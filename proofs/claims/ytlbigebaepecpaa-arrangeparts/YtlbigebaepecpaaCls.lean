/- Is and Class: what they answer of any number. -/
import Derived.Test.YtlbigebaepecpaaKind2
namespace Go.Proofs.Ytlbigebaepecpaa
open Go.RowKit

/-- A slice that holds the numbers zs. -/
def Ints (w : World) (v : Value) (zs : List Int) : Prop :=
  ∃ a cap, v = .slice a zs.length cap ∧ (0 < zs.length → ∃ b off, a = some ⟨b, off, none⟩ ∧ ∀ j, j < zs.length → w.cell? ⟨b, off + j, none⟩ = some (.int .i64 (zs.getD j 0)))
theorem Gr.ints {w w2 : World} (hb : Gr w w2) {v : Value} {l : List Int} (h : Ints w v l) : Ints w2 v l := by
  obtain ⟨a, cap, rfl, hc⟩ := h
  refine ⟨a, cap, rfl, fun i => ?_⟩
  obtain ⟨b, off, rfl, hcc⟩ := hc i
  exact ⟨b, off, rfl, fun j hj => hb.cell (hcc j hj)⟩

theorem mem_getD (zs : List Int) (q : Int) : q ∈ zs ↔ ∃ j, j < zs.length ∧ zs.getD j 0 = q := by
  rw [List.mem_iff_getElem]
  constructor
  · rintro ⟨i, hi, h⟩; exact ⟨i, hi, by simpa [List.getD, hi] using h⟩
  · rintro ⟨i, hi, h⟩; exact ⟨i, hi, by simpa [List.getD, hi] using h⟩



/-- A mark's class. -/
def cl (r k : Int) : Int := if k = 3 then (if r = 807 ∨ r = 808 then 202 else if r = 803 then 220 else if r = 12441 ∨ r = 12442 then 8 else 230) else 0
def cls (r : Int) : Int := cl r (kd r)

set_option maxHeartbeats 800000 in
/-- Class, of any number. -/
theorem class_any (r : Int) (w : World) :
    Calls Try.prog 16 #[.int .i32 r] w fun e w' => e = .returned (.int .i64 (cls r)) ∧ Gr w w' := by
  have HK := hide (kind_any r)
  unfold cls
  generalize kd r = k at *
  by_cases h3 : k = 3
  · subst h3
    generalize hx : cl r 3 = x
    have HX := hide hx
    clear hx
    by_cases h1 : r = 807
    · subst h1
      go_enter Try.func16, Try.ntmps16
      go_wp2_with (go_at_call 22; refine (unhide HK _).mono ?_; rintro e w1 ⟨rfl, hg1⟩)
      go_ret
      exact ⟨ret_int (by rw [← unhide HX]; simp [cl]), hg1⟩
    · by_cases h2 : r = 808
      · subst h2
        go_enter Try.func16, Try.ntmps16
        go_wp2_with (go_at_call 22; refine (unhide HK _).mono ?_; rintro e w1 ⟨rfl, hg1⟩)
        go_ret
        exact ⟨ret_int (by rw [← unhide HX]; simp [cl]), hg1⟩
      · by_cases h4 : r = 803
        · subst h4
          go_enter Try.func16, Try.ntmps16
          go_wp2_with (go_at_call 22; refine (unhide HK _).mono ?_; rintro e w1 ⟨rfl, hg1⟩)
          go_ret
          exact ⟨ret_int (by rw [← unhide HX]; simp [cl]), hg1⟩
        · by_cases h5 : r = 12441
          · subst h5
            go_enter Try.func16, Try.ntmps16
            go_wp2_with (go_at_call 22; refine (unhide HK _).mono ?_; rintro e w1 ⟨rfl, hg1⟩)
            go_ret
            exact ⟨ret_int (by rw [← unhide HX]; simp [cl]), hg1⟩
          · by_cases h6 : r = 12442
            · subst h6
              go_enter Try.func16, Try.ntmps16
              go_wp2_with (go_at_call 22; refine (unhide HK _).mono ?_; rintro e w1 ⟨rfl, hg1⟩)
              go_ret
              exact ⟨ret_int (by rw [← unhide HX]; simp [cl]), hg1⟩
            · go_enter Try.func16, Try.ntmps16
              go_wp2_with (go_at_call 22; refine (unhide HK _).mono ?_; rintro e w1 ⟨rfl, hg1⟩)
              go_ret
              exact ⟨ret_int (by rw [← unhide HX]; simp [cl, h1, h2, h4, h5, h6]), hg1⟩
  · have HX : Hid (cl r k = 0) := by show cl r k = 0; simp [cl, h3]
    go_enter Try.func16, Try.ntmps16
    go_wp2_with (go_at_call 22; refine (unhide HK _).mono ?_; rintro e w1 ⟨rfl, hg1⟩)
    go_ret
    exact ⟨ret_int (unhide HX).symm, hg1⟩

/-- A kind is one of a row that the number is in, or none. -/
theorem fnd_mem (l : List Sp) (r : Int) : fnd l r = 0 ∨ ∃ s, s ∈ l ∧ inS s r = true ∧ fnd l r = s.h := by
  induction l with
  | nil => exact .inl rfl
  | cons s l ih =>
    by_cases h : inS s r = true
    · exact .inr ⟨s, by simp, h, by simp [fnd, h]⟩
    · rcases ih with h1 | ⟨s', h1, h2, h3⟩
      · exact .inl (by simp [fnd, h, h1])
      · exact .inr ⟨s', by simp [h1], h2, by simp [fnd, h, h3]⟩
theorem rowsT_all : (rowsT.all fun s => decide (1 ≤ s.h ∧ s.h ≤ 7 ∧ 0 ≤ s.f ∧ s.t ≤ 1114111)) = true := by kernel_rfl
theorem kd_bound (r : Int) : 0 ≤ kd r ∧ kd r ≤ 7 ∧ (kd r = 0 ∨ (0 ≤ r ∧ r ≤ 1114111)) := by
  rcases fnd_mem rowsT r with h | ⟨s, h1, h2, h3⟩
  · rw [kd, h]; omega
  · have h4 := List.all_eq_true.1 rowsT_all s h1
    rw [inS_iff] at h2
    rw [kd, h3]
    simp at h4
    omega
end Go.Proofs.Ytlbigebaepecpaa
