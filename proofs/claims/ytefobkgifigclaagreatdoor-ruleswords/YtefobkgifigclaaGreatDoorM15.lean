/- The table of the leads, the vowels and the tails, as it lies. -/
import Derived.Test.YtefobkgifigclaaGreatDoorM01
namespace Go.Proofs.YtefobkgifigclaaGreatDoor
set_option maxRecDepth 100000
open Go.RowKit

/-- The table of the leads, the vowels and the tails lies as the program's text lays it. -/
def Lay (w : World) : Prop :=
  w.cell? ⟨11, 0, none⟩ = some (.int .i32 4352) ∧ w.cell? ⟨11, 1, none⟩ = some (.int .i32 4370) ∧ w.cell? ⟨11, 2, none⟩ = some (.int .i32 4449) ∧ w.cell? ⟨11, 3, none⟩ = some (.int .i32 4469) ∧ w.cell? ⟨11, 4, none⟩ = some (.int .i32 4520) ∧ w.cell? ⟨11, 5, none⟩ = some (.int .i32 4546)
theorem Lay.below {w w2 : World} {B : Nat} (h : Lay w) (hb : Below B w w2) (hB : 11 < B) : Lay w2 := by
  obtain ⟨h0, h1, h2, h3, h4, h5⟩ := h
  exact ⟨(hb.cell (by exact hB)).trans h0, (hb.cell (by exact hB)).trans h1, (hb.cell (by exact hB)).trans h2, (hb.cell (by exact hB)).trans h3, (hb.cell (by exact hB)).trans h4, (hb.cell (by exact hB)).trans h5⟩
theorem Lay.pos {w : World} (h : Lay w) : 11 < w.heap.size := cell_lt h.1
theorem Lay.gr {w w2 : World} (h : Lay w) (g : Gr w w2) : Lay w2 := h.below g.below h.pos
end Go.Proofs.YtefobkgifigclaaGreatDoor
/- Plain functions: which part a number is, what it is made of, what two make, what many make; and the laws between them. -/
namespace Go.Proofs.YtefobkgifigclaaGreatDoor
set_option maxRecDepth 100000

/-- Is a number a syllable? -/
def isSyl (r : Int) : Bool := decide (44032 ≤ r ∧ r ≤ 55203)
theorem syl_iff (r : Int) : isSyl r = true ↔ 44032 ≤ r ∧ r ≤ 55203 := by unfold isSyl; simp
theorem syl_not (r : Int) : isSyl r = false ↔ ¬ (44032 ≤ r ∧ r ≤ 55203) := by unfold isSyl; rw [decide_eq_false_iff_not]
/-- Which part is it? -/
def part (r : Int) : Int :=
  if 4352 ≤ r ∧ r ≤ 4370 then 1 else if 4449 ≤ r ∧ r ≤ 4469 then 2 else if 4520 ≤ r ∧ r ≤ 4546 then 3
  else if 44032 ≤ r ∧ r ≤ 55203 then (if (r - 44032) % 28 = 0 then 4 else 5) else 0
/-- The parts of a number. -/
def apt (r : Int) : List Int :=
  if isSyl r then (if (r - 44032) % 28 = 0 then [4352 + (r - 44032) / 588, 4449 + (r - 44032) / 28 % 21] else [4352 + (r - 44032) / 588, 4449 + (r - 44032) / 28 % 21, 4519 + (r - 44032) % 28]) else [r]
/-- Do two make one? Which? -/
def jB (a b : Int) : Bool := decide ((part a = 1 ∧ part b = 2) ∨ (part a = 4 ∧ part b = 3))
def jR (a b : Int) : Int := if part a = 1 ∧ part b = 2 then 44032 + 588 * (a - 4352) + 28 * (b - 4449) else if part a = 4 ∧ part b = 3 then a + (b - 4519) else 0
/-- One more, behind those (the last one first). -/
def stp : List Int → Int → List Int
  | [], r => [r]
  | x :: t, r => if jB x r then jR x r :: t else r :: x :: t
def whlR (l : List Int) : List Int := l.foldl stp []
def whl (l : List Int) : List Int := (whlR l).reverse
/-- The parts of all. -/
def apts (l : List Int) : List Int := l.flatMap apt

theorem part_cases (r : Int) : (part r = 1 ∧ 4352 ≤ r ∧ r ≤ 4370) ∨ (part r = 2 ∧ 4449 ≤ r ∧ r ≤ 4469) ∨ (part r = 3 ∧ 4520 ≤ r ∧ r ≤ 4546) ∨ (part r = 4 ∧ 44032 ≤ r ∧ r ≤ 55203 ∧ (r - 44032) % 28 = 0) ∨
    (part r = 5 ∧ 44032 ≤ r ∧ r ≤ 55203 ∧ (r - 44032) % 28 ≠ 0) ∨ (part r = 0 ∧ ¬ (4352 ≤ r ∧ r ≤ 4370) ∧ ¬ (4449 ≤ r ∧ r ≤ 4469) ∧ ¬ (4520 ≤ r ∧ r ≤ 4546) ∧ ¬ (44032 ≤ r ∧ r ≤ 55203)) := by
  unfold part
  split
  · omega
  · split
    · omega
    · split
      · omega
      · split
        · split <;> omega
        · omega
theorem part_1 {r : Int} : part r = 1 ↔ 4352 ≤ r ∧ r ≤ 4370 := by have := part_cases r; omega
theorem part_2 {r : Int} : part r = 2 ↔ 4449 ≤ r ∧ r ≤ 4469 := by have := part_cases r; omega
theorem part_3 {r : Int} : part r = 3 ↔ 4520 ≤ r ∧ r ≤ 4546 := by have := part_cases r; omega
theorem part_4 {r : Int} : part r = 4 ↔ 44032 ≤ r ∧ r ≤ 55203 ∧ (r - 44032) % 28 = 0 := by have := part_cases r; omega
theorem jB_iff (a b : Int) : jB a b = true ↔ (part a = 1 ∧ part b = 2) ∨ (part a = 4 ∧ part b = 3) := by unfold jB; simp
theorem jB_not (a b : Int) : jB a b = false ↔ ¬ ((part a = 1 ∧ part b = 2) ∨ (part a = 4 ∧ part b = 3)) := by unfold jB; rw [decide_eq_false_iff_not]
theorem jR_lead {a b : Int} (h1 : part a = 1) (h2 : part b = 2) : jR a b = 44032 + 588 * (a - 4352) + 28 * (b - 4449) := by unfold jR; rw [if_pos ⟨h1, h2⟩]
theorem jR_open {a b : Int} (h1 : part a = 4) (h2 : part b = 3) : jR a b = a + (b - 4519) := by unfold jR; rw [if_neg (by omega), if_pos ⟨h1, h2⟩]
theorem jR_none {a b : Int} (h : jB a b = false) : jR a b = 0 := by rw [jB_not] at h; unfold jR; rw [if_neg (by omega), if_neg (by omega)]
theorem apt_open {r : Int} (h : isSyl r = true) (h0 : (r - 44032) % 28 = 0) : apt r = [4352 + (r - 44032) / 588, 4449 + (r - 44032) / 28 % 21] := by unfold apt; rw [if_pos h, if_pos h0]
theorem apt_closed {r : Int} (h : isSyl r = true) (h0 : (r - 44032) % 28 ≠ 0) : apt r = [4352 + (r - 44032) / 588, 4449 + (r - 44032) / 28 % 21, 4519 + (r - 44032) % 28] := by unfold apt; rw [if_pos h, if_neg h0]
theorem apt_none {r : Int} (h : isSyl r = false) : apt r = [r] := by unfold apt; rw [h]; rfl
theorem apt_len (r : Int) : (apt r).length ≤ 3 := by
  unfold apt
  split
  · split <;> simp
  · simp
theorem apt_one (r : Int) : isSyl r = decide (1 < (apt r).length) := by
  cases h : isSyl r
  · rw [apt_none h]; rfl
  · by_cases h0 : (r - 44032) % 28 = 0
    · rw [apt_open h h0]; rfl
    · rw [apt_closed h h0]; rfl
/-- What joins is a syllable, and is, apart, the parts of the first, and then the second. -/
theorem jR_syl {a b : Int} (h : jB a b = true) : isSyl (jR a b) = true := by
  rw [syl_iff]
  rcases (jB_iff a b).1 h with ⟨h1, h2⟩ | ⟨h1, h2⟩
  · rw [jR_lead h1 h2]; rw [part_1] at h1; rw [part_2] at h2; omega
  · rw [jR_open h1 h2]; rw [part_4] at h1; rw [part_3] at h2; omega
theorem apt_join {a b : Int} (h : jB a b = true) : apt (jR a b) = apt a ++ [b] := by
  have hs := jR_syl h
  rcases (jB_iff a b).1 h with ⟨h1, h2⟩ | ⟨h1, h2⟩
  · rw [jR_lead h1 h2] at hs ⊢
    rw [part_1] at h1
    rw [part_2] at h2
    rw [apt_open hs (by omega), apt_none (r := a) (by rw [syl_not]; omega)]
    have e1 : 4352 + (44032 + 588 * (a - 4352) + 28 * (b - 4449) - 44032) / 588 = a := by omega
    have e2 : 4449 + (44032 + 588 * (a - 4352) + 28 * (b - 4449) - 44032) / 28 % 21 = b := by omega
    rw [e1, e2]; rfl
  · rw [jR_open h1 h2] at hs ⊢
    rw [part_4] at h1
    rw [part_3] at h2
    rw [apt_closed hs (by omega), apt_open (r := a) (by rw [syl_iff]; omega) (by omega)]
    have e1 : 4352 + (a + (b - 4519) - 44032) / 588 = 4352 + (a - 44032) / 588 := by omega
    have e2 : 4449 + (a + (b - 4519) - 44032) / 28 % 21 = 4449 + (a - 44032) / 28 % 21 := by omega
    have e3 : 4519 + (a + (b - 4519) - 44032) % 28 = b := by omega
    rw [e1, e2, e3]; rfl
/-- What joins as the second is no syllable, and no syllable joins as the second. -/
theorem apt_second {a b : Int} (h : jB a b = true) : apt b = [b] := by
  apply apt_none
  rw [syl_not]
  rcases (jB_iff a b).1 h with ⟨_, h2⟩ | ⟨_, h2⟩
  · rw [part_2] at h2; omega
  · rw [part_3] at h2; omega
theorem jB_lead {a b : Int} (h : part b = 1) : jB a b = false := by rw [jB_not]; omega
theorem jB_syl {a b : Int} (h : isSyl b = true) : jB a b = false := by
  rw [jB_not]
  intro h2
  rw [syl_iff] at h
  rcases h2 with ⟨_, h2⟩ | ⟨_, h2⟩
  · rw [part_2] at h2; omega
  · rw [part_3] at h2; omega
theorem jR_second {a b x : Int} (h : jB a b = true) : jB x (jR a b) = false := jB_syl (jR_syl h)
/-- The parts of x, behind those that do not join with it, make x. -/
theorem stp_apt (t : List Int) (x : Int) (h : t = [] ∨ ∃ y s, t = y :: s ∧ jB y x = false) : (apt x).foldl stp t = x :: t := by
  have hpush : ∀ r, (t = [] ∨ ∃ y s, t = y :: s ∧ jB y r = false) → stp t r = r :: t := by
    intro r hr
    rcases hr with rfl | ⟨y, s, rfl, hj⟩
    · rfl
    · simp [stp, hj]
  cases hs : isSyl x
  · rw [apt_none hs]
    exact hpush x h
  · have hx := (syl_iff x).1 hs
    have p1 : part (4352 + (x - 44032) / 588) = 1 := by rw [part_1]; omega
    have p2 : part (4449 + (x - 44032) / 28 % 21) = 2 := by rw [part_2]; omega
    have f1 : stp t (4352 + (x - 44032) / 588) = (4352 + (x - 44032) / 588) :: t := by
      apply hpush
      rcases h with rfl | ⟨y, s, rfl, _⟩
      · exact .inl rfl
      · exact .inr ⟨y, s, rfl, jB_lead p1⟩
    have j2 : jB (4352 + (x - 44032) / 588) (4449 + (x - 44032) / 28 % 21) = true := by rw [jB_iff]; exact .inl ⟨p1, p2⟩
    have r2 : jR (4352 + (x - 44032) / 588) (4449 + (x - 44032) / 28 % 21) = x - (x - 44032) % 28 := by rw [jR_lead p1 p2]; omega
    by_cases h0 : (x - 44032) % 28 = 0
    · rw [apt_open hs h0]
      simp only [List.foldl_cons, List.foldl_nil]
      rw [f1]
      simp only [stp]
      rw [if_pos j2, r2, h0]
      simp
    · have p4 : part (x - (x - 44032) % 28) = 4 := by rw [part_4]; omega
      have p3 : part (4519 + (x - 44032) % 28) = 3 := by rw [part_3]; omega
      have j3 : jB (x - (x - 44032) % 28) (4519 + (x - 44032) % 28) = true := by rw [jB_iff]; exact .inr ⟨p4, p3⟩
      have r3 : jR (x - (x - 44032) % 28) (4519 + (x - 44032) % 28) = x := by rw [jR_open p4 p3]; omega
      rw [apt_closed hs h0]
      simp only [List.foldl_cons, List.foldl_nil]
      rw [f1]
      simp only [stp]
      rw [if_pos j2, r2]
      simp only
      rw [if_pos j3, r3]
theorem whl_apt (a : Int) : whl (apt a) = [a] := by
  unfold whl whlR
  rw [stp_apt [] a (.inl rfl)]
  rfl
/-- Of those (the last one first) no two that stand side by side join. -/
def firm : List Int → Bool
  | [] => true
  | [_] => true
  | y :: x :: t => !jB x y && firm (x :: t)
theorem firm_stp (t : List Int) (r : Int) (h : firm t = true) : firm (stp t r) = true := by
  match t, h with
  | [], _ => rfl
  | [x], _ =>
    simp only [stp]
    split
    · rfl
    · rename_i hj
      simp [firm, hj]
  | x :: y :: s, h =>
    simp only [stp]
    split
    · rename_i hj
      simp only [firm, Bool.and_eq_true] at h ⊢
      exact ⟨by rw [jR_second hj]; rfl, h.2⟩
    · rename_i hj
      simp only [firm, Bool.and_eq_true] at h ⊢
      exact ⟨by simpa using hj, h.1, h.2⟩
theorem firm_foldl (l t : List Int) (h : firm t = true) : firm (l.foldl stp t) = true := by
  induction l generalizing t with
  | nil => exact h
  | cons r l ih => exact ih _ (firm_stp t r h)
theorem firm_whlR (l : List Int) : firm (whlR l) = true := firm_foldl l [] rfl
theorem firm_head {y : Int} {t : List Int} (h : firm (y :: t) = true) : t = [] ∨ ∃ x s, t = x :: s ∧ jB x y = false := by
  cases t with
  | nil => exact .inl rfl
  | cons x s =>
    simp only [firm, Bool.and_eq_true, Bool.not_eq_true'] at h
    exact .inr ⟨x, s, rfl, h.1⟩
theorem firm_tail {y : Int} {t : List Int} (h : firm (y :: t) = true) : firm t = true := by
  cases t with
  | nil => rfl
  | cons x s => simp only [firm, Bool.and_eq_true] at h; exact h.2
/-- What is firm is whole, and so are its parts. -/
theorem firm_whole (t : List Int) (h : firm t = true) : whlR t.reverse = t := by
  induction t with
  | nil => rfl
  | cons y t ih =>
    unfold whlR at ih ⊢
    rw [List.reverse_cons, List.foldl_append, ih (firm_tail h)]
    simp only [List.foldl_cons, List.foldl_nil]
    rcases firm_head h with rfl | ⟨x, s, rfl, hj⟩
    · rfl
    · simp [stp, hj]
theorem firm_parts (t : List Int) (h : firm t = true) : whlR (apts t.reverse) = t := by
  induction t with
  | nil => rfl
  | cons y t ih =>
    unfold whlR apts at ih ⊢
    rw [List.reverse_cons, List.flatMap_append, List.foldl_append, ih (firm_tail h)]
    simp only [List.flatMap_cons, List.flatMap_nil, List.append_nil]
    exact stp_apt t y (firm_head h)
theorem whl_whole (l : List Int) : whl (whl l) = whl l := by
  unfold whl
  rw [firm_whole _ (firm_whlR l)]
theorem whl_parts (l : List Int) : whl (apts (whl l)) = whl l := by
  unfold whl
  rw [firm_parts _ (firm_whlR l)]
/-- Nothing is lost. -/
theorem apts_stp (t : List Int) (r : Int) : apts (stp t r).reverse = apts t.reverse ++ apt r := by
  cases t with
  | nil => simp [stp, apts]
  | cons x t =>
    simp only [stp]
    split
    · rename_i hj
      rw [List.reverse_cons, List.reverse_cons]
      unfold apts
      rw [List.flatMap_append, List.flatMap_append]
      simp only [List.flatMap_cons, List.flatMap_nil, List.append_nil]
      rw [apt_join hj, apt_second hj, List.append_assoc]
    · rw [List.reverse_cons]
      unfold apts
      rw [List.flatMap_append]
      simp
theorem apts_foldl (l t : List Int) : apts (l.foldl stp t).reverse = apts t.reverse ++ apts l := by
  induction l generalizing t with
  | nil => simp [apts]
  | cons r l ih =>
    rw [List.foldl_cons, ih, apts_stp, List.append_assoc]
    simp [apts]
theorem apts_whl (l : List Int) : apts (whl l) = apts l := by
  unfold whl whlR
  rw [apts_foldl]
  simp [apts]
theorem stp_len (t : List Int) (r : Int) : (stp t r).length ≤ t.length + 1 := by
  cases t with
  | nil => simp [stp]
  | cons x t =>
    simp only [stp]
    split <;> simp
theorem whlR_snoc (l : List Int) (r : Int) : whlR (l ++ [r]) = stp (whlR l) r := by unfold whlR; rw [List.foldl_append]; rfl
theorem whlR_len (l : List Int) : (whlR l).length ≤ l.length := by
  have : ∀ (l t : List Int), (l.foldl stp t).length ≤ t.length + l.length := by
    intro l
    induction l with
    | nil => intro t; simp
    | cons r l ih =>
      intro t
      have := ih (stp t r)
      have := stp_len t r
      simp only [List.foldl_cons, List.length_cons]
      omega
  have := this l []
  simpa [whlR] using this
theorem whl_len (l : List Int) : (whl l).length ≤ l.length := by unfold whl; rw [List.length_reverse]; exact whlR_len l
theorem apts_len (l : List Int) : (apts l).length ≤ 3 * l.length := by
  induction l with
  | nil => simp [apts]
  | cons r l ih =>
    have := apt_len r
    simp only [apts, List.flatMap_cons, List.length_append, List.length_cons] at ih ⊢
    omega
/-- All numbers are those of the type. -/
def In32 (x : Int) : Prop := -2147483648 ≤ x ∧ x ≤ 2147483647
theorem jR_in {a b : Int} (h : jB a b = true) : In32 (jR a b) := by
  have := (syl_iff _).1 (jR_syl h)
  unfold In32; omega
end Go.Proofs.YtefobkgifigclaaGreatDoor
/- Contracts of the small functions: Syllable, Part, first, Join, and the document's. -/
namespace Go.Proofs.YtefobkgifigclaaGreatDoor
set_option maxRecDepth 100000
open Go.RowKit

set_option maxHeartbeats 400000 in
theorem syl_any (r : Int) (w : World) :
    Calls Tryz.prog 217 #[.int .i32 r] w fun e w' => e = .returned (.bool (isSyl r)) ∧ w' = w := by
  unfold isSyl
  by_cases h1 : 44032 ≤ r
  · by_cases h2 : r ≤ 55203
    · go_enter Tryz.func217, Tryz.ntmps217
      go_wp2
      go_ret
      exact ⟨ret_bool (by simp; omega), rfl⟩
    · go_enter Tryz.func217, Tryz.ntmps217
      go_wp2
      go_ret
      exact ⟨ret_bool (by simp; omega), rfl⟩
  · go_enter Tryz.func217, Tryz.ntmps217
    go_wp2
    go_ret
    exact ⟨ret_bool (by simp; omega), rfl⟩


set_option maxHeartbeats 400000 in
theorem first_1 (w : World) (h : Lay w) : Calls Tryz.prog 237 #[.int .i64 1] w fun e w' => e = .returned (.int .i32 4352) ∧ w' = w := by
  obtain ⟨c0, c1, c2, c3, c4, c5⟩ := h
  go_enter Tryz.func237, Tryz.ntmps237
  go_wp2
  go_ret
  exact ⟨rfl, rfl⟩
set_option maxHeartbeats 400000 in
theorem first_2 (w : World) (h : Lay w) : Calls Tryz.prog 237 #[.int .i64 2] w fun e w' => e = .returned (.int .i32 4449) ∧ w' = w := by
  obtain ⟨c0, c1, c2, c3, c4, c5⟩ := h
  go_enter Tryz.func237, Tryz.ntmps237
  go_wp2
  go_ret
  exact ⟨rfl, rfl⟩
set_option maxHeartbeats 400000 in
theorem first_3 (w : World) (h : Lay w) : Calls Tryz.prog 237 #[.int .i64 3] w fun e w' => e = .returned (.int .i32 4520) ∧ w' = w := by
  obtain ⟨c0, c1, c2, c3, c4, c5⟩ := h
  go_enter Tryz.func237, Tryz.ntmps237
  go_wp2
  go_ret
  exact ⟨rfl, rfl⟩
end Go.Proofs.YtefobkgifigclaaGreatDoor
/- The document's Syllable and Apart. -/
namespace Go.Proofs.YtefobkgifigclaaGreatDoor
set_option maxRecDepth 100000
open Go.RowKit

end Go.Proofs.YtefobkgifigclaaGreatDoor
/- Part, the program's and the document's. -/
namespace Go.Proofs.YtefobkgifigclaaGreatDoor
set_option maxRecDepth 100000
open Go.RowKit

theorem idx0 (W : World) : (Instr.index 284 (.agg #[.int .i32 4352, .int .i32 4370, .int .i32 4449, .int .i32 4469, .int .i32 4520, .int .i32 4546]) (.int .i64 0)).run Tryz.prog W = .ok (.agg #[.int .i32 4352, .int .i32 4370]) W := by kernel_rfl
theorem idx1 (W : World) : (Instr.index 284 (.agg #[.int .i32 4352, .int .i32 4370, .int .i32 4449, .int .i32 4469, .int .i32 4520, .int .i32 4546]) (.int .i64 1)).run Tryz.prog W = .ok (.agg #[.int .i32 4449, .int .i32 4469]) W := by kernel_rfl
theorem idx2 (W : World) : (Instr.index 284 (.agg #[.int .i32 4352, .int .i32 4370, .int .i32 4449, .int .i32 4469, .int .i32 4520, .int .i32 4546]) (.int .i64 2)).run Tryz.prog W = .ok (.agg #[.int .i32 4520, .int .i32 4546]) W := by kernel_rfl

set_option maxHeartbeats 800000 in
theorem part_open (r : Int) (w : World) (h0 : isSyl r = true) (h1 : (r - 44032) % 28 = 0) : Calls Tryz.prog 242 #[.int .i32 r] w fun e w' => e = .returned (.int .i64 4) ∧ w' = w := by
  have hx := (syl_iff r).1 h0
  have HS : Hid (∀ w, Calls Tryz.prog 217 #[.int .i32 r] w fun e w' => e = .returned (.bool true) ∧ w' = w) := fun w => by rw [← h0]; exact syl_any r w
  have k1 : IntKind.i32.wrap (r - 44032) = r - 44032 := wrap_in (by omega) (by omega)
  go_enter Tryz.func242, Tryz.ntmps242
  go_wp2_with (go_at_call 217; refine (unhide HS _).mono ?_; rintro e w' ⟨rfl, rfl⟩)
  go_ret
  exact ⟨rfl, rfl⟩

set_option maxHeartbeats 800000 in
theorem part_closed (r : Int) (w : World) (h0 : isSyl r = true) (h1 : ¬ (r - 44032) % 28 = 0) : Calls Tryz.prog 242 #[.int .i32 r] w fun e w' => e = .returned (.int .i64 5) ∧ w' = w := by
  have hx := (syl_iff r).1 h0
  have HS : Hid (∀ w, Calls Tryz.prog 217 #[.int .i32 r] w fun e w' => e = .returned (.bool true) ∧ w' = w) := fun w => by rw [← h0]; exact syl_any r w
  have k1 : IntKind.i32.wrap (r - 44032) = r - 44032 := wrap_in (by omega) (by omega)
  go_enter Tryz.func242, Tryz.ntmps242
  go_wp2_with (go_at_call 217; refine (unhide HS _).mono ?_; rintro e w' ⟨rfl, rfl⟩)
  go_ret
  exact ⟨rfl, rfl⟩

set_option maxHeartbeats 800000 in
theorem part_lead (r : Int) (w : World) (hL : Lay w) (h : 4352 ≤ r ∧ r ≤ 4370) : Calls Tryz.prog 242 #[.int .i32 r] w fun e w' => e = .returned (.int .i64 1) ∧ Gr w w' := by
  have h0 : isSyl r = false := by rw [syl_not]; omega
  have HS : Hid (∀ w, Calls Tryz.prog 217 #[.int .i32 r] w fun e w' => e = .returned (.bool false) ∧ w' = w) := fun w => by rw [← h0]; exact syl_any r w
  obtain ⟨c0, c1, c2, c3, c4, c5⟩ := hL
  have f0 : 4352 ≤ r := by omega
  have f1 : r ≤ 4370 := by omega
  have x0 := idx0
  go_enter Tryz.func242, Tryz.ntmps242
  go_wp2_with (go_at_call 217; refine (unhide HS _).mono ?_; rintro e w' ⟨rfl, rfl⟩)
  refine wp_loop_rounds 1 ?_
  rw [rounds_succ]
  go_wp2
  go_ret
  exact ⟨rfl, (Gr.refl _).alloc _⟩

set_option maxHeartbeats 800000 in
theorem part_vowel (r : Int) (w : World) (hL : Lay w) (h : 4449 ≤ r ∧ r ≤ 4469) : Calls Tryz.prog 242 #[.int .i32 r] w fun e w' => e = .returned (.int .i64 2) ∧ Gr w w' := by
  have h0 : isSyl r = false := by rw [syl_not]; omega
  have HS : Hid (∀ w, Calls Tryz.prog 217 #[.int .i32 r] w fun e w' => e = .returned (.bool false) ∧ w' = w) := fun w => by rw [← h0]; exact syl_any r w
  obtain ⟨c0, c1, c2, c3, c4, c5⟩ := hL
  have f0 : 4352 ≤ r := by omega
  have f1 : ¬ r ≤ 4370 := by omega
  have f2 : 4449 ≤ r := by omega
  have f3 : r ≤ 4469 := by omega
  have x0 := idx0
  have x1 := idx1
  go_enter Tryz.func242, Tryz.ntmps242
  go_wp2_with (go_at_call 217; refine (unhide HS _).mono ?_; rintro e w' ⟨rfl, rfl⟩)
  refine wp_loop_rounds 2 ?_
  rw [rounds_succ]
  go_wp2
  rw [rounds_succ]
  go_wp2
  go_ret
  exact ⟨rfl, ((Gr.refl _).alloc _).alloc _⟩

set_option maxHeartbeats 800000 in
theorem part_tail (r : Int) (w : World) (hL : Lay w) (h : 4520 ≤ r ∧ r ≤ 4546) : Calls Tryz.prog 242 #[.int .i32 r] w fun e w' => e = .returned (.int .i64 3) ∧ Gr w w' := by
  have h0 : isSyl r = false := by rw [syl_not]; omega
  have HS : Hid (∀ w, Calls Tryz.prog 217 #[.int .i32 r] w fun e w' => e = .returned (.bool false) ∧ w' = w) := fun w => by rw [← h0]; exact syl_any r w
  obtain ⟨c0, c1, c2, c3, c4, c5⟩ := hL
  have f0 : 4352 ≤ r := by omega
  have f1 : ¬ r ≤ 4370 := by omega
  have f2 : 4449 ≤ r := by omega
  have f3 : ¬ r ≤ 4469 := by omega
  have f4 : 4520 ≤ r := by omega
  have f5 : r ≤ 4546 := by omega
  have x0 := idx0
  have x1 := idx1
  have x2 := idx2
  go_enter Tryz.func242, Tryz.ntmps242
  go_wp2_with (go_at_call 217; refine (unhide HS _).mono ?_; rintro e w' ⟨rfl, rfl⟩)
  refine wp_loop_rounds 3 ?_
  rw [rounds_succ]
  go_wp2
  rw [rounds_succ]
  go_wp2
  rw [rounds_succ]
  go_wp2
  go_ret
  exact ⟨rfl, (((Gr.refl _).alloc _).alloc _).alloc _⟩

set_option maxHeartbeats 800000 in
theorem part_n0 (r : Int) (w : World) (hL : Lay w) (h : r < 4352) : Calls Tryz.prog 242 #[.int .i32 r] w fun e w' => e = .returned (.int .i64 0) ∧ Gr w w' := by
  have h0 : isSyl r = false := by rw [syl_not]; omega
  have HS : Hid (∀ w, Calls Tryz.prog 217 #[.int .i32 r] w fun e w' => e = .returned (.bool false) ∧ w' = w) := fun w => by rw [← h0]; exact syl_any r w
  obtain ⟨c0, c1, c2, c3, c4, c5⟩ := hL
  have f0 : ¬ 4352 ≤ r := by omega
  have f1 : ¬ 4449 ≤ r := by omega
  have f2 : ¬ 4520 ≤ r := by omega
  have x0 := idx0
  have x1 := idx1
  have x2 := idx2
  go_enter Tryz.func242, Tryz.ntmps242
  go_wp2_with (go_at_call 217; refine (unhide HS _).mono ?_; rintro e w' ⟨rfl, rfl⟩)
  refine wp_loop_rounds 4 ?_
  rw [rounds_succ]
  go_wp2
  rw [rounds_succ]
  go_wp2
  rw [rounds_succ]
  go_wp2
  rw [rounds_succ]
  go_wp2
  go_ret
  exact ⟨rfl, (((Gr.refl _).alloc _).alloc _).alloc _⟩

set_option maxHeartbeats 800000 in
theorem part_n1 (r : Int) (w : World) (hL : Lay w) (h : 4370 < r ∧ r < 4449) : Calls Tryz.prog 242 #[.int .i32 r] w fun e w' => e = .returned (.int .i64 0) ∧ Gr w w' := by
  have h0 : isSyl r = false := by rw [syl_not]; omega
  have HS : Hid (∀ w, Calls Tryz.prog 217 #[.int .i32 r] w fun e w' => e = .returned (.bool false) ∧ w' = w) := fun w => by rw [← h0]; exact syl_any r w
  obtain ⟨c0, c1, c2, c3, c4, c5⟩ := hL
  have f0 : 4352 ≤ r := by omega
  have f1 : ¬ r ≤ 4370 := by omega
  have f2 : ¬ 4449 ≤ r := by omega
  have f3 : ¬ 4520 ≤ r := by omega
  have x0 := idx0
  have x1 := idx1
  have x2 := idx2
  go_enter Tryz.func242, Tryz.ntmps242
  go_wp2_with (go_at_call 217; refine (unhide HS _).mono ?_; rintro e w' ⟨rfl, rfl⟩)
  refine wp_loop_rounds 4 ?_
  rw [rounds_succ]
  go_wp2
  rw [rounds_succ]
  go_wp2
  rw [rounds_succ]
  go_wp2
  rw [rounds_succ]
  go_wp2
  go_ret
  exact ⟨rfl, (((Gr.refl _).alloc _).alloc _).alloc _⟩

set_option maxHeartbeats 800000 in
theorem part_n2 (r : Int) (w : World) (hL : Lay w) (h : 4469 < r ∧ r < 4520) : Calls Tryz.prog 242 #[.int .i32 r] w fun e w' => e = .returned (.int .i64 0) ∧ Gr w w' := by
  have h0 : isSyl r = false := by rw [syl_not]; omega
  have HS : Hid (∀ w, Calls Tryz.prog 217 #[.int .i32 r] w fun e w' => e = .returned (.bool false) ∧ w' = w) := fun w => by rw [← h0]; exact syl_any r w
  obtain ⟨c0, c1, c2, c3, c4, c5⟩ := hL
  have f0 : 4352 ≤ r := by omega
  have f1 : ¬ r ≤ 4370 := by omega
  have f2 : 4449 ≤ r := by omega
  have f3 : ¬ r ≤ 4469 := by omega
  have f4 : ¬ 4520 ≤ r := by omega
  have x0 := idx0
  have x1 := idx1
  have x2 := idx2
  go_enter Tryz.func242, Tryz.ntmps242
  go_wp2_with (go_at_call 217; refine (unhide HS _).mono ?_; rintro e w' ⟨rfl, rfl⟩)
  refine wp_loop_rounds 4 ?_
  rw [rounds_succ]
  go_wp2
  rw [rounds_succ]
  go_wp2
  rw [rounds_succ]
  go_wp2
  rw [rounds_succ]
  go_wp2
  go_ret
  exact ⟨rfl, (((Gr.refl _).alloc _).alloc _).alloc _⟩

set_option maxHeartbeats 800000 in
theorem part_n3 (r : Int) (w : World) (hL : Lay w) (h : 4546 < r ∧ ¬ (44032 ≤ r ∧ r ≤ 55203)) : Calls Tryz.prog 242 #[.int .i32 r] w fun e w' => e = .returned (.int .i64 0) ∧ Gr w w' := by
  have h0 : isSyl r = false := by rw [syl_not]; omega
  have HS : Hid (∀ w, Calls Tryz.prog 217 #[.int .i32 r] w fun e w' => e = .returned (.bool false) ∧ w' = w) := fun w => by rw [← h0]; exact syl_any r w
  obtain ⟨c0, c1, c2, c3, c4, c5⟩ := hL
  have f0 : 4352 ≤ r := by omega
  have f1 : ¬ r ≤ 4370 := by omega
  have f2 : 4449 ≤ r := by omega
  have f3 : ¬ r ≤ 4469 := by omega
  have f4 : 4520 ≤ r := by omega
  have f5 : ¬ r ≤ 4546 := by omega
  have x0 := idx0
  have x1 := idx1
  have x2 := idx2
  go_enter Tryz.func242, Tryz.ntmps242
  go_wp2_with (go_at_call 217; refine (unhide HS _).mono ?_; rintro e w' ⟨rfl, rfl⟩)
  refine wp_loop_rounds 4 ?_
  rw [rounds_succ]
  go_wp2
  rw [rounds_succ]
  go_wp2
  rw [rounds_succ]
  go_wp2
  rw [rounds_succ]
  go_wp2
  go_ret
  exact ⟨rfl, (((Gr.refl _).alloc _).alloc _).alloc _⟩

/-- Part, of any number. -/
theorem part_any (r : Int) (w : World) (hL : Lay w) : Calls Tryz.prog 242 #[.int .i32 r] w fun e w' => e = .returned (.int .i64 (part r)) ∧ Gr w w' := by
  rcases part_cases r with ⟨e, h⟩ | ⟨e, h⟩ | ⟨e, h⟩ | ⟨e, h1, h2, h3⟩ | ⟨e, h1, h2, h3⟩ | ⟨e, h1, h2, h3, h4⟩ <;> rw [e]
  · exact part_lead r w hL h
  · exact part_vowel r w hL h
  · exact part_tail r w hL h
  · exact (part_open r w ((syl_iff r).2 ⟨h1, h2⟩) h3).mono fun e w' ⟨he, hw⟩ => ⟨he, by rw [hw]; exact Gr.refl _⟩
  · exact (part_closed r w ((syl_iff r).2 ⟨h1, h2⟩) h3).mono fun e w' ⟨he, hw⟩ => ⟨he, by rw [hw]; exact Gr.refl _⟩
  · by_cases g1 : r < 4352
    · exact part_n0 r w hL g1
    · by_cases g2 : r < 4449
      · exact part_n1 r w hL (by omega)
      · by_cases g3 : r < 4520
        · exact part_n2 r w hL (by omega)
        · exact part_n3 r w hL (by omega)

end Go.Proofs.YtefobkgifigclaaGreatDoor
/- Join, the program's and the document's. -/
namespace Go.Proofs.YtefobkgifigclaaGreatDoor
set_option maxRecDepth 100000
open Go.RowKit

theorem ret_rb {a a' : Int} {b b' : Bool} (h : a = a') (h' : b = b') : Ending.returned (.tuple #[.int .i32 a, .bool b]) = .returned (.tuple #[.int .i32 a', .bool b']) := by rw [h, h']

set_option maxHeartbeats 1600000 in
theorem join_lead (a b : Int) (w : World) (hL : Lay w) (h1 : part a = 1) (h2 : part b = 2) :
    Calls Tryz.prog 226 #[.int .i32 a, .int .i32 b] w fun e w' => e = .returned (.tuple #[.int .i32 (jR a b), .bool true]) ∧ Gr w w' := by
  have H1 : Hid (∀ w, Lay w → Calls Tryz.prog 242 #[.int .i32 a] w fun e w' => e = .returned (.int .i64 1) ∧ Gr w w') := fun w hw => by rw [← h1]; exact part_any a w hw
  have H2 : Hid (∀ w, Lay w → Calls Tryz.prog 242 #[.int .i32 b] w fun e w' => e = .returned (.int .i64 2) ∧ Gr w w') := fun w hw => by rw [← h2]; exact part_any b w hw
  have hR := jR_lead h1 h2
  rw [part_1] at h1
  rw [part_2] at h2
  have HR : Hid (44032 + ((a - 4352) * 21 + (b - 4449)) * 28 = jR a b) := by show _ = _; omega
  have k1 : IntKind.i32.wrap (a - 4352) = a - 4352 := wrap_in (by omega) (by omega)
  have k2 : IntKind.i32.wrap ((a - 4352) * 21) = (a - 4352) * 21 := wrap_in (by omega) (by omega)
  have k3 : IntKind.i32.wrap (b - 4449) = b - 4449 := wrap_in (by omega) (by omega)
  have k4 : IntKind.i32.wrap ((a - 4352) * 21 + (b - 4449)) = (a - 4352) * 21 + (b - 4449) := wrap_in (by omega) (by omega)
  have k5 : IntKind.i32.wrap (((a - 4352) * 21 + (b - 4449)) * 28) = ((a - 4352) * 21 + (b - 4449)) * 28 := wrap_in (by omega) (by omega)
  have k6 : IntKind.i32.wrap (44032 + ((a - 4352) * 21 + (b - 4449)) * 28) = 44032 + ((a - 4352) * 21 + (b - 4449)) * 28 := wrap_in (by omega) (by omega)
  clear hR h1 h2
  go_enter Tryz.func226, Tryz.ntmps226
  go_wp2_with (first
    | (go_at_call 242; (first
      | (refine (unhide H1 _ hL).mono ?_; rintro e w1 ⟨rfl, g1⟩; have hL1 := hL.gr g1; clear H1)
      | (refine (unhide H2 _ hL1).mono ?_; rintro e w2 ⟨rfl, g2⟩; have hL2 := hL1.gr g2; clear H2)))
    | (go_at_call 237; (first | refine (first_1 _ hL2).mono ?_ | refine (first_2 _ hL2).mono ?_ | refine (first_3 _ hL2).mono ?_); rintro e w9 ⟨rfl, rfl⟩))
  go_ret2
  exact ⟨ret_rb (unhide HR) rfl, g1.trans g2⟩

set_option maxHeartbeats 1600000 in
theorem join_open (a b : Int) (w : World) (hL : Lay w) (h1 : part a = 4) (h2 : part b = 3) :
    Calls Tryz.prog 226 #[.int .i32 a, .int .i32 b] w fun e w' => e = .returned (.tuple #[.int .i32 (jR a b), .bool true]) ∧ Gr w w' := by
  have H1 : Hid (∀ w, Lay w → Calls Tryz.prog 242 #[.int .i32 a] w fun e w' => e = .returned (.int .i64 4) ∧ Gr w w') := fun w hw => by rw [← h1]; exact part_any a w hw
  have H2 : Hid (∀ w, Lay w → Calls Tryz.prog 242 #[.int .i32 b] w fun e w' => e = .returned (.int .i64 3) ∧ Gr w w') := fun w hw => by rw [← h2]; exact part_any b w hw
  have hR := jR_open h1 h2
  rw [part_4] at h1
  rw [part_3] at h2
  have HR : Hid (a + (b - 4520 + 1) = jR a b) := by show _ = _; omega
  have k1 : IntKind.i32.wrap (b - 4520) = b - 4520 := wrap_in (by omega) (by omega)
  have k2 : IntKind.i32.wrap (b - 4520 + 1) = b - 4520 + 1 := wrap_in (by omega) (by omega)
  have k3 : IntKind.i32.wrap (a + (b - 4520 + 1)) = a + (b - 4520 + 1) := wrap_in (by omega) (by omega)
  clear hR h1 h2
  go_enter Tryz.func226, Tryz.ntmps226
  go_wp2_with (first
    | (go_at_call 242; (first
      | (refine (unhide H1 _ hL).mono ?_; rintro e w1 ⟨rfl, g1⟩; have hL1 := hL.gr g1; clear H1)
      | (refine (unhide H2 _ hL1).mono ?_; rintro e w2 ⟨rfl, g2⟩; have hL2 := hL1.gr g2; clear H2)))
    | (go_at_call 237; (first | refine (first_1 _ hL2).mono ?_ | refine (first_2 _ hL2).mono ?_ | refine (first_3 _ hL2).mono ?_); rintro e w9 ⟨rfl, rfl⟩))
  go_ret2
  exact ⟨ret_rb (unhide HR) rfl, g1.trans g2⟩

set_option maxHeartbeats 1600000 in
theorem join_no (a b p q : Int) (w : World) (hL : Lay w) (h1 : part a = p) (h2 : part b = q) (h : (p ≠ 1 ∧ p ≠ 4) ∨ (p = 1 ∧ q ≠ 2) ∨ (p = 4 ∧ q ≠ 3)) :
    Calls Tryz.prog 226 #[.int .i32 a, .int .i32 b] w fun e w' => e = .returned (.tuple #[.int .i32 0, .bool false]) ∧ Gr w w' := by
  have H1 : Hid (∀ w, Lay w → Calls Tryz.prog 242 #[.int .i32 a] w fun e w' => e = .returned (.int .i64 p) ∧ Gr w w') := fun w hw => by rw [← h1]; exact part_any a w hw
  have H2 : Hid (∀ w, Lay w → Calls Tryz.prog 242 #[.int .i32 b] w fun e w' => e = .returned (.int .i64 q) ∧ Gr w w') := fun w hw => by rw [← h2]; exact part_any b w hw
  clear h1 h2
  rcases h with ⟨h1, h2⟩ | ⟨rfl, h2⟩ | ⟨rfl, h2⟩
  · have e1 : (p == 1) = false := by simpa using h1
    have e2 : (p == 4) = false := by simpa using h2
    clear h1 h2
    go_enter Tryz.func226, Tryz.ntmps226
    go_wp2_with (go_at_call 242; (first
      | (refine (unhide H1 _ hL).mono ?_; rintro e w1 ⟨rfl, g1⟩; have hL1 := hL.gr g1; clear H1)
      | (refine (unhide H2 _ hL1).mono ?_; rintro e w2 ⟨rfl, g2⟩; have hL2 := hL1.gr g2; clear H2)))
    go_ret2
    exact ⟨rfl, g1.trans g2⟩
  · have e1 : (q == 2) = false := by simpa using h2
    clear h2
    go_enter Tryz.func226, Tryz.ntmps226
    go_wp2_with (go_at_call 242; (first
      | (refine (unhide H1 _ hL).mono ?_; rintro e w1 ⟨rfl, g1⟩; have hL1 := hL.gr g1; clear H1)
      | (refine (unhide H2 _ hL1).mono ?_; rintro e w2 ⟨rfl, g2⟩; have hL2 := hL1.gr g2; clear H2)))
    go_ret2
    exact ⟨rfl, g1.trans g2⟩
  · have e1 : (q == 3) = false := by simpa using h2
    clear h2
    go_enter Tryz.func226, Tryz.ntmps226
    go_wp2_with (go_at_call 242; (first
      | (refine (unhide H1 _ hL).mono ?_; rintro e w1 ⟨rfl, g1⟩; have hL1 := hL.gr g1; clear H1)
      | (refine (unhide H2 _ hL1).mono ?_; rintro e w2 ⟨rfl, g2⟩; have hL2 := hL1.gr g2; clear H2)))
    go_ret2
    exact ⟨rfl, g1.trans g2⟩

/-- Join, of any two numbers. -/
theorem join_any (a b : Int) (w : World) (hL : Lay w) : Calls Tryz.prog 226 #[.int .i32 a, .int .i32 b] w fun e w' => e = .returned (.tuple #[.int .i32 (jR a b), .bool (jB a b)]) ∧ Gr w w' := by
  cases hj : jB a b
  · rw [jR_none hj]
    exact join_no a b _ _ w hL rfl rfl (by rw [jB_not] at hj; omega)
  · rcases (jB_iff a b).1 hj with ⟨h1, h2⟩ | ⟨h1, h2⟩
    · exact join_lead a b w hL h1 h2
    · exact join_open a b w hL h1 h2

end Go.Proofs.YtefobkgifigclaaGreatDoor
