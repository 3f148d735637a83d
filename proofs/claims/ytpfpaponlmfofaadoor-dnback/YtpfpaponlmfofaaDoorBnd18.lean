/- The bytes of a name's text are bytes. -/
import Derived.Test.YtpfpaponlmfofaaDoorLen18
namespace Go.Proofs.YtpfpaponlmfofaaDoor
set_option maxRecDepth 100000
open Go.RowKit

def byB (x : Int) : Prop := 0 ≤ x ∧ x < 256
theorem hexD_by (n : Int) (h0 : 0 ≤ n) (h1 : n < 16) : byB (hexD n) := by
  unfold byB hexD
  split <;> omega
theorem escB_by (f la : Bool) (c : Int) (hc : byB c) : ∀ x ∈ escB f la c, byB x := by
  intro x hx
  obtain ⟨h0, h1⟩ := hc
  unfold escB at hx
  split at hx
  · simp only [List.mem_cons, List.not_mem_nil, or_false] at hx
    rcases hx with rfl | rfl | rfl
    · unfold byB; omega
    · exact hexD_by _ (by omega) (by omega)
    · exact hexD_by _ (by omega) (by omega)
  · split at hx
    · simp only [List.mem_cons, List.not_mem_nil, or_false] at hx
      rcases hx with rfl | rfl
      · unfold byB; omega
      · exact ⟨h0, h1⟩
    · simp only [List.mem_cons, List.not_mem_nil, or_false] at hx
      rw [hx]
      exact ⟨h0, h1⟩
theorem shV_by : ∀ (l : List Int) (f : Bool), (∀ x ∈ l, byB x) → ∀ x ∈ shV f l, byB x
  | [], _, _, x, hx => by simp [shV] at hx
  | c :: t, f, h, x, hx => by
    rw [shV, List.mem_append] at hx
    rcases hx with hx | hx
    · exact escB_by _ _ c (h c (by simp)) x hx
    · exact shV_by t false (fun y hy => h y (by simp [hy])) x hx
theorem shP_by (p : Pr) : ∀ x ∈ shP p, byB x := fun x hx => by
  unfold shP at hx
  rw [List.mem_append, List.mem_cons] at hx
  rcases hx with hx | rfl | hx
  · exact nums_bound _ x hx
  · unfold byB; omega
  · exact shV_by _ _ (nums_bound _) x hx
theorem shR_by : ∀ (r : List Pr) (f : Bool), ∀ x ∈ shR f r, byB x
  | [], _, x, hx => by simp [shR] at hx
  | p :: t, f, x, hx => by
    rw [shR, List.mem_append, List.mem_append] at hx
    rcases hx with hx | hx | hx
    · cases f
      · simp at hx; rw [hx]; unfold byB; omega
      · simp at hx
    · exact shP_by p x hx
    · exact shR_by t false x hx
theorem shN_by : ∀ (n : List (List Pr)) (f : Bool), ∀ x ∈ shN f n, byB x
  | [], _, x, hx => by simp [shN] at hx
  | r :: t, f, x, hx => by
    rw [shN, List.mem_append, List.mem_append] at hx
    rcases hx with hx | hx | hx
    · cases f
      · simp at hx; rw [hx]; unfold byB; omega
      · simp at hx
    · exact shR_by r true x hx
    · exact shN_by t false x hx
end Go.Proofs.YtpfpaponlmfofaaDoor
