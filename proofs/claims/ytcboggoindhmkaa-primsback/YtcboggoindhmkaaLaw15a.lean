/- Stage 15: the probe (awake), over the contracts. -/
import Derived.Test.YtcboggoindhmkaaD15
namespace Go.Proofs.Ytcboggoindhmkaa
open Go.RowKit

def E1 : El := .mk 0 true 16 ⟨#[]⟩ [.mk 0 false 2 ⟨#[5]⟩ []]
def E4 : El := .mk 4 false 0 ⟨#[]⟩ []
theorem dec_1 : decB (nums ⟨#[48, 3, 2, 1, 5]⟩) 0 = (E1, 5, 0) := by kernel_rfl
theorem dec_2 : decB (nums ⟨#[48, 128]⟩) 0 = (el0, 0, 152) := by kernel_rfl
theorem dec_3 : decB (nums ⟨#[4, 129, 1, 97]⟩) 0 = (el0, 0, 152) := by kernel_rfl
theorem enc_1 : encS [E1] = ⟨#[48, 3, 2, 1, 5]⟩ ∧ encE [E1] = 0 := ⟨by kernel_rfl, by kernel_rfl⟩
theorem deep_1 : deepE E1 13 = 2 := by kernel_rfl
theorem chk_4 : chkB E4 = 2 := by kernel_rfl
theorem open15 {P : Nat → Prop} {w : World} {v : Value} (h : ElP P w E1 v) : ∃ cap g off, v = .agg #[.int .i64 0, .bool true, .int .i64 16, .string ⟨#[]⟩, .slice (some ⟨g, off, none⟩) 1 cap] ∧ w.cell? ⟨g, off + 3, none⟩ = some (.string ⟨#[5]⟩) := by
  unfold E1 at h
  simp only [ElP] at h
  obtain ⟨ad, cap, hv, _, hc⟩ := h
  obtain ⟨g, off, rfl, _, hl⟩ := hc.resolve_left (by simp)
  simp only [ElP.L] at hl
  obtain ⟨⟨a0, a1, a2, a3, a4, h0, h1, h2, h3, h4, hx⟩, _⟩ := hl
  simp only [ElP] at hx
  obtain ⟨ad', cap', hv', _⟩ := hx
  cases hv'
  exact ⟨cap, g, off, hv, h3⟩
theorem open0 {P : Nat → Prop} {w : World} {v : Value} (h : ElP P w el0 v) : ∃ ad cap, v = .agg #[.int .i64 0, .bool false, .int .i64 0, .string ⟨#[]⟩, .slice ad 0 cap] := by
  unfold el0 at h
  simp only [ElP] at h
  obtain ⟨ad, cap, hv, _⟩ := h
  exact ⟨ad, cap, hv⟩
/-- A row of one element, just laid. -/
theorem els_one {w : World} {e : El} {a0 a1 a2 a3 a4 : Value} {T : TypeId} {g : Nat} (hg : g = w.heap.size) (h : ElV w e (.agg #[a0, a1, a2, a3, a4])) : ElsV (w.alloc (.cells #[a0, a1, a2, a3, a4] T)) (.slice (some ⟨g, 0, none⟩) 1 1) [e] := by
  subst hg
  obtain ⟨k0, k1, k2, k3, k4⟩ := box5 (w := w) (T := T) (a0 := a0) (a1 := a1) (a2 := a2) (a3 := a3) (a4 := a4) (Gr.refl _)
  refine ⟨_, 1, rfl, by simp, .inr ⟨w.heap.size, 0, rfl, ?_⟩⟩
  simp only [ElV.L]
  exact ⟨⟨a0, a1, a2, a3, a4, k0, k1, k2, k3, k4, h.grow (Below.one w _)⟩, trivial⟩
abbrev bx1 (g off cap : Nat) : Obj := .cells #[.int .i64 0, .bool true, .int .i64 16, .string ⟨#[]⟩, .slice (some ⟨g, off, none⟩) 1 cap] 26
theorem bx1_cells (w : World) (g off cap : Nat) : (w.alloc (bx1 g off cap)).cell? ⟨w.heap.size, 0, none⟩ = some (.int .i64 0) ∧ (w.alloc (bx1 g off cap)).cell? ⟨w.heap.size, 1, none⟩ = some (.bool true) ∧ (w.alloc (bx1 g off cap)).cell? ⟨w.heap.size, 2, none⟩ = some (.int .i64 16) ∧ (w.alloc (bx1 g off cap)).cell? ⟨w.heap.size, 3, none⟩ = some (.string ⟨#[]⟩) ∧ (w.alloc (bx1 g off cap)).cell? ⟨w.heap.size, 4, none⟩ = some (.slice (some ⟨g, off, none⟩) 1 cap) := box5 (Gr.refl _)
theorem e4_V (w : World) : ElV w E4 (.agg #[.int .i64 4, .bool false, .int .i64 0, .string ⟨#[]⟩, .slice none 0 0]) := by
  unfold E4
  simp only [ElV]
  exact ⟨none, 0, rfl, Nat.zero_le _, .inl rfl⟩
theorem below_one {w w1 : World} (h : Below w.heap.size w w1) (o : Obj) : Below w.heap.size w (w1.alloc o) := h.trans ((Below.one w1 o).mono h.size)
theorem below_sz {w w1 : World} (h : Below w.heap.size w w1) : w.heap.size ≤ w1.heap.size := h.size
end Go.Proofs.Ytcboggoindhmkaa
