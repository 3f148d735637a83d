/- Stage 15: the probe (awake), over the contracts. -/
import Derived.Test.YtlhkplhfofkbbaaD15
namespace Go.Proofs.Ytlhkplhfofkbbaa
open Go.RowKit

def E1 : El := .mk 0 true 16 ⟨#[]⟩ [.mk 0 false 2 ⟨#[5]⟩ []]
def E4 : El := .mk 4 false 0 ⟨#[]⟩ []
theorem dec_1 : decB (nums ⟨#[48, 3, 2, 1, 5]⟩) 0 = (E1, 5, 0) := by kernel_rfl
theorem dec_2 : decB (nums ⟨#[48, 128]⟩) 0 = (el0, 0, 152) := by kernel_rfl
theorem dec_3 : decB (nums ⟨#[4, 129, 1, 97]⟩) 0 = (el0, 0, 152) := by kernel_rfl
theorem enc_1 : encS [E1] = ⟨#[48, 3, 2, 1, 5]⟩ ∧ encE [E1] = 0 := ⟨by kernel_rfl, by kernel_rfl⟩
theorem deep_1 : deepE E1 13 = 2 := by kernel_rfl
theorem chk_4 : chkB E4 = 2 := by kernel_rfl
theorem open15 {P : Nat → Prop} {w : World} {v : Value} (h : ElP P w E1 v) : ∃ cap g off, v = .agg #[.int .i64 0, .bool true, .int .i64 16, .string ⟨#[]⟩, .slice (some ⟨g, off, none⟩) 1 cap] ∧ w.cell? ⟨g, off + 3, none⟩ = some (.string ⟨#[5]⟩) := by
  unfold E1 at h
  simp only [ElP] at h
  obtain ⟨ad, cap, hv, _, hc⟩ := h
  obtain ⟨g, off, rfl, _, hl⟩ := hc.resolve_left (by simp)
  simp only [ElP.L] at hl
  obtain ⟨⟨a0, a1, a2, a3, a4, h0, h1, h2, h3, h4, hx⟩, _⟩ := hl
  simp only [ElP] at hx
  obtain ⟨ad', cap', hv', _⟩ := hx
  cases hv'
  exact ⟨cap, g, off, hv, h3⟩
theorem open0 {P : Nat → Prop} {w : World} {v : Value} (h : ElP P w el0 v) : ∃ ad cap, v = .agg #[.int .i64 0, .bool false, .int .i64 0, .string ⟨#[]⟩, .slice ad 0 cap] := by
  unfold el0 at h
  simp only [ElP] at h
  obtain ⟨ad, cap, hv, _⟩ := h
  exact ⟨ad, cap, hv⟩
/-- A row of one element, just laid. -/
theorem els_one {w : World} {e : El} {a0 a1 a2 a3 a4 : Value} {T : TypeId} {g : Nat} (hg : g = w.heap.size) (h : ElV w e (.agg #[a0, a1, a2, a3, a4])) : ElsV (w.alloc (.cells #[a0, a1, a2, a3, a4] T)) (.slice (some ⟨g, 0, none⟩) 1 1) [e] := by
  subst hg
  obtain ⟨k0, k1, k2, k3, k4⟩ := box5 (w := w) (T := T) (a0 := a0) (a1 := a1) (a2 := a2) (a3 := a3) (a4 := a4) (Gr.refl _)
  refine ⟨_, 1, rfl, by simp, .inr ⟨w.heap.size, 0, rfl, ?_⟩⟩
  simp only [ElV.L]
  exact ⟨⟨a0, a1, a2, a3, a4, k0, k1, k2, k3, k4, h.grow (Below.one w _)⟩, trivial⟩
abbrev bx1 (g off cap : Nat) : Obj := .cells #[.int .i64 0, .bool true, .int .i64 16, .string ⟨#[]⟩, .slice (some ⟨g, off, none⟩) 1 cap] 26
theorem bx1_cells (w : World) (g off cap : Nat) : (w.alloc (bx1 g off cap)).cell? ⟨w.heap.size, 0, none⟩ = some (.int .i64 0) ∧ (w.alloc (bx1 g off cap)).cell? ⟨w.heap.size, 1, none⟩ = some (.bool true) ∧ (w.alloc (bx1 g off cap)).cell? ⟨w.heap.size, 2, none⟩ = some (.int .i64 16) ∧ (w.alloc (bx1 g off cap)).cell? ⟨w.heap.size, 3, none⟩ = some (.string ⟨#[]⟩) ∧ (w.alloc (bx1 g off cap)).cell? ⟨w.heap.size, 4, none⟩ = some (.slice (some ⟨g, off, none⟩) 1 cap) := box5 (Gr.refl _)
theorem e4_V (w : World) : ElV w E4 (.agg #[.int .i64 4, .bool false, .int .i64 0, .string ⟨#[]⟩, .slice none 0 0]) := by
  unfold E4
  simp only [ElV]
  exact ⟨none, 0, rfl, Nat.zero_le _, .inl rfl⟩
theorem below_one {w w1 : World} (h : Below w.heap.size w w1) (o : Obj) : Below w.heap.size w (w1.alloc o) := h.trans ((Below.one w1 o).mono h.size)
theorem below_sz {w w1 : World} (h : Below w.heap.size w w1) : w.heap.size ≤ w1.heap.size := h.size
set_option maxHeartbeats 1600000 in
theorem awake15 (w : World) (hL : Ly w) : Calls Try.prog 9 #[] w fun e w' => e = .returned (.bool true) ∧ Below w.heap.size w w' := by
  have H1 := hide (bdecode_any ⟨#[48, 3, 2, 1, 5]⟩ 0 w hL (by decide) (by decide) (by decide))
  have H2 := hide (fun w2 (h : Ly w2) => bdecode_any ⟨#[48, 128]⟩ 0 w2 h (by decide) (by decide) (by decide))
  have H3 := hide (fun w2 (h : Ly w2) => bdecode_any ⟨#[4, 129, 1, 97]⟩ 0 w2 h (by decide) (by decide) (by decide))
  rw [dec_1] at H1
  rw [dec_2] at H2
  rw [dec_3] at H3
  simp only at H1 H2 H3
  have HE := hide (fun v w2 (h : Ly w2) (hV : ElsV w2 v [E1]) => bencode_any [E1] v w2 h hV)
  rw [enc_1.1, enc_1.2] at HE
  have HD := hide (fun v w2 (h : Ly w2) (hV : ElV w2 E1 v) => bdeep_any E1 v w2 h hV)
  rw [deep_1] at HD
  have HC := hide (fun v w2 (h : Ly w2) (hV : ElV w2 E4 v) => bcheck_any E4 v w2 h hV)
  rw [chk_4] at HC
  have HL := hide hL
  clear hL
  go_enter Try.func9, Try.ntmps9
  go_wp2_with (first
    | (go_at_call 11; refine (unhide HC _ _ (Ly.keep (unhide HL) t5) (e4_V _)).mono ?_; rintro r w6 ⟨rfl, b6⟩)
    | (go_at_call 13; refine (unhide HD _ _ (Ly.keep (unhide HL) t4) (e1.grow y4)).mono ?_; rintro r w5 ⟨rfl, b5⟩; have t5 := t4.trans (b5.mono t4.size))
    | (go_at_call_of 17 (ByteArray.mk #[4, 129, 1, 97]); refine (unhide H3 _ (Ly.keep (unhide HL) t3)).mono ?_; rintro r w4 ⟨v4, rfl, p4, b4⟩; obtain ⟨ad4, cap4, rfl⟩ := open0 p4; have b4' := below_one b4 (.cells #[.int .i64 0, .bool false, .int .i64 0, .string ⟨#[]⟩, .slice ad4 0 cap4] 26); have t4 := t3.trans (b4'.mono t3.size); have x4 := x3.trans (b4'.mono x3.size); have y4 := bX0.trans (x4.mono (below_sz bX0)); have m0 := (x4.cell (cell_lt k0)).trans k0; have m1 := (x4.cell (cell_lt k1)).trans k1; have m2 := (x4.cell (cell_lt k2)).trans k2; have m3 := (x4.cell (cell_lt k3)).trans k3; have m4 := (x4.cell (cell_lt k4)).trans k4; have mc := (y4.cell (cell_lt c1)).trans c1)
    | (go_at_call_of 17 (ByteArray.mk #[48, 128]); refine (unhide H2 _ (Ly.keep (unhide HL) t2)).mono ?_; rintro r w3 ⟨v3, rfl, p3, b3⟩; obtain ⟨ad3, cap3, rfl⟩ := open0 p3; have b3' := below_one b3 (.cells #[.int .i64 0, .bool false, .int .i64 0, .string ⟨#[]⟩, .slice ad3 0 cap3] 26); have t3 := t2.trans (b3'.mono t2.size); have x3 := x2.trans (b3'.mono x2.size))
    | (go_at_call 15; refine (unhide HE _ _ (Ly.keep (unhide HL) (b1.trans (bX.mono b1.size))) (els_one (by simp) (e1.grow bX0))).mono ?_; rintro r w2 ⟨rfl, b2⟩; have t2 := (b1.trans (bX.mono b1.size)).trans (b2.mono (b1.trans (bX.mono b1.size)).size); have x2 := (Below.one (w1.alloc (bx1 g1 off1 cap1)) (bx1 g1 off1 cap1)).trans (b2.mono (Below.one (w1.alloc (bx1 g1 off1 cap1)) (bx1 g1 off1 cap1)).size))
    | (go_at_call_of 17 (ByteArray.mk #[48, 3, 2, 1, 5]); refine (unhide H1).mono ?_; rintro r w1 ⟨v1, rfl, p1, b1⟩; obtain ⟨cap1, g1, off1, rfl, c1⟩ := open15 p1; have e1 := ElP.toV _ _ p1; have bX0 := Below.one w1 (bx1 g1 off1 cap1); have bX := ((Gr.one w1 (bx1 g1 off1 cap1)).alloc (bx1 g1 off1 cap1)).below; obtain ⟨k0, k1, k2, k3, k4⟩ := bx1_cells w1 g1 off1 cap1))
  go_ret
  exact ⟨rfl, t5.trans (b6.mono t5.size)⟩
end Go.Proofs.Ytlhkplhfofkbbaa
