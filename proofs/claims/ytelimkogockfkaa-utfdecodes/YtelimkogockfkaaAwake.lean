/- Contract of the answers that the document fixes. -/
import Derived.Test.YtelimkogockfkaaSame
namespace Go.Proofs.Ytelimkogockfkaa
open Go.RowKit

def S1 : ByteArray := { data := #[195, 169, 226, 130, 172] }
theorem S1_list : S1.toList = [195, 169, 226, 130, 172] := ByteArray.toList_mk _
theorem encS_S1 : encS [233, 8364] = S1 := by kernel_rfl
theorem encE_S1 : encE [233, 8364] = 0 := by kernel_rfl
theorem ruP_S1 : ruP S1 = [233, 8364] := by kernel_rfl
theorem ruA_S1 : ruA S1 = 5 := by kernel_rfl
theorem ruE_S1 : ruE S1 = 0 := by kernel_rfl
theorem ruP_S3 : ruP { data := #[97, 192, 128] } = [] := by kernel_rfl
theorem ruA_S3 : ruA { data := #[97, 192, 128] } = 1 := by kernel_rfl
theorem ruE_S3 : ruE { data := #[97, 192, 128] } = 10 := by kernel_rfl
theorem dec_S2 : decN (from_ { data := #[237, 160, 128] } ((0 : Nat) : Int)) = 0 := by kernel_rfl
theorem decR_S2 : decR (from_ { data := #[237, 160, 128] } ((0 : Nat) : Int)) = 0 := by kernel_rfl
theorem len_sur : lenOf 55296 = 0 := by kernel_rfl

theorem encode_awake (w : World) : Calls Try.prog 9 #[.slice (some ⟨w.heap.size, 0, none⟩) 2 2] (w.alloc (.cells #[.int .i32 233, .int .i32 8364] 21)) fun e w' => e = .returned (.tuple #[.string S1, .int .i64 0]) ∧ Below w.heap.size w w' := by
  have h := encode_any (.slice (some ⟨w.heap.size, 0, none⟩) 2 2) [233, 8364] (w.alloc (.cells #[.int .i32 233, .int .i32 8364] 21)) (by decide) ⟨some ⟨w.heap.size, 0, none⟩, 2, rfl, fun i hi => ⟨w.heap.size, 0, rfl, fun j hj => by
    rw [World.cell?_alloc_mark]
    match j, hj with
    | 0, _ => rfl
    | 1, _ => rfl⟩⟩
  rw [encS_S1, encE_S1] at h
  refine h.mono fun e w' ⟨h1, h2⟩ => ⟨h1, ((Below.refl _ _).alloc (Nat.le_refl _) _).trans (h2.mono (by simp))⟩

theorem runes_S1 (w : World) : Calls Try.prog 18 #[.string S1] w fun e w' => ∃ g cap, e = .returned (.tuple #[.slice (some ⟨g, 0, none⟩) 2 cap, .int .i64 5, .int .i64 0]) ∧ w'.cell? ⟨g, 1, none⟩ = some (.int .i32 8364) ∧ Below w.heap.size w w' := by
  have h := runes_any S1 w (by decide)
  rw [ruP_S1, ruA_S1, ruE_S1] at h
  refine h.mono fun e w' ⟨v, h1, h2, h3⟩ => ?_
  obtain ⟨g, cap, rfl, _, _⟩ := h2.form (by decide)
  refine ⟨g, cap, h1, ?_, h3⟩
  have := h2.cells (g := g) rfl 1 (.int .i32 8364) rfl
  rwa [add_zero] at this
theorem runes_S3 (w : World) : Calls Try.prog 18 #[.string { data := #[97, 192, 128] }] w fun e w' => ∃ v, e = .returned (.tuple #[v, .int .i64 1, .int .i64 10]) ∧ Below w.heap.size w w' := by
  have h := runes_any { data := #[97, 192, 128] } w (by decide)
  rw [ruA_S3, ruE_S3] at h
  exact h.mono fun e w' ⟨v, h1, _, h3⟩ => ⟨v, h1, h3⟩
theorem decode_S2 (w : World) : Calls Try.prog 16 #[.string { data := #[237, 160, 128] }, .int .i64 0] w fun e w' => e = .returned (.tuple #[.int .i32 0, .int .i64 0, .int .i64 10]) ∧ Below w.heap.size w w' :=
  decode_in { data := #[237, 160, 128] } 0 w 0 0 10 (by decide) (by decide) decR_S2.symm (by rw [dec_S2]; rfl) (by rw [dec_S2]; rfl)
theorem length_sur (w : World) : Calls Try.prog 13 #[.int .i32 55296] w fun e w' => e = .returned (.int .i64 0) ∧ w = w' := by
  have h := length_any 55296 w
  rw [len_sur] at h
  exact h.mono fun e w' ⟨h1, h2⟩ => ⟨h1, h2.symm⟩

set_option maxRecDepth 100000 in
set_option maxHeartbeats 800000 in
theorem awake_any (w : World) : Calls Try.prog 15 #[] w fun e w' => e = .returned (.bool true) ∧ Below w.heap.size w w' := by
  go_enter Try.func15, Try.ntmps15
  go_wp2_with (first
    | (go_at_call 9; refine (encode_awake _).mono ?_; rintro e w1 ⟨rfl, hb1⟩)
    | (go_at_call_of 18 S1; refine (runes_S1 _).mono ?_; rintro e w2 ⟨g, cap, rfl, hc2, hb2⟩)
    | (go_at_call 16; refine (decode_S2 _).mono ?_; rintro e w3 ⟨rfl, hb3⟩; have hc3 := (hb3.cell (cell_lt hc2)).trans hc2)
    | (go_at_call 18; refine (runes_S3 _).mono ?_; rintro e w4 ⟨v4, rfl, hb4⟩; have hc4 := (hb4.cell (cell_lt hc3)).trans hc3)
    | (go_at_call 13; refine (length_sur _).mono ?_; rintro e w5 ⟨rfl, rfl⟩))
  · go_ret
    have k2 := hb1.trans (hb2.mono hb1.size)
    have k3 := k2.trans (hb3.mono k2.size)
    exact ⟨rfl, k3.trans (hb4.mono k3.size)⟩
  · rename_i h
    exact absurd S1_list h
end Go.Proofs.Ytelimkogockfkaa
