/- The document's Decode of layer 15, over take. -/
import Derived.Test.YtlhkplhfofkbbaaRDec15
namespace Go.Proofs.Ytlhkplhfofkbbaa
open Go.RowKit

set_option maxHeartbeats 1600000 in
theorem rdecode_of (ht : TakeOk 11) (s : ByteArray) (at_ : Int) (w : World) (hs : s.size ≤ 10000) (a0 : -9223372036854775808 ≤ at_) (a1 : at_ ≤ 9223372036854775807) : Calls Try.prog 18 #[.string s, .int .i64 at_] w fun r w' => ∃ v, r = .returned (.tuple #[v, .int .i64 (decB (nums s) at_).2.1, .int .i64 (decB (nums s) at_).2.2]) ∧ ElP (In w.heap.size w') w' (decB (nums s) at_).1 v ∧ Below w.heap.size w w' := by
  by_cases hbad : at_ < 0 ∨ (s.size : Int) < at_
  · have HE : Hid (decB (nums s) at_ = (el0, 0, 2)) := by show _ = _; unfold decB; rw [if_pos (by rw [nums_length]; exact hbad)]
    by_cases h1 : at_ < 0
    · go_enter Try.func18, Try.ntmps18
      go_wp2
      go_returns
      exact ⟨_, ret_v3 (by rw [unhide HE]) (by rw [unhide HE]), by rw [unhide HE]; exact el0_P _ _, Below.one w _⟩
    · have h2 : (s.size : Int) < at_ := hbad.resolve_left h1
      go_enter Try.func18, Try.ntmps18
      go_wp2
      go_returns
      exact ⟨_, ret_v3 (by rw [unhide HE]) (by rw [unhide HE]), by rw [unhide HE]; exact el0_P _ _, Below.one w _⟩
  · have h1 : ¬ at_ < 0 := fun h => hbad (.inl h)
    have h2 : ¬ (s.size : Int) < at_ := fun h => hbad (.inr h)
    obtain ⟨i, rfl⟩ : ∃ i : Nat, at_ = i := ⟨at_.toNat, by omega⟩
    have HE : Hid (decB (nums s) i = ((takeB 11 ((nums s).drop i)).1, (if (takeB 11 ((nums s).drop i)).2.2 = 0 then (i : Int) + ((takeB 11 ((nums s).drop i)).2.1 : Int) else 0), (takeB 11 ((nums s).drop i)).2.2)) := by show _ = _; unfold decB; rw [if_neg (by rw [nums_length]; exact hbad)]; rfl
    have H := ht s i (w.alloc (.cells #[.int .i64 0, .bool false, .int .i64 0, .string ⟨#[]⟩, .slice none 0 0] 26)) (by omega) hs
    have e1 : ((12 - 11 : Nat) : Int) = 1 := rfl
    rw [e1] at H
    have HH := hide H
    clear H e1 hbad a0 a1
    rw [unhide HE]
    clear HE
    simp only
    generalize (if (takeB 11 ((nums s).drop i)).2.2 = 0 then (i : Int) + ((takeB 11 ((nums s).drop i)).2.1 : Int) else 0) = to at *
    generalize (takeB 11 ((nums s).drop i)).2.2 = x at *
    generalize (takeB 11 ((nums s).drop i)).1 = e at *
    have ex : ∀ (P : Nat → Prop) (v : Value) (w1 : World), ElP P w1 e v → ∃ a0 a1 a2 a3 ad cap, v = .agg #[.int .i64 a0, .bool a1, .int .i64 a2, .string a3, .slice ad e.els.length cap] := fun P v w1 h => by
      obtain ⟨ad, cap, hv, _⟩ := (ElP.toV e v h).open
      exact ⟨_, _, _, _, ad, cap, hv⟩
    have EX := hide ex
    clear ex
    have g0 : (w.alloc (.cells #[.int .i64 0, .bool false, .int .i64 0, .string ⟨#[]⟩, .slice none 0 0] 26)).heap.size = w.heap.size + 1 := by simp
    obtain ⟨k0, k1, k2, k3, k4⟩ := box5 (w := w) (T := 26) (a0 := .int .i64 0) (a1 := .bool false) (a2 := .int .i64 0) (a3 := .string ⟨#[]⟩) (a4 := .slice none 0 0) (Gr.refl _)
    have fr : ∀ j, (w.alloc (.cells #[.int .i64 0, .bool false, .int .i64 0, .string ⟨#[]⟩, .slice none 0 0] 26)).frozen? ⟨w.heap.size, j, none⟩ = false := fun j => by simp
    have FR := hide fr
    clear fr
    go_enter Try.func18, Try.ntmps18
    go_wp2_with (go_at_call 32; refine (unhide HH).mono ?_; rintro r w1 ⟨v1, rfl, p1, b1⟩; obtain ⟨a0, a1, a2, a3, ad1, cap1, rfl⟩ := unhide EX _ _ _ p1; have q0 := (b1.cell (cell_lt k0)).trans k0; have q1 := (b1.cell (cell_lt k1)).trans k1; have q2 := (b1.cell (cell_lt k2)).trans k2; have q3 := (b1.cell (cell_lt k3)).trans k3; have q4 := (b1.cell (cell_lt k4)).trans k4; have f0 := (b1.frozen (cell_lt k0)).trans (unhide FR 0); have f1 := (b1.frozen (cell_lt k1)).trans (unhide FR 1); have f2 := (b1.frozen (cell_lt k2)).trans (unhide FR 2); have f3 := (b1.frozen (cell_lt k3)).trans (unhide FR 3); have f4 := (b1.frozen (cell_lt k4)).trans (unhide FR 4))
    have bw : Below w.heap.size w (((((w1.setCell ⟨w.heap.size, 0, none⟩ (.int .i64 a0)).setCell ⟨w.heap.size, 1, none⟩ (.bool a1)).setCell ⟨w.heap.size, 2, none⟩ (.int .i64 a2)).setCell ⟨w.heap.size, 3, none⟩ (.string a3)).setCell ⟨w.heap.size, 4, none⟩ (.slice ad1 e.els.length cap1)) :=
      ((((((Below.one w _).trans (b1.mono (by simp))).setCell (Nat.le_refl _) _).setCell (Nat.le_refl _) _).setCell (Nat.le_refl _) _).setCell (Nat.le_refl _) _).setCell (Nat.le_refl _) _
    have hsz : (((((w1.setCell ⟨w.heap.size, 0, none⟩ (.int .i64 a0)).setCell ⟨w.heap.size, 1, none⟩ (.bool a1)).setCell ⟨w.heap.size, 2, none⟩ (.int .i64 a2)).setCell ⟨w.heap.size, 3, none⟩ (.string a3)).setCell ⟨w.heap.size, 4, none⟩ (.slice ad1 e.els.length cap1)).heap.size = w1.heap.size := by simp
    generalize hW : (((((w1.setCell ⟨w.heap.size, 0, none⟩ (.int .i64 a0)).setCell ⟨w.heap.size, 1, none⟩ (.bool a1)).setCell ⟨w.heap.size, 2, none⟩ (.int .i64 a2)).setCell ⟨w.heap.size, 3, none⟩ (.string a3)).setCell ⟨w.heap.size, 4, none⟩ (.slice ad1 e.els.length cap1)) = W9 at *
    obtain ⟨r0, r1, r2, r3, r4, ro⟩ := set5 _ _ _ _ _ q0 q1 q2 q3 q4 hW
    clear hW
    refine bodyPost_ret (by simp [results, Try.results18, go_sem, r0, r1, r2, r3, r4]; try rfl) rfl ?_
    refine ⟨_, rfl, ?_, bw⟩
    refine ElP.kept (fun g hg => ⟨by have := hg.1; omega, by rw [hsz]; exact hg.2⟩) (fun g off u hg hc => (ro ⟨g, off, none⟩ (by have := hg.1; show g ≠ w.heap.size; omega)).trans hc) _ _ p1
end Go.Proofs.Ytlhkplhfofkbbaa
