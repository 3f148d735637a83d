/- The program's Decode of layer 15. -/
import Derived.Test.YtcboggoindhmkaaDf15
namespace Go.Proofs.Ytcboggoindhmkaa
open Go.RowKit

theorem takeH_none (inner : List Int → List El × Int) (s : List Int) (h : (takeH inner s).2.2 ≠ 0) : (takeH inner s).1 = el0 := by
  unfold takeH at h ⊢
  repeat' split
  all_goals first | rfl | skip
  · rename_i h1 h2 h3 h4 h5
    rw [if_neg h1, if_neg h2, if_neg h3, if_pos h4, if_neg h5] at h
    exact absurd rfl h
  · rename_i h1 h2 h3 h4
    rw [if_neg h1, if_neg h2, if_neg h3, if_neg h4] at h
    exact absurd rfl h
set_option maxHeartbeats 3200000 in
theorem pdecode_any (s : ByteArray) (at_ : Int) (w : World) (hs : s.size ≤ 10000) : Calls Try.prog 28 #[.string s, .int .i64 at_] w fun r w' => ∃ v, r = .returned (.tuple #[v, .int .i64 (decB (nums s) at_).2.1, .int .i64 (decB (nums s) at_).2.2]) ∧ ElP (In w.heap.size w') w' (decB (nums s) at_).1 v ∧ Below w.heap.size w w' := by
  by_cases hbad : at_ < 0 ∨ (s.size : Int) < at_
  · have HE : Hid (decB (nums s) at_ = (el0, 0, 2)) := by show _ = _; unfold decB; rw [if_pos (by rw [nums_length]; exact hbad)]
    by_cases h1 : at_ < 0
    · go_enter Try.func28, Try.ntmps28
      go_wp2
      go_returns
      exact ⟨_, ret_v3 (by rw [unhide HE]) (by rw [unhide HE]), by rw [unhide HE]; exact el0_P _ _, Below.one w _⟩
    · have h2 : (s.size : Int) < at_ := hbad.resolve_left h1
      go_enter Try.func28, Try.ntmps28
      go_wp2
      go_returns
      exact ⟨_, ret_v3 (by rw [unhide HE]) (by rw [unhide HE]), by rw [unhide HE]; exact el0_P _ _, Below.one w _⟩
  · have h1 : ¬ at_ < 0 := fun h => hbad (.inl h)
    have h2 : ¬ (s.size : Int) < at_ := fun h => hbad (.inr h)
    obtain ⟨i, rfl⟩ : ∃ i : Nat, at_ = i := ⟨at_.toNat, by omega⟩
    have HE : Hid (decB (nums s) i = ((takeB 11 ((nums s).drop i)).1, (if (takeB 11 ((nums s).drop i)).2.2 = 0 then (i : Int) + ((takeB 11 ((nums s).drop i)).2.1 : Int) else 0), (takeB 11 ((nums s).drop i)).2.2)) := by show _ = _; unfold decB; rw [if_neg (by rw [nums_length]; exact hbad)]; rfl
    have hsx : (s.extract i s.size).size ≤ 10000 := by rw [ByteArray.size_extract]; omega
    have H := ptake_ok 11 (Nat.le_refl _) (s.extract i s.size) (w.alloc Z5) hsx
    rw [nums_drop, show ((12 - 11 : Nat) : Int) = 1 from rfl] at H
    have hbd : Byt ((nums s).drop i) := (byt_nums s).drop i
    have hj : (takeB 11 ((nums s).drop i)).2.2 = 0 → (takeB 11 ((nums s).drop i)).2.1 ≤ s.size - i := fun h => by
      obtain ⟨e, j, x, hr⟩ : ∃ e j x, takeB 11 ((nums s).drop i) = (e, j, x) := ⟨_, _, _, rfl⟩
      rw [hr] at h ⊢
      simp only at h ⊢
      subst h
      obtain ⟨_, hjl, _⟩ := take_back 11 _ e j hbd hr
      rwa [List.length_drop, nums_length] at hjl
    have hel : (takeB 11 ((nums s).drop i)).2.2 ≠ 0 → (takeB 11 ((nums s).drop i)).1 = el0 := fun h => by rw [takeB_of] at h ⊢; exact takeH_none _ _ h
    have HH := hide H
    have HJ := hide hj
    have HEL := hide hel
    have hbx := Bx.new w (.int .i64 0) (.bool false) (.int .i64 0) (.string ⟨#[]⟩) (.slice none 0 0) 26
    have HBX := hide hbx
    have hz : (w.alloc Z5).heap.size = w.heap.size + 1 := by simp
    clear H hbad hj hbd hbx hsx hel
    rw [unhide HE]
    clear HE
    simp only
    generalize (takeB 11 ((nums s).drop i)).2.1 = j at *
    generalize (takeB 11 ((nums s).drop i)).2.2 = x at *
    generalize (takeB 11 ((nums s).drop i)).1 = e at *
    have ex : ∀ (P : Nat → Prop) (v : Value) (w1 : World), ElP P w1 e v → ∃ a0 a1 a2 a3 ad cap, v = .agg #[.int .i64 a0, .bool a1, .int .i64 a2, .string a3, .slice ad e.els.length cap] := fun P v w1 h => by
      obtain ⟨ad, cap, hv, _⟩ := (ElP.toV e v h).open
      exact ⟨_, _, _, _, ad, cap, hv⟩
    have EX := hide ex
    clear ex
    have j0 : (0 : Int) ≤ (i : Int) := by omega
    have j1 : (i : Int) ≤ (s.size : Int) := by omega
    by_cases hx : x = 0
    · rw [if_pos hx]
      have hjj := unhide HJ hx
      subst hx
      have wj : IntKind.i64.wrap ((i : Int) + (j : Int)) = (i : Int) + (j : Int) := wrap_in (by omega) (by omega)
      clear HJ
      go_enter Try.func28, Try.ntmps28
      go_wp2_with (go_at_call 38; refine (unhide HH).mono ?_; rintro r w1 ⟨v1, rfl, p1, b1⟩; obtain ⟨a0, a1, a2, a3, ad1, cap1, rfl⟩ := unhide EX _ _ _ p1; have bx := (unhide HBX).below (b1.trans ((Below.one w1 (.cells #[.int .i64 a0, .bool a1, .int .i64 a2, .string a3, .slice ad1 e.els.length cap1] 26)).mono b1.size)); have q0 := bx.c0; have q1 := bx.c1; have q2 := bx.c2; have q3 := bx.c3; have q4 := bx.c4; have f0 := bx.f0; have f1 := bx.f1; have f2 := bx.f2; have f3 := bx.f3; have f4 := bx.f4; clear bx; have B1 := hide b1; clear b1; have PP := hide p1; clear p1)
      have bw : Below w.heap.size w ((((((w1.alloc (.cells #[.int .i64 a0, .bool a1, .int .i64 a2, .string a3, .slice ad1 e.els.length cap1] 26)).setCell ⟨w.heap.size, 0, none⟩ (.int .i64 a0)).setCell ⟨w.heap.size, 1, none⟩ (.bool a1)).setCell ⟨w.heap.size, 2, none⟩ (.int .i64 a2)).setCell ⟨w.heap.size, 3, none⟩ (.string a3)).setCell ⟨w.heap.size, 4, none⟩ (.slice ad1 e.els.length cap1)) := set5_below _ _ _ _ _ (Nat.le_refl _) (((Below.one w _).trans ((unhide B1).mono (by rw [hz]; omega))).trans ((Below.one w1 _).mono (by have := (unhide B1).size; omega)))
      have hsz : ((((((w1.alloc (.cells #[.int .i64 a0, .bool a1, .int .i64 a2, .string a3, .slice ad1 e.els.length cap1] 26)).setCell ⟨w.heap.size, 0, none⟩ (.int .i64 a0)).setCell ⟨w.heap.size, 1, none⟩ (.bool a1)).setCell ⟨w.heap.size, 2, none⟩ (.int .i64 a2)).setCell ⟨w.heap.size, 3, none⟩ (.string a3)).setCell ⟨w.heap.size, 4, none⟩ (.slice ad1 e.els.length cap1)).heap.size = w1.heap.size + 1 := by simp
      generalize hW : ((((((w1.alloc (.cells #[.int .i64 a0, .bool a1, .int .i64 a2, .string a3, .slice ad1 e.els.length cap1] 26)).setCell ⟨w.heap.size, 0, none⟩ (.int .i64 a0)).setCell ⟨w.heap.size, 1, none⟩ (.bool a1)).setCell ⟨w.heap.size, 2, none⟩ (.int .i64 a2)).setCell ⟨w.heap.size, 3, none⟩ (.string a3)).setCell ⟨w.heap.size, 4, none⟩ (.slice ad1 e.els.length cap1)) = W9 at *
      obtain ⟨r0, r1, r2, r3, r4, ro⟩ := set5 _ _ _ _ _ q0 q1 q2 q3 q4 hW
      clear hW
      refine bodyPost_ret (by simp [results, Try.results28, go_sem, r0, r1, r2, r3, r4]; try rfl) rfl ?_
      refine ⟨_, rfl, ?_, bw⟩
      refine ElP.kept (fun g hg => ⟨by have := hg.1; omega, by rw [hsz]; have := hg.2; omega⟩) (fun g off u hg hc => ?_) _ _ (unhide PP)
      have h5 := hg.1
      exact (ro ⟨g, off, none⟩ (by show g ≠ w.heap.size; omega)).trans (((Below.one w1 _).cell (cell_lt hc)).trans hc)
    · rw [if_neg hx]
      have zx : (x == 0) = false := by simpa using hx
      have HE0 : Hid (e = el0) := unhide HEL hx
      go_enter Try.func28, Try.ntmps28
      go_wp2_with (go_at_call 38; refine (unhide HH).mono ?_; rintro r w1 ⟨v1, rfl, p1, b1⟩; obtain ⟨a0, a1, a2, a3, ad1, cap1, rfl⟩ := unhide EX _ _ _ p1; have bx := (unhide HBX).below (b1.trans ((Below.one w1 (.cells #[.int .i64 a0, .bool a1, .int .i64 a2, .string a3, .slice ad1 e.els.length cap1] 26)).mono b1.size)); have q0 := bx.c0; have q1 := bx.c1; have q2 := bx.c2; have q3 := bx.c3; have q4 := bx.c4; have f0 := bx.f0; have f1 := bx.f1; have f2 := bx.f2; have f3 := bx.f3; have f4 := bx.f4; clear bx; have B1 := hide b1; clear b1; have PP := hide p1; clear p1)
      have bw : Below w.heap.size w ((((((w1.alloc (.cells #[.int .i64 a0, .bool a1, .int .i64 a2, .string a3, .slice ad1 e.els.length cap1] 26)).setCell ⟨w.heap.size, 0, none⟩ (.int .i64 0)).setCell ⟨w.heap.size, 1, none⟩ (.bool false)).setCell ⟨w.heap.size, 2, none⟩ (.int .i64 0)).setCell ⟨w.heap.size, 3, none⟩ (.string ⟨#[]⟩)).setCell ⟨w.heap.size, 4, none⟩ (.slice none 0 0)) := set5_below _ _ _ _ _ (Nat.le_refl _) (((Below.one w _).trans ((unhide B1).mono (by rw [hz]; omega))).trans ((Below.one w1 _).mono (by have := (unhide B1).size; omega)))
      generalize hW : ((((((w1.alloc (.cells #[.int .i64 a0, .bool a1, .int .i64 a2, .string a3, .slice ad1 e.els.length cap1] 26)).setCell ⟨w.heap.size, 0, none⟩ (.int .i64 0)).setCell ⟨w.heap.size, 1, none⟩ (.bool false)).setCell ⟨w.heap.size, 2, none⟩ (.int .i64 0)).setCell ⟨w.heap.size, 3, none⟩ (.string ⟨#[]⟩)).setCell ⟨w.heap.size, 4, none⟩ (.slice none 0 0)) = W9 at *
      obtain ⟨r0, r1, r2, r3, r4, ro⟩ := set5 _ _ _ _ _ q0 q1 q2 q3 q4 hW
      clear hW
      refine bodyPost_ret (by simp [results, Try.results28, go_sem, r0, r1, r2, r3, r4]; try rfl) rfl ?_
      exact ⟨_, rfl, by rw [unhide HE0]; exact el0_P _ _, bw⟩
end Go.Proofs.Ytcboggoindhmkaa
