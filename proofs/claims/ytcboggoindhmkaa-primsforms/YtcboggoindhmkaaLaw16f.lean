/- Stage 16: PrimsForms, over the contracts. -/
import Derived.Test.YtcboggoindhmkaaLaw16a
namespace Go.Proofs.Ytcboggoindhmkaa
open Go.RowKit

theorem int_of_read (s : ByteArray) (h : (asI (nums s)).2 = 0) : intE 0 2 (asI (nums s)).1 = .mk 0 false 2 s [] ∧ intX 0 2 (asI (nums s)).1 = 0 := by
  obtain ⟨h1, h2, h3⟩ := asI_back (nums s) h
  unfold intE intX
  rw [if_pos ⟨h2, h3⟩, if_pos ⟨h2, h3⟩, h1, strOfNums_nums]
  exact ⟨rfl, rfl⟩
set_option maxHeartbeats 1600000 in
theorem forms16_law (s : ByteArray) (w : World) : Calls Try.prog 7 #[.string s] w fun e w' => e = .returned (.bool true) ∧ Below w.heap.size w w' := by
  have H1 := hide (asint_any (.mk 0 false 0 s []) _ w (plain_V w 0 0 s none 0))
  rw [show asIE (.mk 0 false 0 s []) = asI (nums s) from rfl] at H1
  have HA := hide awake16
  by_cases hx : (asI (nums s)).2 = 0
  · have H2 := hide (fun w2 => int_any 0 2 (asI (nums s)).1 w2)
    obtain ⟨e1, e2⟩ := int_of_read s hx
    rw [e1, e2] at H2
    rw [hx] at H1
    have zs : (s.toList == s.toList) = true := by simp
    clear e1 e2 hx
    generalize (asI (nums s)).1 = n at *
    go_enter Try.func7, Try.ntmps7
    go_wp2_with (first
      | (go_at_call 15; refine (unhide HA _).mono ?_; rintro r w3 ⟨rfl, b3⟩)
      | (go_at_call 8; refine (unhide H2 _).mono ?_; rintro r w2 ⟨v2, rfl, p2, b2⟩; obtain ⟨a2, c2, rfl⟩ : ∃ ad cap, v2 = .agg #[.int .i64 0, .bool false, .int .i64 2, .string s, .slice ad 0 cap] := ElP.shape p2; have T2 := hide (bel_one (below_next (unhide T1) b2) (.cells #[.int .i64 0, .bool false, .int .i64 2, .string s, .slice a2 0 c2] 26)); clear p2 b2)
      | (go_at_call 20; refine (unhide H1).mono ?_; rintro r w1 ⟨rfl, b1⟩; have T1 := hide b1; clear b1))
    go_ret
    exact ⟨rfl, below_next (unhide T2) b3⟩
  · have e0 := asI_err (nums s) hx
    rw [e0] at H1
    clear e0 hx
    go_enter Try.func7, Try.ntmps7
    go_wp2_with (first
      | (go_at_call 15; refine (unhide HA _).mono ?_; rintro r w3 ⟨rfl, b3⟩)
      | (go_at_call 20; refine (unhide H1).mono ?_; rintro r w1 ⟨rfl, b1⟩; have T1 := hide b1; clear b1))
    go_ret
    exact ⟨rfl, below_next (unhide T1) b3⟩
end Go.Proofs.Ytcboggoindhmkaa
