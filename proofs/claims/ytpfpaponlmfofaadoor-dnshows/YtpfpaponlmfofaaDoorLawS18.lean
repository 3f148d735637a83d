/- The law DnShows of layer 18. -/
import Derived.Test.YtpfpaponlmfofaaDoorAw18
import Derived.Test.YtpfpaponlmfofaaDoorRShw18
import Derived.Test.YtpfpaponlmfofaaDoorFew18
namespace Go.Proofs.YtpfpaponlmfofaaDoor
set_option maxRecDepth 100000
open Go.RowKit

theorem rsh_same (n : List (List Pr)) : rshS n = shS n ∧ rshE n = chkN n := by
  unfold rshS rshE shS chkN
  cases okN n <;> exact ⟨rfl, rfl⟩
set_option maxHeartbeats 3200000 in
theorem shows18_law (v : Value) (n : List (List Pr)) (s : ByteArray) (w : World) (hL : Ly w) (hV : NmV w v n) : Calls Tryd.prog 3 #[v, .string s] w fun e w' => e = .returned (.bool true) ∧ Below w.heap.size w w' := by
  have CF := hide (few_any v n w hV)
  have CA := hide awake18
  have HL := hide hL
  have C1 := hide (show_any v n w hV)
  have C2 := hide (fun W hb => rshow_any v n W (hV.below hb))
  rw [(rsh_same n).1, (rsh_same n).2] at C2
  have C3 := hide (fun W hb => check_any v n W (hV.below hb))
  have C4 := hide (fun W hb => (rcheck_any v n W (hV.below hb)).mono fun _ _ ⟨a, b⟩ => (⟨a, b.symm⟩ : _ ∧ W = _))
  have C5 := hide (word_any s)
  have C6 := hide (fun W => (rword_any s W).mono fun _ _ ⟨a, b⟩ => (⟨a, b.symm⟩ : _ ∧ W = _))
  clear hL hV
  cases hf : fewN n <;> rw [hf] at CF
  · clear hf C1 C2 C3 C4 C5 C6
    go_enter Tryd.func3, Tryd.ntmps3
    go_wp2_with (first
      | (go_at_call 10; refine (unhide CA _ (unhide HL)).mono ?_; rintro e w5 ⟨rfl, b5⟩)
      | (go_at_call 9; refine (unhide CF).mono ?_; rintro e w1 ⟨rfl, rfl⟩))
    go_ret
    exact ⟨rfl, b5⟩
  clear hf
  by_cases hz : 10000 < s.size
  · have z : 10000 < (s.size : Int) := by omega
    clear C1 C2 C3 C4 C5 C6
    go_enter Tryd.func3, Tryd.ntmps3
    go_wp2_with (first
      | (go_at_call 10; refine (unhide CA _ (unhide HL)).mono ?_; rintro e w5 ⟨rfl, b5⟩)
      | (go_at_call 9; refine (unhide CF).mono ?_; rintro e w1 ⟨rfl, rfl⟩))
    go_ret
    exact ⟨rfl, b5⟩
  have z : ¬ 10000 < (s.size : Int) := by omega
  generalize shS n = S at *
  generalize chkN n = x at *
  generalize wrdB (nums s) = q at *
  have eS : (S.toList == S.toList) = true := by simp
  have ex : (x == x) = true := by simp
  have eq : (q == q) = true := by simp
  go_enter Tryd.func3, Tryd.ntmps3
  go_wp2_with (first
    | (go_at_call 10; refine (unhide CA _ ((unhide HL).keep b3)).mono ?_; rintro e w6 ⟨rfl, b6⟩; have bb := b3.trans (b6.mono b3.size))
    | (go_at_call 16; refine (unhide C6 _).mono ?_; rintro e w5 ⟨rfl, rfl⟩)
    | (go_at_call 15; refine (unhide C5 _).mono ?_; rintro e w5 ⟨rfl, rfl⟩)
    | (go_at_call 14; refine (unhide C4 _ b3).mono ?_; rintro e w4 ⟨rfl, rfl⟩)
    | (go_at_call 13; refine (unhide C3 _ b2).mono ?_; rintro e w3 ⟨rfl, g3⟩; have b3 := b2.trans (g3.below.mono b2.size))
    | (go_at_call 12; refine (unhide C2 _ b1).mono ?_; rintro e w2 ⟨rfl, b12⟩; have b2 := b1.trans (b12.mono b1.size))
    | (go_at_call 11; refine (unhide C1).mono ?_; rintro e w1 ⟨rfl, b1⟩)
    | (go_at_call 9; refine (unhide CF).mono ?_; rintro e w1 ⟨rfl, rfl⟩))
  go_ret
  exact ⟨rfl, bb⟩
end Go.Proofs.YtpfpaponlmfofaaDoor
