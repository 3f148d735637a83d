/- The law SpanBuilds. -/
import Derived.Test.YtnlkefdicpeemaaRBuild
import Derived.Test.YtnlkefdicpeemaaLawLast
import Derived.Test.YtnlkefdicpeemaaSame
namespace Go.Proofs.Ytnlkefdicpeemaa
open Go.RowKit

/-- The document's Build, of spans that may be. -/
theorem rbuild_all (v : Value) (l : List Sp) (w : World) (h : Tab w v l) (hl : l.length ≤ 200) (hm : allMay l = true) :
    Calls Try.prog 16 #[v] w fun e w' => ∃ (u : Value) (t : List Sp), e = .returned (.tuple #[u, .int .i64 0]) ∧ Hid (isTb t ∧ ∀ r, fnd t r = lastV l r) ∧ Hid (Tab w' u t) ∧ Below w.heap.size w w' := by
  obtain ⟨a, c, rfl, hc⟩ := h
  exact rbuild_some l a c w hl hm hc

set_option maxHeartbeats 1600000 in
theorem builds_law (v : Value) (l : List Sp) (w : World) (hT : Tab w v l) :
    Calls Try.prog 4 #[v] w fun e w' => e = .returned (.bool true) ∧ Below w.heap.size w w' := by
  have HA := hide awake_any
  by_cases h7 : 700 < l.length
  · obtain ⟨a, c, rfl, -⟩ := hT
    have hz : (700 : Int) < (l.length : Int) := by omega
    go_enter Try.func4, Try.ntmps4
    go_wp2_with (go_at_call 8; refine (unhide HA _).mono ?_; rintro e w7 ⟨rfl, hb7⟩)
    go_ret
    exact ⟨rfl, hb7⟩
  · have hz : ¬ (700 : Int) < (l.length : Int) := by omega
    by_cases hno : 200 < l.length ∨ allMay l = false
    · have HB := hide (build_no v l w hT hno)
      have HR := hide (fun W (hW : Gr w W) => rbuild_no v l W (hW.tab hT) hno)
      have HS : Hid (∀ W, Calls Try.prog 17 #[.slice none 0 0, .slice none 0 0] W fun e w' => e = .returned (.bool true) ∧ Gr W w') := fun W => rsame_none none none 0 0 W
      obtain ⟨a, c, rfl, -⟩ := hT
      go_enter Try.func4, Try.ntmps4
      go_wp2_with (first
        | (go_at_call 15; refine (unhide HB).mono ?_; rintro e w1 ⟨rfl, g1⟩)
        | (go_at_call 16; refine (unhide HR _ g1).mono ?_; rintro e w2 ⟨rfl, g2⟩; have g12 := g1.trans g2)
        | (go_at_call 17; refine (unhide HS _).mono ?_; rintro e w3 ⟨rfl, g3⟩; have g13 := g12.trans g3)
        | (go_at_call 8; refine (unhide HA _).mono ?_; rintro e w7 ⟨rfl, hb7⟩))
      go_ret
      exact ⟨rfl, below_on2 g13.below hb7⟩
    · have hl : l.length ≤ 200 := by omega
      have hm : allMay l = true := by
        cases h : allMay l with
        | true => rfl
        | false => exact absurd (.inr h) hno
      have HB := hide (build_all v l w hT hl hm)
      have HR := hide (fun W (hW : Below w.heap.size w W) => rbuild_all v l W (hT.below hW) hl hm)
      have HS : Hid (∀ (u u2 : Value) (t t2 : List Sp) (W : World), Hid (isTb t ∧ t.length ≤ 500 ∧ ∀ r, fnd t r = lastV l r) → Hid (isTb t2 ∧ ∀ r, fnd t2 r = lastV l r) → Tab W u t → Tab W u2 t2 → Calls Try.prog 17 #[u, u2] W fun e w' => e = .returned (.bool true) ∧ Gr W w') := fun u u2 t t2 W h1 h2 h3 h4 => by
        have e := tb_unique t t2 (unhide h1).1 (unhide h2).1 (fun r => by rw [(unhide h1).2.2 r, (unhide h2).2 r])
        subst e
        have := rsame_any u u2 t t W h3 h4 (by have := (unhide h1).2.1; omega)
        rwa [eqL_true rfl] at this
      clear hno hm
      obtain ⟨a, c, rfl, hc⟩ := hT
      clear hc
      go_enter Try.func4, Try.ntmps4
      go_wp2_with (first
        | (go_at_call 15; refine (unhide HB).mono ?_; rintro e w1 ⟨u, t, rfl, HT, HU, hb1⟩)
        | (go_at_call 16; refine (unhide HR _ hb1).mono ?_; rintro e w2 ⟨u2, t2, rfl, HT2, HU2, hb2⟩; have hb12 := below_on2 hb1 hb2; have HU12 := hide ((unhide HU).below hb2))
        | (go_at_call 17; refine (unhide HS _ _ _ _ _ HT HT2 (unhide HU12) (unhide HU2)).mono ?_; rintro e w3 ⟨rfl, g3⟩; have hb13 := below_gr2 hb12 g3)
        | (go_at_call 8; refine (unhide HA _).mono ?_; rintro e w7 ⟨rfl, hb7⟩))
      go_ret
      exact ⟨rfl, below_on2 hb13 hb7⟩
end Go.Proofs.Ytnlkefdicpeemaa
