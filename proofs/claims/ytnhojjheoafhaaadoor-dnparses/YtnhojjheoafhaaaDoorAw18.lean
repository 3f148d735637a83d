/- The probe of layer 18's laws. -/
import Derived.Test.YtnhojjheoafhaaaDoorDp18
import Derived.Test.YtnhojjheoafhaaaDoorDf18
import Derived.Test.YtnhojjheoafhaaaDoorEq18
namespace Go.Proofs.YtnhojjheoafhaaaDoor
set_option maxRecDepth 100000
open Go.RowKit

/-- The probe's name. -/
def nmA : List (List Pr) := [[⟨⟨#[99, 110]⟩, ⟨#[97, 44, 98]⟩⟩, ⟨⟨#[115, 110]⟩, ⟨#[32, 99]⟩⟩], [⟨⟨#[111]⟩, ⟨#[100]⟩⟩]]
theorem awA : parN (nums ⟨#[67, 78, 61, 97, 92, 44, 98, 43, 115, 110, 61, 92, 32, 99, 44, 111, 61, 100]⟩) = nmA ∧ parE (nums ⟨#[67, 78, 61, 97, 92, 44, 98, 43, 115, 110, 61, 92, 32, 99, 44, 111, 61, 100]⟩) = 0 := ⟨by kernel_rfl, by kernel_rfl⟩
theorem awB : parN (nums ⟨#[99, 110, 61, 32, 97]⟩) = [] ∧ parE (nums ⟨#[99, 110, 61, 32, 97]⟩) = 220 := ⟨by kernel_rfl, by kernel_rfl⟩
theorem awS : shS nmA = ⟨#[99, 110, 61, 97, 92, 44, 98, 43, 115, 110, 61, 92, 32, 99, 44, 111, 61, 100]⟩ ∧ chkN nmA = 0 := ⟨by kernel_rfl, by kernel_rfl⟩
theorem awU : abB nmA = true ∧ abN nmA = [[⟨⟨#[111]⟩, ⟨#[100]⟩⟩]] := ⟨by kernel_rfl, by kernel_rfl⟩
theorem awW : wrdB (nums ⟨#[97, 45, 49]⟩) = true ∧ wrdB (nums ⟨#[65]⟩) = false := ⟨by kernel_rfl, by kernel_rfl⟩
theorem nmA_open {w : World} {v : Value} {X Y V : ByteArray} (hX : X = ⟨#[99, 110]⟩) (hY : Y = ⟨#[97, 44, 98]⟩) (hV : V = ⟨#[32, 99]⟩) (h : NmV w v nmA) : ∃ bb off xc b2 off2 cap2, v = .slice (some ⟨bb, off, none⟩) 2 xc ∧ w.cell? ⟨bb, off, none⟩ = some (.slice (some ⟨b2, off2, none⟩) 2 cap2) ∧ w.cell? ⟨b2, off2, none⟩ = some (.string X) ∧ w.cell? ⟨b2, off2 + 1, none⟩ = some (.string Y) ∧ w.cell? ⟨b2, off2 + 2 + 1, none⟩ = some (.string V) := by
  subst hX hY hV
  obtain ⟨a1, cap1, rfl, _, _, hc1⟩ := h
  obtain ⟨bb, off, rfl, hce⟩ := hc1 (by decide)
  obtain ⟨rv, q0, a2, cap2, rfl, _, hc2⟩ := hce 0 (by decide)
  obtain ⟨b2, off2, rfl, hcp⟩ := hc2 (by decide)
  obtain ⟨p00, p01⟩ := hcp 0 (by decide)
  obtain ⟨_, p11⟩ := hcp 1 (by decide)
  exact ⟨bb, off, cap1, b2, off2, cap2, rfl, q0, p00, p01, p11⟩
set_option maxHeartbeats 1600000 in
theorem awake18 (w : World) (hL : Ly w) : Calls Tryd.prog 9 #[] w fun e w' => e = .returned (.bool true) ∧ Below w.heap.size w w' := by
  have C1 := hide (parse_any ⟨#[67, 78, 61, 97, 92, 44, 98, 43, 115, 110, 61, 92, 32, 99, 44, 111, 61, 100]⟩ w hL)
  rw [awA.1, awA.2] at C1
  have C2 := hide (fun v W h => show_any v nmA W h)
  rw [awS.2] at C2
  have hS : ((shS nmA).toList == [99, 110, 61, 97, 92, 44, 98, 43, 115, 110, 61, 92, 32, 99, 44, 111, 61, 100]) = true := by rw [awS.1]; kernel_rfl
  generalize shS nmA = S at *
  obtain ⟨X, hX⟩ : ∃ X : ByteArray, X = ⟨#[99, 110]⟩ := ⟨_, rfl⟩
  obtain ⟨Y, hY⟩ : ∃ X : ByteArray, X = ⟨#[97, 44, 98]⟩ := ⟨_, rfl⟩
  obtain ⟨V, hV⟩ : ∃ X : ByteArray, X = ⟨#[32, 99]⟩ := ⟨_, rfl⟩
  have hVV : (V.toList == [32, 99]) = true := by rw [hV]; kernel_rfl
  have HOP : Hid (∀ {w : World} {v : Value}, NmV w v nmA → ∃ bb off xc b2 off2 cap2, v = .slice (some ⟨bb, off, none⟩) 2 xc ∧ w.cell? ⟨bb, off, none⟩ = some (.slice (some ⟨b2, off2, none⟩) 2 cap2) ∧ w.cell? ⟨b2, off2, none⟩ = some (.string X) ∧ w.cell? ⟨b2, off2 + 1, none⟩ = some (.string Y) ∧ w.cell? ⟨b2, off2 + 2 + 1, none⟩ = some (.string V)) := fun h => nmA_open hX hY hV h
  have C3 := hide (fun v W h => above_any v nmA W h)
  rw [awU.1, awU.2] at C3
  have C4 := hide (fun W h => parse_any ⟨#[99, 110, 61, 32, 97]⟩ W h)
  rw [awB.1, awB.2] at C4
  have C5 := hide (word_any ⟨#[97, 45, 49]⟩)
  rw [awW.1] at C5
  have C6 := hide (word_any ⟨#[65]⟩)
  rw [awW.2] at C6
  have HL := hide hL
  clear hL
  have hgd := pair_guard
  have heq : ∀ w, (binOp .eql 44 (.agg #[.string X, .string Y]) (.agg #[.string ⟨#[99, 110]⟩, .string ⟨#[97, 44, 98]⟩])).run Tryd.prog w = .ok (.bool true) w := fun w => (eql_pair _ _ _ _ w).trans (by rw [(eqT_iff _ _).2 hX, (eqT_iff _ _).2 hY]; rfl)
  clear hX hY hV
  go_enter Tryd.func9, Tryd.ntmps9
  go_wp2_with (first
    | (go_at_call 17; have M6 := M5; refine (unhide C6 _).mono ?_; rintro e w6 ⟨rfl, rfl⟩)
    | (go_at_call 17; refine (unhide C5 _).mono ?_; rintro e w5 ⟨rfl, rfl⟩; clear C5; have M5 := trivial)
    | (go_at_call 4; refine (unhide C4 _ ((unhide HL).keep b3)).mono ?_; rintro e w4 ⟨v4, rfl, h4, b4'⟩; clear h4; have b4 := b3.trans (b4'.mono b3.size); obtain ⟨bb, off, xc2, b2', off2, cap2, hvv, q0, p00, p01, p11⟩ := unhide HOP (((unhide HV).below g3').below b4'); cases hvv)
    | (go_at_call 16; refine (unhide C3 _ _ ((unhide HV).below b2'')).mono ?_; rintro e w3 ⟨v3, rfl, h3, g3⟩; obtain ⟨a3, c3, rfl⟩ := h3.shape; clear h3; have b3 := b2.trans (g3.mono b2.size); have g3' := b2''.trans (g3.mono b2''.size))
    | (go_at_call 15; refine (unhide C2 _ _ (unhide HV)).mono ?_; rintro e w2 ⟨rfl, b2''⟩; have b2 := b1.trans (b2''.mono b1.size))
    | (go_at_call 4; refine (unhide C1).mono ?_; rintro e w1 ⟨v1, rfl, h1, b1⟩; obtain ⟨xa, xo, xc, _, _, _, rfl, _⟩ := unhide HOP h1; have HV := hide h1; clear h1))
  go_ret
  exact ⟨rfl, b4⟩
end Go.Proofs.YtnhojjheoafhaaaDoor
