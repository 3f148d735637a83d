/- The law DnParses of layer 18. -/
import Derived.Test.YtnhojjheoafhaaaDoorAw18
import Derived.Test.YtnhojjheoafhaaaDoorRSam18
import Derived.Test.YtnhojjheoafhaaaDoorRPs18
namespace Go.Proofs.YtnhojjheoafhaaaDoor
set_option maxRecDepth 100000
open Go.RowKit

theorem one_name {w : World} {rv : Value} {r : List Pr} (h : PsV w rv r) (T : TypeId) : NmV (w.alloc (.cells #[rv] T)) (.slice (some ⟨w.heap.size, 0, none⟩) 1 1) [r] := by
  refine ⟨_, _, rfl, Nat.le_refl _, by simp, fun _ => ⟨w.heap.size, 0, rfl, fun j hj => ?_⟩⟩
  have e : j = 0 := by simp at hj; omega
  subst e
  refine ⟨rv, ?_, h.below (Below.one _ _)⟩
  rw [World.cell?_alloc_mark]
  rfl
theorem two_names {w : World} {v u : Value} {r : List Pr} (h : PsV w v r) (h2 : PsV w u r) (T : TypeId) : NmV ((w.alloc (.cells #[v] T)).alloc (.cells #[u] T)) (.slice (some ⟨w.heap.size, 0, none⟩) 1 1) [r] ∧ NmV ((w.alloc (.cells #[v] T)).alloc (.cells #[u] T)) (.slice (some ⟨w.heap.size + 1, 0, none⟩) 1 1) [r] := by
  refine ⟨(one_name h T).below (Below.one _ _), ?_⟩
  have := one_name (h2.below (Below.one w (.cells #[v] T))) T
  rwa [World.size_alloc] at this
set_option maxHeartbeats 3200000 in
theorem parses18_law (s : ByteArray) (w : World) (hL : Ly w) : Calls Tryd.prog 3 #[.string s] w fun e w' => e = .returned (.bool true) ∧ Below w.heap.size w w' := by
  have C1 := hide (parse_any s w hL)
  have C2 := hide (rdparse_any s)
  have C3 := hide (fun W h => rdn_any s W h)
  have C4 := hide (rdrdn_any s)
  have CA := hide awake18
  have HL := hide hL
  clear hL
  generalize rdnN (nums s) = r at *
  generalize rdnE (nums s) = y at *
  generalize parN (nums s) = n at *
  generalize parE (nums s) = x at *
  have C5 := hide (fun v u W h1 h2 => rsame_any v u n n W h1 h2)
  rw [(eqN_iff n n).2 rfl] at C5
  have C6 := hide (fun v u W h1 h2 => rsame_any v u [r] [r] W h1 h2)
  rw [(eqN_iff [r] [r]).2 rfl] at C6
  have ex : (x == x) = true := by simp
  have ey : (y == y) = true := by simp
  go_enter Tryd.func3, Tryd.ntmps3
  go_wp2_with (first
    | (go_at_call 9; refine (unhide CA _ ((unhide HL).keep b6)).mono ?_; rintro e w7 ⟨rfl, b7⟩; have bb := b6.trans (b7.mono b6.size))
    | (go_at_call 8; have M6 := F5; refine (unhide C6 _ _ _ (unhide N1) (unhide N2)).mono ?_; rintro e w6 ⟨rfl, g6⟩; have b6 := b5x.trans (g6.below.mono b5x.size))
    | (go_at_call 8; refine (unhide C5 _ _ _ (unhide H1d) (unhide H2d)).mono ?_; rintro e w5 ⟨rfl, g5⟩; have b5 := b4.trans (g5.below.mono b4.size); have F5 := trivial; have P3 := hide ((unhide H3d).below g5.below); have P4 := hide ((unhide H4).below g5.below); have N12 := two_names (unhide P3) (unhide P4) 30; have N1 := hide N12.1; have N2 := hide N12.2; clear N12; have b5y := b5.alloc b5.size (.cells #[.slice a3 r.length c3] 30); have b5x := b5y.alloc b5y.size (.cells #[.slice a4 r.length c4] 30))
    | (go_at_call 7; refine (unhide C4 _).mono ?_; rintro e w4 ⟨v4, rfl, h4, b34⟩; obtain ⟨a4, c4, rfl⟩ := h4.shape; have H4 := hide h4; clear h4; have H3d := hide ((unhide H3).below b34); have H2d := hide ((unhide H2c).below b34); have H1d := hide ((unhide H1c).below b34); have b4 := b3.trans (b34.mono b3.size))
    | (go_at_call 6; refine (unhide C3 _ ((unhide HL).keep b2)).mono ?_; rintro e w3 ⟨v3, rfl, h3, b23⟩; obtain ⟨a3, c3, rfl⟩ := h3.shape; have H3 := hide h3; clear h3; have H2c := hide ((unhide H2).below b23); have H1c := hide ((unhide H1b).below b23); have b3 := b2.trans (b23.mono b2.size))
    | (go_at_call 5; refine (unhide C2 _).mono ?_; rintro e w2 ⟨v2, rfl, h2, b12⟩; have H2 := hide h2; clear h2; have H1b := hide ((unhide H1).below b12); have b2 := b1.trans (b12.mono b1.size))
    | (go_at_call 4; refine (unhide C1).mono ?_; rintro e w1 ⟨v1, rfl, h1, b1⟩; have H1 := hide h1; clear h1))
  go_ret
  exact ⟨rfl, bb⟩
end Go.Proofs.YtnhojjheoafhaaaDoor
