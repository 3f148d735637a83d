/- The probe of layer 20's laws. -/
import Derived.Test.YtoaoplfbnjajiaaD20
namespace Go.Proofs.Ytoaoplfbnjajiaa
open Go.RowKit

/-- The cells of types. -/
def flatT : List Ty → List Value
  | [] => []
  | a :: t => .string a.nam :: .string a.abv :: .int .i64 a.syn :: .int .i64 a.rul :: .bool a.sgl :: .bool a.cls :: flatT t
theorem flat_at : ∀ (l : List Ty) (j : Nat), j < l.length → (flatT l)[j * 6]? = some (.string (l.getD j ty0).nam) ∧ (flatT l)[j * 6 + 1]? = some (.string (l.getD j ty0).abv) ∧ (flatT l)[j * 6 + 2]? = some (.int .i64 (l.getD j ty0).syn) ∧ (flatT l)[j * 6 + 3]? = some (.int .i64 (l.getD j ty0).rul) ∧ (flatT l)[j * 6 + 4]? = some (.bool (l.getD j ty0).sgl) ∧ (flatT l)[j * 6 + 5]? = some (.bool (l.getD j ty0).cls)
  | [], j, h => by simp at h
  | p :: t, 0, _ => by simp [flatT]
  | p :: t, j + 1, h => by
    have := flat_at t j (by simpa using h)
    rw [show (j + 1) * 6 = j * 6 + 6 by omega]
    simpa [flatT] using this
theorem tys_of {W : World} {l : List Ty} {cs : Array Value} {T : TypeId} {v : Value} (hv : v = .slice (some ⟨W.heap.size, 0, none⟩) l.length l.length) (hl : l.length ≤ 9223372036854775807) (hcs : cs.toList = flatT l) : TysV (W.alloc (.cells cs T)) v l := by
  subst hv
  refine ⟨_, _, rfl, ⟨Nat.le_refl _, hl⟩, fun _ => ⟨W.heap.size, 0, rfl, fun j hj => ?_⟩⟩
  have hc : ∀ o, (W.alloc (.cells cs T)).cell? ⟨W.heap.size, o, none⟩ = (flatT l)[o]? := fun o => by
    rw [World.cell?_alloc_mark, ← hcs]
    simp
  obtain ⟨h0, h1, h2, h3, h4, h5⟩ := flat_at l j hj
  rw [Nat.zero_add]
  exact ⟨(hc _).trans h0, (hc _).trans h1, (hc _).trans h2, (hc _).trans h3, (hc _).trans h4, (hc _).trans h5⟩
theorem ts_of {W : World} {l : List ByteArray} {cs : Array Value} {T : TypeId} {v : Value} (hv : v = .slice (some ⟨W.heap.size, 0, none⟩) l.length l.length) (hl : l.length ≤ 9223372036854775807) (hcs : cs.toList = l.map Value.string) : TsV (W.alloc (.cells cs T)) v l := by
  subst hv
  refine ⟨_, _, rfl, ⟨Nat.le_refl _, hl⟩, fun _ => ⟨W.heap.size, 0, rfl, fun j hj => ?_⟩⟩
  rw [World.cell?_alloc_mark, Nat.zero_add]
  have : cs.toList[j]? = some (.string (l.getD j te)) := by rw [hcs]; simp [List.getD, hj]
  simpa using this
def tcn : ByteArray := ⟨#[99, 110]⟩
def tnm : ByteArray := ⟨#[110, 97, 109, 101]⟩
def tsn : ByteArray := ⟨#[115, 110]⟩
def ta : ByteArray := ⟨#[97]⟩
/-- The law's three types; one above itself. -/
def ty3 : List Ty := [⟨tcn, tnm, 1, 2, false, false⟩, ⟨tnm, te, 1, 2, false, false⟩, ⟨tsn, tnm, 1, 1, false, false⟩]
def ty1 : List Ty := [⟨ta, ta, 1, 0, false, false⟩]
theorem types_any (w : World) : Calls Try.prog 23 #[] w fun e w' => ∃ u, e = .returned u ∧ TysV w' u ty3 ∧ Below w.heap.size w w' := by
  go_enter Try.func23, Try.ntmps23
  go_wp2
  go_ret
  refine ⟨_, rfl, ?_, Below.one _ _⟩
  exact tys_of (by rfl) (by decide) (by rfl)
theorem aw_chk : chkT ty3 = 0 ∧ chkT ty1 = 190 := ⟨by kernel_rfl, by kernel_rfl⟩
theorem aw_few : fewT ty3 = true ∧ fewT ty1 = true := ⟨by kernel_rfl, by kernel_rfl⟩
theorem aw_fnd : ((fndA ty3 tcn).abv.toList == [110, 97, 109, 101]) = true ∧ fndB ty3 tcn = true := ⟨by kernel_rfl, by kernel_rfl⟩
theorem aw_lin : decide (lineT ty3 tcn = [tcn, tnm]) = true := by kernel_rfl
theorem aw_bel : (belT ty3 [tnm]).length = 3 := by kernel_rfl
theorem aw_is : isT ty3 tsn tnm = true ∧ isT ty3 tnm tsn = false := ⟨by kernel_rfl, by kernel_rfl⟩
theorem aw_rul : (rulL 10).length = 3 := by kernel_rfl
set_option maxHeartbeats 3200000 in
theorem awake20 (w : World) (hL : Ly w) : Calls Try.prog 8 #[] w fun e w' => e = .returned (.bool true) ∧ Below w.heap.size w w' := by
  have C0 := hide (types_any w)
  have C1 := hide (fun v W (h : Ly W) hV => afind_any v ty3 tcn W h aw_few.1 hV)
  have C2 := hide (fun v W (h : Ly W) hV => acheck_any v ty3 W h aw_few.1 hV)
  have C3 := hide (fun v W (h : Ly W) hV => aline_any v ty3 tcn W h aw_few.1 hV)
  have C4 := hide (fun u v W h1 h2 => rsm_any u v (lineT ty3 tcn) [tcn, tnm] W h1 h2)
  have C5 := hide (fun v u W (h : Ly W) hV hN => abel_any v u ty3 [tnm] W h aw_few.1 hV hN (by decide))
  have C6 := hide (fun v W (h : Ly W) hV => ais_any v ty3 tsn tnm W h aw_few.1 hV)
  have C7 := hide (fun v W (h : Ly W) hV => ais_any v ty3 tnm tsn W h aw_few.1 hV)
  have C8 := hide (fun v W (h : Ly W) hV => acheck_any v ty1 W h aw_few.2 hV)
  have C9 := hide (fun W (h : Ly W) => arul_any 10 W h)
  rw [aw_fnd.2] at C1
  rw [aw_chk.1] at C2
  rw [aw_lin] at C4
  rw [aw_is.1] at C6
  rw [aw_is.2] at C7
  rw [aw_chk.2] at C8
  have hy := aw_fnd.1
  have hbl := aw_bel
  have hrl := aw_rul
  unfold aggV at C1
  generalize fndA ty3 tcn = y at *
  generalize lineT ty3 tcn = L at *
  generalize belT ty3 [tnm] = M at *
  generalize rulL 10 = Z at *
  have zb : (M.length : Int) = 3 := by omega
  have zr : (Z.length : Int) = 3 := by omega
  have ecn : tcn = ⟨#[99, 110]⟩ := rfl
  have enm : tnm = ⟨#[110, 97, 109, 101]⟩ := rfl
  have esn : tsn = ⟨#[115, 110]⟩ := rfl
  have HTS : Hid (∀ W : World, TsV (W.alloc (.cells #[.string ⟨#[99, 110]⟩, .string ⟨#[110, 97, 109, 101]⟩] 9)) (.slice (some ⟨W.heap.size, 0, none⟩) 2 2) [tcn, tnm]) := fun W => ts_of (by rfl) (by decide) (by rfl)
  have HT1 : Hid (∀ W : World, TsV (W.alloc (.cells #[.string ⟨#[110, 97, 109, 101]⟩] 9)) (.slice (some ⟨W.heap.size, 0, none⟩) 1 1) [tnm]) := fun W => ts_of (by rfl) (by decide) (by rfl)
  have HTY : Hid (∀ W : World, TysV (W.alloc (.cells #[.string ⟨#[97]⟩, .string ⟨#[97]⟩, .int .i64 1, .int .i64 0, .bool false, .bool false] 26)) (.slice (some ⟨W.heap.size, 0, none⟩) 1 1) ty1) := fun W => tys_of (by rfl) (by decide) (by rfl)
  generalize ty3 = T3 at *
  generalize ty1 = T1 at *
  have HL := hide hL
  clear hL hbl hrl
  generalize hA : [tcn, tnm] = A at *
  generalize hB : [tnm] = B at *
  clear hA hB
  rw [ecn] at C1 C3
  rw [enm, esn] at C6 C7
  clear ecn enm esn
  go_enter Try.func8, Try.ntmps8
  go_wp2_with (first
    | (go_at_call 14; refine (unhide C9 _ ((unhide HL).keep t8)).mono ?_; rintro e w9 ⟨u9, rfl, hu9, b9⟩; obtain ⟨ra, rc, rfl, _⟩ := hu9; have t9 := t8.trans (b9.mono t8.size))
    | (go_at_call 11; have M8 := F7; refine (unhide C8 _ _ ((unhide HL).keep t7x) (unhide HTY w7)).mono ?_; rintro e w8 ⟨rfl, b8⟩; have t8 := t7x.trans (b8.mono t7x.size))
    | (go_at_call 16; have M7 := F6; refine (unhide C7 _ _ ((unhide HL).keep t6) (unhide V6)).mono ?_; rintro e w7 ⟨rfl, b7⟩; have t7 := t6.trans (b7.mono t6.size); have t7x := t7.alloc t7.size (.cells #[.string ⟨#[97]⟩, .string ⟨#[97]⟩, .int .i64 1, .int .i64 0, .bool false, .bool false] 26); have F7 := trivial)
    | (go_at_call 16; refine (unhide C6 _ _ ((unhide HL).keep t5) (unhide V5)).mono ?_; rintro e w6 ⟨rfl, b6⟩; have t6 := t5.trans (b6.mono t5.size); have V6 := hide ((unhide V5).below b6); have F6 := trivial)
    | (go_at_call 21; refine (unhide C5 _ _ _ ((unhide HL).keep t4x) (unhide V4x) (unhide HT1 w4)).mono ?_; rintro e w5 ⟨u5, rfl, hu5, b5⟩; obtain ⟨qa, qc, rfl, _⟩ := hu5; have t5 := t4x.trans (b5.mono t4x.size); have V5 := hide ((unhide V4x).below b5))
    | (go_at_call 18; refine (unhide C4 _ _ _ (unhide U3x) (unhide HTS w3)).mono ?_; rintro e w4 ⟨rfl, b4⟩; have t4 := t3x.trans (b4.mono t3x.size); have t4x := t4.alloc t4.size (.cells #[.string ⟨#[110, 97, 109, 101]⟩] 9); have V4x := hide (((unhide V3x).below b4).below (Below.one w4 (.cells #[.string ⟨#[110, 97, 109, 101]⟩] 9))))
    | (go_at_call 19; refine (unhide C3 _ _ ((unhide HL).keep t2) (unhide V2)).mono ?_; rintro e w3 ⟨u3, rfl, hu3, b3⟩; obtain ⟨la, lc, rfl, hla⟩ := hu3; have hu3 : TsV w3 (.slice la L.length lc) L := ⟨la, lc, rfl, hla⟩; have U3x := hide (hu3.below (Below.one w3 (.cells #[.string ⟨#[99, 110]⟩, .string ⟨#[110, 97, 109, 101]⟩] 9))); have t3 := t2.trans (b3.mono t2.size); have t3x := t3.alloc t3.size (.cells #[.string ⟨#[99, 110]⟩, .string ⟨#[110, 97, 109, 101]⟩] 9); have V3x := hide (((unhide V2).below b3).below (Below.one w3 (.cells #[.string ⟨#[99, 110]⟩, .string ⟨#[110, 97, 109, 101]⟩] 9))); clear hla hu3)
    | (go_at_call 11; refine (unhide C2 _ _ ((unhide HL).keep t1x) (unhide V1x)).mono ?_; rintro e w2 ⟨rfl, b2⟩; have t2 := t1x.trans (b2.mono t1x.size); have V2 := hide ((unhide V1x).below b2); have cb := ((unhide HBX).keep b2).cells.2.1; simp only [Nat.zero_add] at cb)
    | (go_at_call 9; refine (unhide C1 _ _ ((unhide HL).keep t0) (unhide V0)).mono ?_; rintro e w1 ⟨rfl, b1⟩; have t1 := t0.trans (b1.mono t0.size); have t1x := t1.alloc t1.size (.cells #[.string y.nam, .string y.abv, .int .i64 y.syn, .int .i64 y.rul, .bool y.sgl, .bool y.cls] 26); have V1x := hide (((unhide V0).below b1).below (Below.one w1 (.cells #[.string y.nam, .string y.abv, .int .i64 y.syn, .int .i64 y.rul, .bool y.sgl, .bool y.cls] 26))); have HBX : Hid (Bt w1.heap.size y (w1.alloc (.cells #[.string y.nam, .string y.abv, .int .i64 y.syn, .int .i64 y.rul, .bool y.sgl, .bool y.cls] 26))) := (heap_new w1 _))
    | (go_at_call 23; refine (unhide C0).mono ?_; rintro e w0 ⟨u0, rfl, hu0, t0⟩; obtain ⟨va, vc, hva⟩ := hu0.shape; subst hva; have V0 := hide hu0; clear hu0))
  go_ret
  exact ⟨rfl, t9⟩
end Go.Proofs.Ytoaoplfbnjajiaa
