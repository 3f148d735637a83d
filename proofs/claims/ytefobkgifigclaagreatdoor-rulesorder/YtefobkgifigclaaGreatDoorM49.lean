/- The law RulesOrder, out of the landed contracts. -/
import Derived.Test.YtefobkgifigclaaGreatDoorM41
import Derived.Test.YtefobkgifigclaaGreatDoorM01
import Derived.Deep.RegionHeld3
import Derived.Deep.Cut
import Derived.Deep.CutRange
import Derived.Test.YtefobkgifigclaaGreatDoorM48
namespace Go.Proofs.YtefobkgifigclaaGreatDoor
set_option maxRecDepth 100000
open Go.RowKit

/-- A box of two texts. -/
def Bw (b : Nat) (s t : ByteArray) (w : World) : Prop := w.heap[b]? = some (.cells #[.string s, .string t] 29)
theorem Bw.cells {b : Nat} {s t : ByteArray} {w : World} (h : Bw b s t w) : w.cell? ⟨b, 0, none⟩ = some (.string s) ∧ w.cell? ⟨b, 1, none⟩ = some (.string t) := by
  have hc : ∀ o, w.cell? ⟨b, o, none⟩ = (#[Value.string s, .string t] : Array Value)[o]? := fun o => by
    unfold World.cell?
    rw [show w.heap[(⟨b, o, none⟩ : Addr).block]? = w.heap[b]? from rfl, h]
    rfl
  exact ⟨hc 0, hc 1⟩
theorem Bw.keep {b : Nat} {s t : ByteArray} {w w2 : World} (h : Bw b s t w) (hb : Below w.heap.size w w2) : Bw b s t w2 := by
  have hl : b < w.heap.size := (Array.getElem?_eq_some_iff.1 h).1
  exact (hb.block _ hl).trans h
def sgn22 (m n : Int) : Int := if m < n then -1 else if n < m then 1 else 0
set_option maxHeartbeats 12800000 in
set_option maxRecDepth 100000 in
theorem order22_law (a b : ByteArray) (w : World) (na ea nb eb fa fb gc n1 n2 : Int) (x1 y1 x2 y2 : Nat) (Sc : World → Value → Prop)
    (CIa : ∀ W, Below w.heap.size w W → Calls Tryz.prog 14 #[.string a] W fun e w' => e = .returned (.tuple #[.int .i64 na, .int .i64 ea]) ∧ Below W.heap.size W w')
    (CIb : ∀ W, Below w.heap.size w W → Calls Tryz.prog 14 #[.string b] W fun e w' => e = .returned (.tuple #[.int .i64 nb, .int .i64 eb]) ∧ Below W.heap.size W w')
    (CPa : ∀ W, Below w.heap.size w W → Calls Tryz.prog 17 #[.string a] W fun e w' => e = .returned (.tuple #[.complex .f64 x1 y1, .int .i64 fa]) ∧ Below W.heap.size W w')
    (CPb : ∀ W, Below w.heap.size w W → Calls Tryz.prog 17 #[.string b] W fun e w' => e = .returned (.tuple #[.complex .f64 x2 y2, .int .i64 fb]) ∧ Below W.heap.size W w')
    (CG : ∀ W, Below w.heap.size w W → Calls Tryz.prog 19 #[.complex .f64 x1 y1, .complex .f64 x2 y2] W fun e w' => e = .returned (.int .i64 gc) ∧ Below W.heap.size W w')
    (CN1 : ∀ W, Below w.heap.size w W → Calls Tryz.prog 20 #[.complex .f64 x1 y1] W fun e w' => e = .returned (.int .i64 n1) ∧ Below W.heap.size W w')
    (CN2 : ∀ W, Below w.heap.size w W → Calls Tryz.prog 20 #[.complex .f64 x2 y2] W fun e w' => e = .returned (.int .i64 n2) ∧ Below W.heap.size W w')
    (CS : ∀ W, Below w.heap.size w W → Calls Tryz.prog 16 #[] W fun e w' => ∃ va, e = .returned (.agg #[va, .slice none 0 0]) ∧ Sc w' va ∧ Below W.heap.size W w')
    (C3 : ∀ va W, Below w.heap.size w W → Sc W va → Calls Tryz.prog 15 #[.agg #[va, .slice none 0 0], .int .i64 3, .string a, .string b] W fun e w' => ∃ c g, e = .returned (.tuple #[.int .i64 c, .int .i64 g]) ∧ (ea = 0 → eb = 0 → g = 0 ∧ c = sgn22 na nb) ∧ Below W.heap.size W w')
    (C10 : ∀ va W, Below w.heap.size w W → Sc W va → Calls Tryz.prog 15 #[.agg #[va, .slice none 0 0], .int .i64 10, .string a, .string b] W fun e w' => ∃ c g, e = .returned (.tuple #[.int .i64 c, .int .i64 g]) ∧ (fa = 0 → fb = 0 → g = 0 ∧ c = gc) ∧ Below W.heap.size W w')
    (C11 : ∀ va W, Below w.heap.size w W → Sc W va → Calls Tryz.prog 18 #[.agg #[va, .slice none 0 0], .int .i64 11, .string a, .string b] W fun e w' => ∃ q g, e = .returned (.tuple #[.bool q, .int .i64 g]) ∧ (fa = 0 → fb = 0 → g = 0 ∧ q = (n1 == n2)) ∧ Below W.heap.size W w')
    (CA : ∀ W, Below w.heap.size w W → Calls Tryz.prog 13 #[] W fun e w' => e = .returned (.bool true) ∧ Below W.heap.size W w') :
    Calls Tryz.prog 4 #[.agg #[.string a, .string b]] w fun e w' => e = .returned (.bool true) ∧ Below w.heap.size w w' := by
  have mx : Tryz.prog.follows .mixedOrders = true := by kernel_rfl
  have HIa := hide CIa
  have HIb := hide CIb
  have HPa := hide CPa
  have HPb := hide CPb
  have HG := hide CG
  have HN1 := hide CN1
  have HN2 := hide CN2
  have HS := hide CS
  have H3 := hide C3
  have H10 := hide C10
  have H11 := hide C11
  have HA := hide CA
  clear CIa CIb CPa CPb CG CN1 CN2 CS C3 C10 C11 CA
  have b0 := Below.one w (.cells #[.string a, .string b] 29)
  have S0 : Hid (Bw w.heap.size a b (w.alloc (.cells #[.string a, .string b] 29))) := heap_new w _
  obtain ⟨s0, s1⟩ := (unhide S0).cells
  go_enter Tryz.func4, Tryz.ntmps4
  go_upto_region 3 with (first
    | (go_at_call 14; refine (unhide HIb _ t1).mono ?_; rintro e w2 ⟨rfl, b2⟩; have t2 := t1.trans (b2.mono t1.size); have S2 := hide ((unhide S1).keep b2))
    | (go_at_call 14; refine (unhide HIa _ b0).mono ?_; rintro e w1 ⟨rfl, b1⟩; have t1 := b0.trans (b1.mono b0.size); have S1 := hide ((unhide S0).keep b1); obtain ⟨v0, v1⟩ := (unhide S1).cells))
  clear HIa HIb S0 S1 s0 s1 v0 v1 b0 b1 b2 t1
  have kd : Below w2.heap.size w2 w2.drew := (Below.refl _ w2).drew
  have td := t2.trans (kd.mono t2.size)
  have HCQ : Hid (∀ W, Below w2.heap.size w2 W → W.cell? ⟨w.heap.size, 0, none⟩ = some (.string a) ∧ W.cell? ⟨w.heap.size, 1, none⟩ = some (.string b)) := fun W h => ((unhide S2).keep h).cells
  go_cut [7, 8] from 26 to 34 (fun v7 v8 wx => ∃ c g : Int, v7 = .int .i64 c ∧ v8 = .int .i64 g ∧ Hid (ea = 0 → eb = 0 → g = 0 ∧ c = sgn22 na nb) ∧ Below w2.heap.size w2 wx)
  case first =>
    go_region_held3 (fun W => W.cell? ⟨w.heap.size, 0, none⟩ = some (.string a) ∧ W.cell? ⟨w.heap.size, 1, none⟩ = some (.string b)) (first | with_reducible exact unhide HCQ _ kd | with_reducible exact unhide HCQ _ k3 | with_reducible exact unhide HCQ _ k4 | assumption | go_keep)
      (first
        | (go_at_call 15; refine (unhide H3 _ _ t3 (unhide V3)).mono ?_; rintro e w4 ⟨c, g, rfl, hcg, b4⟩; have k4 := k3.trans (b4.mono k3.size); have HCG := hide hcg; clear hcg)
        | (go_at_call 16; refine (unhide HS _ td).mono ?_; rintro e w3 ⟨va, rfl, hva, b3⟩; have k3 := kd.trans (b3.mono kd.size); have t3 := td.trans (b3.mono td.size); have V3 := hide hva; clear hva))
    all_goals
      go_wp2
      go_meet
      exact ⟨c, g, rfl, rfl, unhide HCG, k4⟩
  case rest =>
    obtain ⟨c, g, rfl, rfl, HCG, kx⟩ := hcut
    have tx := t2.trans (kx.mono t2.size)
    have SX := hide ((unhide S2).keep kx)
    clear HCQ kd td S2 H3 t2
    go_upto_region 4 with fail
    go_cut [60] from 35 to 60 (fun v60 wx => v60 = .bool false ∧ wx = wc)
    case first =>
      by_cases h1 : ea = 0
      · by_cases h2 : eb = 0
        · obtain ⟨rfl, hc⟩ := unhide HCG h1 h2
          have q1 : (ea == 0) = true := by simpa using h1
          have q2 : (eb == 0) = true := by simpa using h2
          clear h1 h2 HCG
          unfold sgn22 at hc
          by_cases l1 : na < nb
          · rw [if_pos l1] at hc
            subst hc
            have l2 : ¬ nb < na := by omega
            go_wp2
            go_meet
            exact ⟨rfl, rfl⟩
          · rw [if_neg l1] at hc
            by_cases l2 : nb < na
            · rw [if_pos l2] at hc
              subst hc
              go_wp2
              go_meet
              exact ⟨rfl, rfl⟩
            · rw [if_neg l2] at hc
              subst hc
              go_wp2
              go_meet
              exact ⟨rfl, rfl⟩
        · have q1 : (ea == 0) = true := by simpa using h1
          have q2 : (eb == 0) = false := by simpa using h2
          clear h1 h2 HCG
          go_wp2
          go_meet
          exact ⟨rfl, rfl⟩
      · have q1 : (ea == 0) = false := by simpa using h1
        clear h1 HCG
        go_wp2
        go_meet
        exact ⟨rfl, rfl⟩
    case rest =>
      obtain ⟨rfl, rfl⟩ := hcut
      clear HCG kx
      obtain ⟨s0, s1⟩ := (unhide SX).cells
      go_upto_region 8 with (first
        | (go_at_call 17; refine (unhide HPb _ t5).mono ?_; rintro e w6 ⟨rfl, b6⟩; have t6 := t5.trans (b6.mono t5.size); have S6 := hide ((unhide S5).keep b6))
        | (go_at_call 17; refine (unhide HPa _ tx).mono ?_; rintro e w5 ⟨rfl, b5⟩; have t5 := tx.trans (b5.mono tx.size); have S5 := hide ((unhide SX).keep b5); obtain ⟨v0, v1⟩ := (unhide S5).cells))
      clear HPa HPb SX S5 s0 s1 v0 v1 b5 b6 t5 tx
      have kd : Below w6.heap.size w6 w6.drew := (Below.refl _ w6).drew
      have td := t6.trans (kd.mono t6.size)
      have HCQ : Hid (∀ W, Below w6.heap.size w6 W → W.cell? ⟨w.heap.size, 0, none⟩ = some (.string a) ∧ W.cell? ⟨w.heap.size, 1, none⟩ = some (.string b)) := fun W h => ((unhide S6).keep h).cells
      go_cut [11, 8] from 73 to 81 (fun v11 v8 wx => ∃ c g : Int, v11 = .int .i64 c ∧ v8 = .int .i64 g ∧ Hid (fa = 0 → fb = 0 → g = 0 ∧ c = gc) ∧ Below w6.heap.size w6 wx)
      case first =>
        go_region_held3 (fun W => W.cell? ⟨w.heap.size, 0, none⟩ = some (.string a) ∧ W.cell? ⟨w.heap.size, 1, none⟩ = some (.string b)) (first | with_reducible exact unhide HCQ _ kd | with_reducible exact unhide HCQ _ k3 | with_reducible exact unhide HCQ _ k4 | assumption | go_keep)
          (first
            | (go_at_call 15; refine (unhide H10 _ _ t3 (unhide V3)).mono ?_; rintro e w4 ⟨c, g, rfl, hcg, b4⟩; have k4 := k3.trans (b4.mono k3.size); have HCG := hide hcg; clear hcg)
            | (go_at_call 16; refine (unhide HS _ td).mono ?_; rintro e w3 ⟨va, rfl, hva, b3⟩; have k3 := kd.trans (b3.mono kd.size); have t3 := td.trans (b3.mono td.size); have V3 := hide hva; clear hva))
        all_goals
          go_wp2
          go_meet
          exact ⟨c, g, rfl, rfl, unhide HCG, k4⟩
      case rest =>
        obtain ⟨c, g, rfl, rfl, HCG, kx⟩ := hcut
        have tx := t6.trans (kx.mono t6.size)
        have SX := hide ((unhide S6).keep kx)
        clear HCQ kd td S6 H10 t6 kx
        obtain ⟨w7, rfl⟩ : ∃ w7, w7 = wc := ⟨_, rfl⟩
        go_upto_region 9 with fail
        have kd : Below w7.heap.size w7 w7.drew := (Below.refl _ w7).drew
        have td := tx.trans (kd.mono tx.size)
        have HCQ : Hid (∀ W, Below w7.heap.size w7 W → W.cell? ⟨w.heap.size, 0, none⟩ = some (.string a) ∧ W.cell? ⟨w.heap.size, 1, none⟩ = some (.string b)) := fun W h => ((unhide SX).keep h).cells
        go_cut [12, 13] from 82 to 90 (fun v12 v13 wx => ∃ (q : Bool) (g : Int), v12 = .bool q ∧ v13 = .int .i64 g ∧ Hid (fa = 0 → fb = 0 → g = 0 ∧ q = (n1 == n2)) ∧ Below w7.heap.size w7 wx)
        case first =>
          go_region_held3 (fun W => W.cell? ⟨w.heap.size, 0, none⟩ = some (.string a) ∧ W.cell? ⟨w.heap.size, 1, none⟩ = some (.string b)) (first | with_reducible exact unhide HCQ _ kd | with_reducible exact unhide HCQ _ k3 | with_reducible exact unhide HCQ _ k4 | assumption | go_keep)
            (first
              | (go_at_call 18; refine (unhide H11 _ _ t3 (unhide V3)).mono ?_; rintro e w4 ⟨q, g2, rfl, hcg, b4⟩; have k4 := k3.trans (b4.mono k3.size); have HQG := hide hcg; clear hcg)
              | (go_at_call 16; refine (unhide HS _ td).mono ?_; rintro e w3 ⟨va, rfl, hva, b3⟩; have k3 := kd.trans (b3.mono kd.size); have t3 := td.trans (b3.mono td.size); have V3 := hide hva; clear hva))
          all_goals
            go_wp2
            go_meet
            exact ⟨q, g2, rfl, rfl, unhide HQG, k4⟩
        case rest =>
          obtain ⟨q, g2, rfl, rfl, HQG, kx⟩ := hcut
          have t8 := tx.trans (kx.mono tx.size)
          clear HCQ kd td SX H11 HS kx tx
          obtain ⟨w8, rfl⟩ : ∃ w8, w8 = wc := ⟨_, rfl⟩
          go_upto_region 10 with fail
          go_cut [120] from 91 to 120 (fun v120 wx => v120 = .bool false ∧ Below w8.heap.size w8 wx)
          case first =>
            by_cases h1 : fa = 0
            · by_cases h2 : fb = 0
              · obtain ⟨rfl, rfl⟩ := unhide HCG h1 h2
                obtain ⟨rfl, rfl⟩ := unhide HQG h1 h2
                have q1 : (fa == 0) = true := by simpa using h1
                have q2 : (fb == 0) = true := by simpa using h2
                have q3 : (c != c) = false := by simp
                have q4 : ((n1 == n2) != (n1 == n2)) = false := by simp
                clear h1 h2 HCG HQG
                go_wp2_with (first
                  | (go_at_call 20; refine (unhide HN2 _ t10).mono ?_; rintro e w11 ⟨rfl, b11⟩; have k11 := k10.trans (b11.mono k10.size))
                  | (go_at_call 20; refine (unhide HN1 _ t9).mono ?_; rintro e w10 ⟨rfl, b10⟩; have k10 := b9.trans (b10.mono b9.size); have t10 := t9.trans (b10.mono t9.size))
                  | (go_at_call 19; refine (unhide HG _ t8).mono ?_; rintro e w9 ⟨rfl, b9⟩; have t9 := t8.trans (b9.mono t8.size)))
                go_meet
                exact ⟨rfl, k11⟩
              · have q1 : (fa == 0) = true := by simpa using h1
                have q2 : (fb == 0) = false := by simpa using h2
                clear h1 h2 HCG HQG
                go_wp2
                go_meet
                exact ⟨rfl, Below.refl _ _⟩
            · have q1 : (fa == 0) = false := by simpa using h1
              clear h1 HCG HQG
              go_wp2
              go_meet
              exact ⟨rfl, Below.refl _ _⟩
          case rest =>
            obtain ⟨rfl, kx⟩ := hcut
            have t12 := t8.trans (kx.mono t8.size)
            clear HCG HQG HG HN1 HN2
            go_wp2_with (go_at_call 13; refine (unhide HA _ t12).mono ?_; rintro e w13 ⟨rfl, b13⟩)
            go_ret
            exact ⟨rfl, t12.trans (b13.mono t12.size)⟩
end Go.Proofs.YtefobkgifigclaaGreatDoor
/- The landed bothKeys, Equal, Cmp of layer 22, out of Key's contract. -/
namespace Go.Proofs.YtefobkgifigclaaGreatDoor
set_option maxRecDepth 100000
open Go.RowKit

def cm22 (a b : ByteArray) : Int := cmB a.toList b.toList
set_option maxHeartbeats 1600000 in
theorem comp22 (a b : ByteArray) (w : World) : Calls Tryz.prog 27 #[.string a, .string b] w fun e w' => e = .returned (.int .i64 (cm22 a b)) ∧ w = w' := by
  have qa : (a.toList != a.toList) = false := by simp
  have qb : (b.toList != b.toList) = false := by simp
  have NA : ∀ (x : ByteArray) (W : World), Calls Tryz.prog 48 #[.string x] W fun e w' => e = .returned (.bool false) ∧ W = w' := fun x W => by
    have qx : (x.toList != x.toList) = false := by simp
    go_enter Tryz.func48, Tryz.ntmps48
    go_wp2
    go_ret
    exact ⟨rfl, rfl⟩
  have HN := hide NA
  clear NA
  cases h1 : Op.bytesLess a.toList b.toList
  · by_cases h2 : a.toList = b.toList
    · have HE : Hid (cm22 a b = 0) := by show _ = _; unfold cm22 cmB; rw [h1, ← h2, bl_irr]; rfl
      have hq : (a.toList == b.toList) = true := by simpa using h2
      rw [unhide HE]
      clear HE h2
      go_enter Tryz.func27, Tryz.ntmps27
      go_wp2_with (go_at_call 48; refine (unhide HN _ _).mono ?_; rintro e w2 ⟨rfl, rfl⟩)
      go_ret
      exact ⟨rfl, rfl⟩
    · have h3 : Op.bytesLess b.toList a.toList = true := by
        rcases bl_or a.toList b.toList with q | q | q
        · rw [h1] at q; cases q
        · exact absurd q h2
        · exact q
      have HE : Hid (cm22 a b = 1) := by show _ = _; unfold cm22 cmB; rw [h1, h3]; rfl
      have hq : (a.toList == b.toList) = false := by simpa using h2
      rw [unhide HE]
      clear HE h2 h3
      go_enter Tryz.func27, Tryz.ntmps27
      go_wp2_with (go_at_call 48; refine (unhide HN _ _).mono ?_; rintro e w2 ⟨rfl, rfl⟩)
      go_ret
      exact ⟨rfl, rfl⟩
  · have HE : Hid (cm22 a b = -1) := by show _ = _; unfold cm22 cmB; rw [h1]; rfl
    rw [unhide HE]
    clear HE
    go_enter Tryz.func27, Tryz.ntmps27
    go_wp2_with (go_at_call 48; refine (unhide HN _ _).mono ?_; rintro e w2 ⟨rfl, rfl⟩)
    go_ret
    exact ⟨rfl, rfl⟩
/-- What Key tells of a value: if it is one (E), the key k, and no error. -/
def KeyC (va vb : Value) (r : Int) (a k : ByteArray) (E : Prop) (w : World) : Prop := ∀ W, Below w.heap.size w W → Calls Tryz.prog 22 #[.agg #[va, vb], .int .i64 r, .string a] W fun e w' => ∃ x g, e = .returned (.tuple #[.string x, .int .i64 g]) ∧ (E → g = 0 ∧ x = k) ∧ Below W.heap.size W w'
theorem KeyC.at' {va vb : Value} {r : Int} {a k : ByteArray} {E : Prop} {w w2 : World} (h : KeyC va vb r a k E w) (hb : Below w.heap.size w w2) : KeyC va vb r a k E w2 := fun W hW => h W (hb.trans (hW.mono hb.size))
set_option maxHeartbeats 3200000 in
theorem both22 (va vb : Value) (r : Int) (a b ka kb : ByteArray) (EA EB : Prop) (w : World) (CA : KeyC va vb r a ka EA w) (CB : KeyC va vb r b kb EB w) :
    Calls Tryz.prog 26 #[.agg #[va, vb], .int .i64 r, .string a, .string b] w fun e w' => ∃ x y g, e = .returned (.tuple #[.string x, .string y, .int .i64 g]) ∧ (EA → EB → g = 0 ∧ x = ka ∧ y = kb) ∧ Below w.heap.size w w' := by
  have b0 := Below.one w (.cells #[va, vb] 38)
  have hB : Hid ((w.alloc (.cells #[va, vb] 38)).heap[w.heap.size]? = some (.cells #[va, vb] 38)) := heap_new w _
  have HA := hide CA
  have HB := hide CB
  have c0 := S18.blk_cell (unhide hB) 0
  have c1 := S18.blk_cell (unhide hB) 1
  clear CA CB
  go_enter Tryz.func26, Tryz.ntmps26
  go_upto_region 2 with (go_at_call 22; refine (unhide HA _ b0).mono ?_; rintro e w1 ⟨x, g, rfl, hx, b1⟩; have t1 := b0.trans (b1.mono b0.size); have HX := hide hx; have d0 := S18.blk_cell (box22 (unhide hB) b1) 0; have d1 := S18.blk_cell (box22 (unhide hB) b1) 1; clear hx)
  clear c0 c1 HA
  by_cases h1 : g = 0
  · subst h1
    have HX2 : Hid (EA → x = ka) := fun h => (unhide HX h).2
    clear HX
    go_upto_region 5 with (go_at_call 22; refine (unhide HB _ t1).mono ?_; rintro e w2 ⟨y, g2, rfl, hy, b2⟩; have t2 := t1.trans (b2.mono t1.size); have HY := hide hy; clear hy)
    by_cases h2 : g2 = 0
    · subst h2
      have HY2 : Hid (EB → y = kb) := fun h => (unhide HY h).2
      clear HY
      go_wp2
      refine bodyPost_ret (results_tmp3 rfl _ _ _) rfl ?_
      exact ⟨_, _, _, rfl, fun p q => ⟨rfl, unhide HX2 p, unhide HY2 q⟩, t2⟩
    · have q2 : (g2 != 0) = true := by simpa using h2
      have HN : Hid (¬ EB) := fun h => h2 (unhide HY h).1
      clear h2 HY
      go_wp2
      refine bodyPost_ret (results_tmp3 rfl _ _ _) rfl ?_
      exact ⟨_, _, _, rfl, fun _ q => absurd q (unhide HN), t2⟩
  · have q1 : (g != 0) = true := by simpa using h1
    have HN : Hid (¬ EA) := fun h => h1 (unhide HX h).1
    clear h1 HX
    go_wp2
    refine bodyPost_ret (results_tmp3 rfl _ _ _) rfl ?_
    exact ⟨_, _, _, rfl, fun p _ => absurd p (unhide HN), t1⟩
set_option maxHeartbeats 3200000 in
theorem equal22 (va vb : Value) (r : Int) (a b ka kb : ByteArray) (EA EB : Prop) (w : World) (CA : KeyC va vb r a ka EA w) (CB : KeyC va vb r b kb EB w) :
    Calls Tryz.prog 18 #[.agg #[va, vb], .int .i64 r, .string a, .string b] w fun e w' => ∃ q g, e = .returned (.tuple #[.bool q, .int .i64 g]) ∧ (EA → EB → g = 0 ∧ q = decide (ka = kb)) ∧ Below w.heap.size w w' := by
  have b0 := Below.one w (.cells #[va, vb] 38)
  have hB : (w.alloc (.cells #[va, vb] 38)).heap[w.heap.size]? = some (.cells #[va, vb] 38) := heap_new w _
  have CC := hide (both22 va vb r a b ka kb EA EB _ (CA.at' b0) (CB.at' b0))
  have c0 := S18.blk_cell hB 0
  have c1 := S18.blk_cell hB 1
  clear CA CB hB
  go_enter Tryz.func18, Tryz.ntmps18
  go_upto_region 2 with (go_at_call 26; refine (unhide CC).mono ?_; rintro e w1 ⟨x, y, g, rfl, hx, b1⟩; have t1 := b0.trans (b1.mono b0.size); have HX := hide hx; clear hx)
  clear c0 c1
  by_cases h1 : g = 0
  · subst h1
    have hq := txt22 x y
    have HQ : Hid (EA → EB → decide (x = y) = decide (ka = kb)) := fun p q => by obtain ⟨_, rfl, rfl⟩ := unhide HX p q; rfl
    clear HX
    generalize decide (x = y) = d at *
    go_wp2
    refine bodyPost_ret (results_tmp2 rfl _ _ _) rfl ?_
    exact ⟨_, _, rfl, fun p q => ⟨rfl, unhide HQ p q⟩, t1⟩
  · have q1 : (g != 0) = true := by simpa using h1
    have HN : Hid (EA → EB → False) := fun p q => h1 (unhide HX p q).1
    clear h1 HX
    go_wp2
    refine bodyPost_ret (results_tmp2 rfl _ _ _) rfl ?_
    exact ⟨_, _, rfl, fun p q => absurd (unhide HN p q) id, t1⟩
set_option maxHeartbeats 3200000 in
theorem cmp22 (va vb : Value) (r : Int) (hr : ordB r = true) (a b ka kb : ByteArray) (EA EB : Prop) (w : World) (CA : KeyC va vb r a ka EA w) (CB : KeyC va vb r b kb EB w) :
    Calls Tryz.prog 15 #[.agg #[va, vb], .int .i64 r, .string a, .string b] w fun e w' => ∃ c g, e = .returned (.tuple #[.int .i64 c, .int .i64 g]) ∧ (EA → EB → g = 0 ∧ c = cm22 ka kb) ∧ Below w.heap.size w w' := by
  have b0 := Below.one w (.cells #[va, vb] 38)
  have hB : Hid ((w.alloc (.cells #[va, vb] 38)).heap[w.heap.size]? = some (.cells #[va, vb] 38)) := heap_new w _
  have CO := hide (fun W => ord22_any r W)
  rw [hr] at CO
  have CC : Hid (∀ W, Below w.heap.size w W → Calls Tryz.prog 26 #[.agg #[va, vb], .int .i64 r, .string a, .string b] W fun e w' => ∃ x y g, e = .returned (.tuple #[.string x, .string y, .int .i64 g]) ∧ (EA → EB → g = 0 ∧ x = ka ∧ y = kb) ∧ Below W.heap.size W w') := fun W h => both22 va vb r a b ka kb EA EB W (CA.at' h) (CB.at' h)
  clear CA CB hr
  go_enter Tryz.func15, Tryz.ntmps15
  go_upto_region 4 with (first
    | (go_at_call 26; refine (unhide CC _ t1).mono ?_; rintro e w2 ⟨x, y, g, rfl, hx, b2⟩; have t2 := t1.trans (b2.mono t1.size); have HX := hide hx; clear hx)
    | (go_at_call 9; refine (unhide CO _).mono ?_; rintro e w1 ⟨rfl, b1⟩; have t1 := b0.trans (b1.mono b0.size); have d0 := S18.blk_cell (box22 (unhide hB) b1) 0; have d1 := S18.blk_cell (box22 (unhide hB) b1) 1))
  clear d0 d1 CC CO
  by_cases h1 : g = 0
  · subst h1
    have HC := hide (fun W => comp22 x y W)
    have HQ : Hid (EA → EB → cm22 x y = cm22 ka kb) := fun p q => by obtain ⟨_, rfl, rfl⟩ := unhide HX p q; rfl
    clear HX
    generalize cm22 x y = d at *
    go_wp2_with (go_at_call 27; refine (unhide HC _).mono ?_; rintro e w4 ⟨rfl, rfl⟩)
    refine bodyPost_ret (results_tmp2 rfl _ _ _) rfl ?_
    exact ⟨_, _, rfl, fun p q => ⟨rfl, unhide HQ p q⟩, t2⟩
  · have q1 : (g != 0) = true := by simpa using h1
    have HN : Hid (EA → EB → False) := fun p q => h1 (unhide HX p q).1
    clear h1 HX
    go_wp2
    refine bodyPost_ret (results_tmp2 rfl _ _ _) rfl ?_
    exact ⟨_, _, rfl, fun p q => absurd (unhide HN p q) id, t2⟩
end Go.Proofs.YtefobkgifigclaaGreatDoor
