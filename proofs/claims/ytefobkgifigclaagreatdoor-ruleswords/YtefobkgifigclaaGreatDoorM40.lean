/- The landed fitAbove and mayBe. -/
import Derived.Test.YtefobkgifigclaaGreatDoorM39
import Derived.Maps.AppendAt
namespace Go.Proofs.YtefobkgifigclaaGreatDoor.S20
set_option maxRecDepth 100000
open Go.RowKit

set_option maxHeartbeats 3200000 in
theorem fitab_any (v : Value) (l : List Ty) (a : Ty) (w : World) (hV : TysV w v l) : Calls Tryz.prog 92 #[v, .agg #[.string a.nam, .string a.abv, .int .i64 a.syn, .int .i64 a.rul, .bool a.sgl, .bool a.cls]] w fun e w' => e = .returned (.bool (abvB l a)) ∧ Below w.heap.size w w' := by
  have mx : Tryz.prog.follows .mixedOrders = true := by kernel_rfl
  have B0 : Hid (Bt w.heap.size a (w.alloc (.cells #[.string a.nam, .string a.abv, .int .i64 a.syn, .int .i64 a.rul, .bool a.sgl, .bool a.cls] 67))) := heap_new w _
  have b0 := Below.one w (.cells #[.string a.nam, .string a.abv, .int .i64 a.syn, .int .i64 a.rul, .bool a.sgl, .bool a.cls] 67)
  have CF := hide (find_any v l a.abv _ (hV.below b0))
  obtain ⟨va, vc, rfl⟩ := hV.shape
  clear hV
  have hem := emp_iff a.abv
  have HA : Hid (abvB l a = if a.abv = te then true else match fndT l a.abv with | none => false | some b => decide (b.syn = a.syn)) := rfl
  generalize abvB l a = R at *
  by_cases e : a.abv = te
  · rw [decide_eq_true e] at hem
    rw [if_pos e] at HA
    clear e CF
    go_enter Tryz.func92, Tryz.ntmps92
    go_wp2
    go_ret
    exact ⟨ret_bool (unhide HA).symm, b0⟩
  rw [decide_eq_false e] at hem
  rw [if_neg e] at HA
  clear e
  unfold fnA fnB at CF
  cases hf : fndT l a.abv with
  | none =>
    rw [hf] at CF HA
    simp only [Option.getD_none, Option.isSome_none] at CF HA
    clear hf
    unfold aggV at CF
    go_enter Tryz.func92, Tryz.ntmps92
    go_wp2_with (go_at_call 129; refine (unhide CF).mono ?_; rintro e w2 ⟨rfl, b2⟩; have t2 := b0.trans (b2.mono b0.size))
    go_ret
    exact ⟨ret_bool (unhide HA).symm, t2.trans ((Below.one w2 _).mono t2.size)⟩
  | some b =>
    rw [hf] at CF HA
    simp only [Option.getD_some, Option.isSome_some] at CF HA
    clear hf
    unfold aggV at CF
    have hs : (b.syn == a.syn) = decide (b.syn = a.syn) := by by_cases h : b.syn = a.syn <;> simp [h]
    generalize decide (b.syn = a.syn) = z at *
    go_enter Tryz.func92, Tryz.ntmps92
    go_wp2_with (go_at_call 129; refine (unhide CF).mono ?_; rintro e w2 ⟨rfl, b2⟩; have t2 := b0.trans (b2.mono b0.size); have q2 := (((unhide B0).keep b2).keep (Below.one w2 (.cells #[.string b.nam, .string b.abv, .int .i64 b.syn, .int .i64 b.rul, .bool b.sgl, .bool b.cls] 67))).cells.2.2.1; simp only [Nat.zero_add] at q2)
    go_ret
    exact ⟨ret_bool (unhide HA).symm, t2.trans ((Below.one w2 _).mono t2.size)⟩
theorem bs_next {l : List Ty} {k : Nat} (h : ∀ j, j < k → bsAt l j) (hk : bsAt l k) : ∀ j, j < k + 1 → bsAt l j := fun j hj => by
  by_cases e : j = k
  · rw [e]; exact hk
  · exact h j (by omega)
/-- What the second loop sees of a type. -/
def abAt (l : List Ty) (k : Nat) : Prop := abvB l (l.getD k ty0) = true ∧ ∃ xs, xs.length ≤ l.length ∧ wlk l (fndT l (l.getD k ty0).nam) xs none
theorem ab_next {l : List Ty} {k : Nat} (h : ∀ j, j < k → abAt l j) (hk : abAt l k) : ∀ j, j < k + 1 → abAt l j := fun j hj => by
  by_cases e : j = k
  · rw [e]; exact hk
  · exact h j (by omega)
set_option maxHeartbeats 6400000 in
theorem may_any (v : Value) (l : List Ty) (w : World) (hV : TysV w v l) : Calls Tryz.prog 58 #[v] w fun e w' => e = .returned (.bool (okT l)) ∧ Below w.heap.size w w' := by
  have mx : Tryz.prog.follows .mixedOrders = true := by kernel_rfl
  have HV := hide hV
  obtain ⟨va, vc, rfl⟩ := hV.shape
  clear hV
  by_cases h24 : 24 < l.length
  · have z : (24 : Int) < (l.length : Int) := by omega
    rw [show okT l = false by unfold okT; rw [decide_eq_false (by omega)]; rfl]
    go_enter Tryz.func58, Tryz.ntmps58
    go_wp2
    go_ret
    exact ⟨rfl, Below.refl _ _⟩
  have z : ¬ (24 : Int) < (l.length : Int) := by omega
  have HF : Hid (∀ k, k < l.length → ¬ bsAt l k → okT l = false) := fun k hk h => not_ok fun q => h (ok_fit q hk)
  have HG : Hid (∀ k, k < l.length → abvB l (l.getD k ty0) = false → okT l = false) := fun k hk h => not_ok fun q => by
    rw [okT_abv q (by simp [List.getD, hk])] at h
    cases h
  have HE : Hid (∀ n pre o, wlk l (fndT l n) pre o → pre.length = l.length + 1 → okT l = false) := fun n pre o h1 h2 => not_ok fun q => by
    have := (wlk_few q h1).1
    omega
  have HO : Hid ((∀ k, k < l.length → bsAt l k) → (∀ k, k < l.length → abAt l k) → okT l = true) := fun h1 h2 => ok_of (by omega) h1 h2
  clear h24
  generalize okT l = R at *
  go_enter Tryz.func58, Tryz.ntmps58
  go_wp2
  go_loopw [12] (fun vi wr => ∃ k : Nat, k ≤ l.length ∧ vi = .int .i64 (k : Int) ∧ Hid (∀ j, j < k → bsAt l j) ∧ Below w.heap.size w wr) (fun i _ => l.length - (intOf i).toNat)
  case atStart => exact ⟨0, Nat.zero_le _, rfl, fun j hj => absurd hj (Nat.not_lt_zero _), Below.refl _ _⟩
  case round =>
    obtain ⟨k, hk, rfl, HK, hb⟩ := hrel
    have hsz := hb.size
    by_cases hlt : k < l.length
    · have hzl : (k : Int) < (l.length : Int) := by omega
      have hz0 : (0 : Int) ≤ (k : Int) := by omega
      obtain ⟨va', vc', hvv, hn9, hcc⟩ := (unhide HV).below hb
      cases hvv
      obtain ⟨b, off, rfl, hce⟩ := hcc (by omega)
      obtain ⟨d0, d1, d2, d3, d4, d5⟩ := hce k hlt
      have HBS : Hid (bsAt l k = (fitA (l.getD k ty0) = true ∧ (k = 0 ∨ lsT (l.getD (k - 1) ty0).nam (l.getD k ty0).nam = true))) := rfl
      have HN := hide (unhide HF k hlt)
      have HS : Hid (bsAt l k → ∀ j, j < k + 1 → bsAt l j) := fun h => bs_next (unhide HK) h
      have HPV : Hid (∀ j, j < l.length → wr.cell? ⟨b, off + j * 6, none⟩ = some (.string (l.getD j ty0).nam)) := fun j hj => (hce j hj).1
      clear hcc hce hn9 HF HG HE HO HK
      generalize bsAt l k = bs at *
      generalize l.getD k ty0 = y at *
      have b1 : Below wr.heap.size wr (wr.alloc (.cells #[.string y.nam, .string y.abv, .int .i64 y.syn, .int .i64 y.rul, .bool y.sgl, .bool y.cls] 67)) := Below.one wr _
      have hb1 := hb.trans (b1.mono hsz)
      have hX : Bt wr.heap.size y (wr.alloc (.cells #[.string y.nam, .string y.abv, .int .i64 y.syn, .int .i64 y.rul, .bool y.sgl, .bool y.cls] 67)) := heap_new wr _
      obtain ⟨c0, c1, c2, c3, c4, c5⟩ := hX.cells
      simp only [Nat.zero_add] at c1 c2 c3 c4 c5
      replace c0 := cell_bb c0
      replace c1 := cell_bb c1
      replace c2 := cell_bb c2
      replace c3 := cell_bb c3
      replace c4 := cell_bb c4
      replace c5 := cell_bb c5
      have C1 := hide (fun W => fit_any y W)
      clear hX
      generalize fitA y = on at *
      cases on
      · have HR : Hid (false = R) := (unhide HN (by rw [unhide HBS]; simp)).symm
        clear HBS HN HS HPV
        go_wp2
        refine wp_region_below (by first | exact mx | assumption) (by kernel_rfl) ?_
        intro nebb
        repeat (go_big_quiet_step ((go_at_call 91; exact callsBB (unhide C1 _))))
        refine wpQuiet_nil ?_
        intro _ hw'
        obtain ⟨pq, hw''⟩ := hw'
        subst hw''
        have bq := pq.b
        generalize pq.W = wq at *
        go_wp2
        go_ret
        exact ⟨ret_bool (unhide HR), hb1.trans (bq.mono hb1.size)⟩
      by_cases k0 : k = 0
      · have zk : decide ((k : Int) > 0) = false := decide_eq_false (by omega)
        have zk2 : decide ((0 : Int) < (k : Int)) = false := decide_eq_false (by omega)
        have zk3 : decide (0 < k) = false := decide_eq_false (by omega)
        have HS2 := hide (unhide HS (by rw [unhide HBS]; exact ⟨rfl, .inl k0⟩))
        clear HBS HN HS k0 HPV
        go_wp2
        refine wp_region_below (by first | exact mx | assumption) (by kernel_rfl) ?_
        intro nebb
        repeat (go_big_quiet_step ((go_at_call 91; exact callsBB (unhide C1 _))))
        refine wpQuiet_nil ?_
        intro _ hw'
        obtain ⟨pq, hw''⟩ := hw'
        subst hw''
        have bq := pq.b
        generalize pq.W = wq at *
        go_wp2
        go_roundw
        case rel => exact ⟨k + 1, by omega, by go_num, unhide HS2, hb1.trans (bq.mono hb1.size)⟩
        case measure => simp [intOf]; omega
      have zk : decide ((k : Int) > 0) = true := decide_eq_true (by omega)
      have zk2 : decide ((0 : Int) < (k : Int)) = true := decide_eq_true (by omega)
      have zk3 : decide (0 < k) = true := decide_eq_true (by omega)
      obtain ⟨j, hj⟩ : ∃ j, j = k - 1 := ⟨_, rfl⟩
      have p0 := unhide HPV j (by omega)
      replace p0 := cell_bb ((b1.cell (cell_lt p0)).trans p0)
      rw [← hj] at HBS
      have wj : IntKind.i64.wrap ((k : Int) - 1) = (j : Int) := by rw [IntKind.wrap_i64]; omega
      have wj2 : (k : Int) - 1 = (j : Int) := by omega
      have hj0 : (0 : Int) ≤ (j : Int) := by omega
      have hj1 : (j : Int) < (l.length : Int) := by omega
      generalize l.getD j ty0 = x at *
      have hls : Op.bytesLess x.nam.toList y.nam.toList = lsT x.nam y.nam := rfl
      clear hj
      cases hq : lsT x.nam y.nam <;> rw [hq] at hls HBS
      · have HR : Hid (false = R) := (unhide HN (by rw [unhide HBS]; simp [k0])).symm
        clear HBS HN HS k0 hq HPV
        go_wp2
        refine wp_region_below (by first | exact mx | assumption) (by kernel_rfl) ?_
        intro nebb
        repeat (go_big_quiet_step ((go_at_call 91; exact callsBB (unhide C1 _))))
        refine wpQuiet_nil ?_
        intro _ hw'
        obtain ⟨pq, hw''⟩ := hw'
        subst hw''
        have bq := pq.b
        generalize pq.W = wq at *
        go_wp2
        go_ret
        exact ⟨ret_bool (unhide HR), hb1.trans (bq.mono hb1.size)⟩
      · have HS2 := hide (unhide HS (by rw [unhide HBS]; exact ⟨rfl, .inr rfl⟩))
        clear HBS HN HS k0 hq HPV
        go_wp2
        refine wp_region_below (by first | exact mx | assumption) (by kernel_rfl) ?_
        intro nebb
        repeat (go_big_quiet_step ((go_at_call 91; exact callsBB (unhide C1 _))))
        refine wpQuiet_nil ?_
        intro _ hw'
        obtain ⟨pq, hw''⟩ := hw'
        subst hw''
        have bq := pq.b
        generalize pq.W = wq at *
        go_wp2
        go_roundw
        case rel => exact ⟨k + 1, by omega, by go_num, unhide HS2, hb1.trans (bq.mono hb1.size)⟩
        case measure => simp [intOf]; omega
    · have hzl : ¬ (k : Int) < (l.length : Int) := by omega
      obtain rfl : k = l.length := by omega
      have HO2 := hide (unhide HO (unhide HK))
      clear HK HO HF
      go_wp2
      go_loopw [38] (fun vi ws => ∃ k : Nat, k ≤ l.length ∧ vi = .int .i64 (k : Int) ∧ Hid (∀ j, j < k → abAt l j) ∧ Below w.heap.size w ws) (fun i _ => l.length - (intOf i).toNat)
      case atStart => exact ⟨0, Nat.zero_le _, rfl, fun j hj => absurd hj (Nat.not_lt_zero _), hb⟩
      case round =>
        clear hb
        obtain ⟨k, hk, rfl, HK, hb⟩ := hrel
        have hsz := hb.size
        by_cases hlt : k < l.length
        · have hzl : (k : Int) < (l.length : Int) := by omega
          have hz0 : (0 : Int) ≤ (k : Int) := by omega
          have hVr := (unhide HV).below hb
          have HVR := hide hVr
          obtain ⟨va', vc', hvv, hn9, hcc⟩ := hVr
          cases hvv
          obtain ⟨b, off, rfl, hce⟩ := hcc (by omega)
          obtain ⟨d0, d1, d2, d3, d4, d5⟩ := hce k hlt
          have HN := hide (unhide HG k hlt)
          have HS : Hid (abAt l k → ∀ j, j < k + 1 → abAt l j) := fun h => ab_next (unhide HK) h
          have HAB : Hid (abAt l k = (abvB l (l.getD k ty0) = true ∧ ∃ xs, xs.length ≤ l.length ∧ wlk l (fndT l (l.getD k ty0).nam) xs none)) := rfl
          clear hcc hce hn9 HG HK HO2
          generalize abAt l k = ab at *
          generalize l.getD k ty0 = y at *
          have b1 : Below wr.heap.size wr (wr.alloc (.cells #[.string y.nam, .string y.abv, .int .i64 y.syn, .int .i64 y.rul, .bool y.sgl, .bool y.cls] 67)) := Below.one wr _
          have hb1 := hb.trans (b1.mono hsz)
          have C1 := hide (fitab_any _ l y _ ((unhide HVR).below b1))
          have C2 := hide (fun W (hW : Below wr.heap.size wr W) => endless_any _ l y.nam W ((unhide HVR).below hW))
          have HX : Hid (Bt wr.heap.size y (wr.alloc (.cells #[.string y.nam, .string y.abv, .int .i64 y.syn, .int .i64 y.rul, .bool y.sgl, .bool y.cls] 67))) := heap_new wr _
          clear HVR
          generalize abvB l y = on at *
          cases on
          · have HR : Hid (false = R) := (unhide HN rfl).symm
            clear HAB HN HS HE C2 HX
            go_wp2_with (go_at_call 92; refine (unhide C1).mono ?_; rintro e w2 ⟨rfl, b2⟩; have t2 := hb1.trans (b2.mono hb1.size))
            go_ret
            exact ⟨ret_bool (unhide HR), t2⟩
          · clear HN
            go_wp2_with (first
              | (go_at_call 93; refine (unhide C2 _ t1).mono ?_; rintro e w3 ⟨z, rfl, hz1, hz2, b3⟩; have HZ1 := hide hz1; have HZ2 := hide hz2; clear hz1 hz2; have t3 := t2.trans (b3.mono t2.size); cases z)
              | (go_at_call 92; refine (unhide C1).mono ?_; rintro e w2 ⟨rfl, b2⟩; have t2 := hb1.trans (b2.mono hb1.size); have t1 := b1.trans (b2.mono b1.size); have q0 := ((unhide HX).keep b2).cells.1))
            · go_roundw
              case rel => exact ⟨k + 1, by omega, by go_num, unhide HS (by rw [unhide HAB]; exact ⟨trivial, unhide HZ2 trivial⟩), t3⟩
              case measure => simp [intOf]; omega
            · go_ret
              obtain ⟨pre, o, h1, h2⟩ := unhide HZ1 trivial
              exact ⟨ret_bool (unhide HE _ pre o h1 h2).symm, t3⟩
        · have hzl : ¬ (k : Int) < (l.length : Int) := by omega
          obtain rfl : k = l.length := by omega
          have HR : Hid (true = R) := (unhide HO2 (unhide HK)).symm
          clear HK HO2 HG HE
          go_wp2
          go_ret
          exact ⟨ret_bool (unhide HR), hb⟩
end Go.Proofs.YtefobkgifigclaaGreatDoor.S20
/- The landed meets: is one of some names in a line? -/
namespace Go.Proofs.YtefobkgifigclaaGreatDoor.S20
set_option maxRecDepth 100000
open Go.RowKit
attribute [local go_sem] Oper.semAt_some

def metB (l : List Ty) (n : ByteArray) (ns : List ByteArray) : Bool := (lineT l n).any fun y => hasT ns y
theorem met_yes {l : List Ty} (hk : okT l = true) {n : ByteArray} {ns : List ByteArray} {pre : List Ty} {o : Option Ty} (hw : wlk l (fndT l n) pre o) (h : ∃ y ∈ pre, hasT ns y.nam = true) : metB l n ns = true := by
  obtain ⟨_, rest, hr⟩ := wlk_few hk hw
  obtain ⟨y, hy, h⟩ := h
  unfold metB
  rw [hr, List.any_append, List.any_eq_true.2 ⟨y.nam, List.mem_map_of_mem hy, h⟩]
  rfl
theorem met_no {l : List Ty} (hk : okT l = true) {n : ByteArray} {ns : List ByteArray} {xs : List Ty} (hw : wlk l (fndT l n) xs none) (h : ∀ y ∈ xs, hasT ns y.nam = false) : metB l n ns = false := by
  unfold metB
  rw [wlk_line hk hw, List.any_eq_false]
  intro y hy
  obtain ⟨z, hz, rfl⟩ := List.mem_map.1 hy
  rw [h z hz]
  decide
theorem bt_put {W : World} {L b : Nat} {r r' : Loop} {x : Ty} (h : Bt b x W) (hr : W.heap[L]? = some (.loop r)) : Bt b x (W.putObj L (.loop r')) := by
  refine (World.putObj_heap_other fun e => ?_).trans h
  subst e
  unfold Bt at h
  rw [h] at hr
  cases hr
end Go.Proofs.YtefobkgifigclaaGreatDoor.S20
/- The landed Line. -/
namespace Go.Proofs.YtefobkgifigclaaGreatDoor.S20
set_option maxRecDepth 100000
open Go.RowKit
attribute [local go_sem] Oper.semAt_some

theorem tx_qr {B n : Nat} {A C : World} {v : Value} {ps : List ByteArray} (h : Tx B v ps A) (k : Qr n A C) : Tx B v ps C := by
  obtain ⟨h1, h2⟩ := h
  refine ⟨h1, ?_⟩
  rcases h2 with h2 | ⟨g, cap, cur, e1, e2, e3, e4⟩
  · exact .inl h2
  · exact .inr ⟨g, cap, cur, e1, e2, k.same _ _ e3 rfl, e4⟩
theorem tx_low {B B' : Nat} {A : World} {v : Value} {ps : List ByteArray} (hB : B' ≤ B) (h : Tx B v ps A) : Tx B' v ps A := by
  obtain ⟨h1, h2⟩ := h
  refine ⟨h1, ?_⟩
  rcases h2 with h2 | ⟨g, cap, cur, e1, e2, e3⟩
  · exact .inl h2
  · exact .inr ⟨g, cap, cur, e1, Nat.le_trans hB e2, e3⟩
theorem kr_row {n B : Nat} {A C : World} {v : Value} {ps : List ByteArray} (h : Tx B v ps A) (hg : A.grownBy C v.ownBlock) (hB : n ≤ B) (hA : n ≤ A.heap.size) : Kr n A C :=
  Ke.grown hg hA fun k e => by
    rcases h.2 with ⟨hv, _⟩ | ⟨g, cap, cur, e1, e2, e3, e4⟩
    · rw [hv] at e; cases e
    · rw [e1] at e
      cases e
      exact ⟨Nat.le_trans hB e2, fun o ho => by rw [e3] at ho; cases ho; rfl⟩
theorem okT_24 {l : List Ty} (h : okT l = true) : l.length ≤ 24 := by
  unfold okT at h
  rw [Bool.and_eq_true] at h
  exact of_decide_eq_true h.1
end Go.Proofs.YtefobkgifigclaaGreatDoor.S20
/- The contracts of the landed attrs, in the laws' form. -/
namespace Go.Proofs.YtefobkgifigclaaGreatDoor.S20
set_option maxRecDepth 100000
open Go.RowKit

/-- What the variables hold that the calls read: none is read. -/
def Ly (_ : World) : Prop := True
theorem Ly.keep {w w2 : World} (_ : Ly w) (_ : Below w.heap.size w w2) : Ly w2 := trivial
set_option maxHeartbeats 800000 in
theorem acheck_any (v : Value) (l : List Ty) (w : World) (_ : Ly w) (_ : fewT l = true) (hV : TysV w v l) : Calls Tryz.prog 38 #[v] w fun e w' => e = .returned (.int .i64 (chkT l)) ∧ Below w.heap.size w w' := by
  have C := hide (may_any v l w hV)
  obtain ⟨va, vc, rfl⟩ := hV.shape
  clear hV
  cases hk : okT l
  · rw [hk] at C
    rw [chk_bad hk]
    clear hk
    go_enter Tryz.func38, Tryz.ntmps38
    go_wp2_with (go_at_call 58; refine (unhide C).mono ?_; rintro e w1 ⟨rfl, b1⟩)
    go_ret
    exact ⟨rfl, b1⟩
  · rw [hk] at C
    rw [chk_ok hk]
    clear hk
    go_enter Tryz.func38, Tryz.ntmps38
    go_wp2_with (go_at_call 58; refine (unhide C).mono ?_; rintro e w1 ⟨rfl, b1⟩)
    go_ret
    exact ⟨rfl, b1⟩
theorem fnd_same {l : List Ty} (h : okT l = true) (n : ByteArray) : fnA l n = fndA l n ∧ fnB l n = fndB l n := by
  unfold fnA fnB fndA fndB
  rw [find_ok h]
  exact ⟨rfl, rfl⟩
theorem metb_is (l : List Ty) (n a : ByteArray) : metB l n [a] = isT l n a := by
  unfold metB isT hasT
  simp
theorem one_ts (W : World) (a : ByteArray) (T : TypeId) : TsV (W.alloc (.cells #[.string a] T)) (.slice (some ⟨W.heap.size, 0, none⟩) 1 1) [a] := by
  refine ⟨_, _, rfl, ⟨by simp, by simp⟩, fun _ => ⟨W.heap.size, 0, rfl, fun j hj => ?_⟩⟩
  obtain rfl : j = 0 := by simp at hj; exact hj
  exact (box_at rfl).cell
theorem any_swap (L M : List ByteArray) : (L.any fun y => M.any fun z => decide (y = z)) = M.any fun z => L.any fun y => decide (y = z) := by
  rw [Bool.eq_iff_iff, List.any_eq_true, List.any_eq_true]
  constructor
  · rintro ⟨y, hy, h⟩
    obtain ⟨z, hz, h⟩ := List.any_eq_true.1 h
    exact ⟨z, hz, List.any_eq_true.2 ⟨y, hy, h⟩⟩
  · rintro ⟨z, hz, h⟩
    obtain ⟨y, hy, h⟩ := List.any_eq_true.1 h
    exact ⟨y, hy, List.any_eq_true.2 ⟨z, hz, h⟩⟩
theorem met_bl (l : List Ty) (ns : List ByteArray) (x : Ty) : metB l x.nam ns = bl l ns x := by
  unfold metB bl isT hasT
  exact any_swap _ _
theorem bel_len (l : List Ty) (ns : List ByteArray) : (belT l ns).length ≤ l.length := by rw [← belTo_all]; exact belTo_len l ns _
theorem bel_bad {l : List Ty} (h : okT l = false) (ns : List ByteArray) : belT l ns = [] := by
  have hf : ∀ x ∈ l, ¬ (ns.any fun n => isT l x.nam n) = true := fun x _ hq => by
    obtain ⟨n, _, hn⟩ := List.any_eq_true.1 hq
    unfold isT at hn
    rw [line_bad h] at hn
    cases hn
  unfold belT
  rw [List.filter_eq_nil_iff.2 hf]
  rfl
theorem arul_any (s : Int) (w : World) (_ : Ly w) : Calls Tryz.prog 128 #[.int .i64 s] w fun e w' => ∃ u, e = .returned u ∧ Row w' u (rulL s) ∧ Below w.heap.size w w' := rules_any s w
end Go.Proofs.YtefobkgifigclaaGreatDoor.S20
/- The probe of layer 20's laws. -/
namespace Go.Proofs.YtefobkgifigclaaGreatDoor.S20
set_option maxRecDepth 100000
open Go.RowKit

/-- The cells of types. -/
def flatT : List Ty → List Value
  | [] => []
  | a :: t => .string a.nam :: .string a.abv :: .int .i64 a.syn :: .int .i64 a.rul :: .bool a.sgl :: .bool a.cls :: flatT t
theorem flat_at : ∀ (l : List Ty) (j : Nat), j < l.length → (flatT l)[j * 6]? = some (.string (l.getD j ty0).nam) ∧ (flatT l)[j * 6 + 1]? = some (.string (l.getD j ty0).abv) ∧ (flatT l)[j * 6 + 2]? = some (.int .i64 (l.getD j ty0).syn) ∧ (flatT l)[j * 6 + 3]? = some (.int .i64 (l.getD j ty0).rul) ∧ (flatT l)[j * 6 + 4]? = some (.bool (l.getD j ty0).sgl) ∧ (flatT l)[j * 6 + 5]? = some (.bool (l.getD j ty0).cls)
  | [], j, h => by simp at h
  | p :: t, 0, _ => by simp [flatT]
  | p :: t, j + 1, h => by
    have := flat_at t j (by simpa using h)
    rw [show (j + 1) * 6 = j * 6 + 6 by omega]
    simpa [flatT] using this
theorem tys_of {W : World} {l : List Ty} {cs : Array Value} {T : TypeId} {v : Value} (hv : v = .slice (some ⟨W.heap.size, 0, none⟩) l.length l.length) (hl : l.length ≤ 9223372036854775807) (hcs : cs.toList = flatT l) : TysV (W.alloc (.cells cs T)) v l := by
  subst hv
  refine ⟨_, _, rfl, ⟨Nat.le_refl _, hl⟩, fun _ => ⟨W.heap.size, 0, rfl, fun j hj => ?_⟩⟩
  have hc : ∀ o, (W.alloc (.cells cs T)).cell? ⟨W.heap.size, o, none⟩ = (flatT l)[o]? := fun o => by
    rw [World.cell?_alloc_mark, ← hcs]
    simp
  obtain ⟨h0, h1, h2, h3, h4, h5⟩ := flat_at l j hj
  rw [Nat.zero_add]
  exact ⟨(hc _).trans h0, (hc _).trans h1, (hc _).trans h2, (hc _).trans h3, (hc _).trans h4, (hc _).trans h5⟩
theorem ts_of {W : World} {l : List ByteArray} {cs : Array Value} {T : TypeId} {v : Value} (hv : v = .slice (some ⟨W.heap.size, 0, none⟩) l.length l.length) (hl : l.length ≤ 9223372036854775807) (hcs : cs.toList = l.map Value.string) : TsV (W.alloc (.cells cs T)) v l := by
  subst hv
  refine ⟨_, _, rfl, ⟨Nat.le_refl _, hl⟩, fun _ => ⟨W.heap.size, 0, rfl, fun j hj => ?_⟩⟩
  rw [World.cell?_alloc_mark, Nat.zero_add]
  have : cs.toList[j]? = some (.string (l.getD j te)) := by rw [hcs]; simp [List.getD, hj]
  simpa using this
def tcn : ByteArray := ⟨#[99, 110]⟩
def tnm : ByteArray := ⟨#[110, 97, 109, 101]⟩
def tsn : ByteArray := ⟨#[115, 110]⟩
def ta : ByteArray := ⟨#[97]⟩
/-- The law's three types; one above itself. -/
def ty3 : List Ty := [⟨tcn, tnm, 1, 2, false, false⟩, ⟨tnm, te, 1, 2, false, false⟩, ⟨tsn, tnm, 1, 1, false, false⟩]
def ty1 : List Ty := [⟨ta, ta, 1, 0, false, false⟩]
theorem aw_chk : chkT ty3 = 0 ∧ chkT ty1 = 190 := ⟨by kernel_rfl, by kernel_rfl⟩
theorem aw_few : fewT ty3 = true ∧ fewT ty1 = true := ⟨by kernel_rfl, by kernel_rfl⟩
theorem aw_fnd : ((fndA ty3 tcn).abv.toList == [110, 97, 109, 101]) = true ∧ fndB ty3 tcn = true := ⟨by kernel_rfl, by kernel_rfl⟩
theorem aw_lin : decide (lineT ty3 tcn = [tcn, tnm]) = true := by kernel_rfl
theorem aw_bel : (belT ty3 [tnm]).length = 3 := by kernel_rfl
theorem aw_is : isT ty3 tsn tnm = true ∧ isT ty3 tnm tsn = false := ⟨by kernel_rfl, by kernel_rfl⟩
theorem aw_rul : (rulL 10).length = 3 := by kernel_rfl
end Go.Proofs.YtefobkgifigclaaGreatDoor.S20
