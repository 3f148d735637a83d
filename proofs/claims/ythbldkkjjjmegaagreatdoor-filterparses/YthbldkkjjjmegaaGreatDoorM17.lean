/- strings.Split at one byte: the pieces, plainly. -/
import Derived.Test.YthbldkkjjjmegaaGreatDoorM16
import Derived.Test.YthbldkkjjjmegaaGreatDoorM06
import Derived.Test.YthbldkkjjjmegaaGreatDoorM08
import Derived.Test.YthbldkkjjjmegaaGreatDoorM04
namespace Go.Proofs.YthbldkkjjjmegaaGreatDoor
set_option maxRecDepth 100000
open Go.RowKit

theorem ix_by (c : UInt8) (u : List UInt8) : (Lib.index u [c] = -1 ∧ ∀ x ∈ u.map (fun b : UInt8 => (b.toNat : Int)), x ≠ (c.toNat : Int)) ∨ ∃ k : Nat, Lib.index u [c] = (k : Int) ∧ k < u.length ∧ u.map (fun b : UInt8 => (b.toNat : Int)) = (u.take k).map (fun b : UInt8 => (b.toNat : Int)) ++ (c.toNat : Int) :: (u.drop (k + 1)).map (fun b : UInt8 => (b.toNat : Int)) ∧ ∀ x ∈ (u.take k).map (fun b : UInt8 => (b.toNat : Int)), x ≠ (c.toNat : Int) := by
  rw [Lib.index_one]
  induction u with
  | nil => exact .inl ⟨rfl, by simp⟩
  | cons b l ih =>
    by_cases hb : b = c
    · subst hb
      exact .inr ⟨0, by simp [Lib.indexByte], by simp, by simp, by simp⟩
    · have h1 : (b == c) = false := by rw [beq_eq_false_iff_ne]; exact hb
      have h2 : ¬ (b.toNat : Int) = (c.toNat : Int) := fun h => hb (UInt8.toNat_inj.1 (by omega))
      rcases ih with ⟨h3, h4⟩ | ⟨k, h3, h4, h5, h6⟩
      · refine .inl ⟨by simp [Lib.indexByte, h1, h3], ?_⟩
        intro x hx
        rw [List.map_cons] at hx
        rcases List.mem_cons.1 hx with rfl | hx
        · exact h2
        · exact h4 x hx
      · refine .inr ⟨k + 1, ?_, by simp; omega, ?_, ?_⟩
        · have : ¬ ((k : Int) == -1) = true := by rw [beq_iff_eq]; omega
          rw [Lib.indexByte, h1, h3, if_neg (by decide), if_neg this]
          omega
        · rw [List.map_cons, h5]
          simp
        · intro x hx
          rw [List.take_succ_cons, List.map_cons] at hx
          rcases List.mem_cons.1 hx with rfl | hx
          · exact h2
          · exact h6 x hx
theorem split_doc24 (c : UInt8) : ∀ (k : Nat) (l : List UInt8), Lib.count l [c] = k → (Lib.splitK [c] 0 k l).map (List.map fun b : UInt8 => (b.toNat : Int)) = splitL (c.toNat : Int) (l.map fun b : UInt8 => (b.toNat : Int))
  | 0, l, h => by
    rcases ix_by c l with ⟨h1, h2⟩ | ⟨k, h1, -, -, -⟩
    · rw [split_none _ _ h2]
      rfl
    · have := Lib.count_hit (sub := [c]) (by simp) h1
      omega
  | k + 1, l, h => by
    rcases ix_by c l with ⟨h1, h2⟩ | ⟨i, h1, h2, h3, h4⟩
    · rw [Lib.count_miss h1] at h; omega
    · have hc := Lib.count_hit (sub := [c]) (by simp) h1
      have hm : ¬ (Lib.index l [c] == -1) = true := fun e => by have := beq_iff_eq.1 e; omega
      have e : (Lib.index l [c]).toNat = i := by omega
      have ih := split_doc24 c k (l.drop (i + 1)) (by simp only [List.length_cons, List.length_nil, Nat.zero_add] at hc; omega)
      rw [h3, split_at _ _ _ h4, ← ih, Lib.splitK, if_neg hm, e]
      simp
theorem split_land (s : ByteArray) (c : UInt8) (hs : s.size ≤ 4000) : ∃ ps : List ByteArray, ps.map nums = splitL (c.toNat : Int) (nums s) ∧ ∀ w : World, Ly w → Calls Tryz.prog 81 #[.string s, .string ⟨#[c]⟩] w fun e w' => e = .returned (.slice (some ⟨w.heap.size, 0, none⟩) ps.length ps.length) ∧ w' = w.alloc (.cells (ps.map Value.string).toArray 9) := by
  have hlen := Lib.splitB_all ⟨#[c]⟩ (Nat.le_refl 1) 0 _ s rfl
  have hd := Lib.splitB_data ⟨#[c]⟩ 0 (Lib.countB s ⟨#[c]⟩) s
  have hq := split_doc24 c (Lib.countB s ⟨#[c]⟩) s.data.toList rfl
  rw [show (⟨#[c]⟩ : ByteArray).data.toList = [c] from rfl] at hd
  rw [← hd, List.map_map] at hq
  refine ⟨Lib.splitB ⟨#[c]⟩ 0 (Lib.countB s ⟨#[c]⟩) s, hq, fun w hL => ?_⟩
  refine (split_any24 s c w hL hs).mono ?_
  rintro e w' ⟨h1, h2⟩
  exact ⟨by rw [h1, hlen], h2⟩
end Go.Proofs.YthbldkkjjjmegaaGreatDoor
/- The landed samePieces, EqualFunc, Same of layer 24. (By gen_da.py.) -/
namespace Go.Proofs.YthbldkkjjjmegaaGreatDoor
set_option maxRecDepth 100000
open Go.RowKit

theorem seq_any (a1 a2 : Option Addr) (c1 c2 : Nat) (l m : List ByteArray) (w : World) (h1 : TxC w a1 l) (h2 : TxC w a2 m) : Calls Tryz.prog 47 #[.slice a1 l.length c1, .slice a2 m.length c2] w fun e w' => e = .returned (.bool (decide (l = m))) ∧ Gr w w' := by
  by_cases hn : l.length = m.length
  · rcases h1.2 with h0 | ⟨g, off, rfl, hc1⟩
    · have hm : m = [] := List.length_eq_zero_iff.1 (by omega)
      have hl : l = [] := List.length_eq_zero_iff.1 h0
      subst hm hl
      exact (Any.slices_Equal_string_empty lays193 a1 a2 c1 0 c2 w (by decide)).mono fun e w' ⟨h, hw⟩ => ⟨h.trans (by simp), by rw [hw]; exact Gr.refl _⟩
    · rcases h2.2 with h0 | ⟨g2, off2, rfl, hc2⟩
      · have hm : m = [] := List.length_eq_zero_iff.1 h0
        have hl : l = [] := List.length_eq_zero_iff.1 (by omega)
        subst hm hl
        exact (Any.slices_Equal_string_empty lays193 _ a2 c1 0 c2 w (by decide)).mono fun e w' ⟨h, hw⟩ => ⟨h.trans (by simp), by rw [hw]; exact Gr.refl _⟩
      · exact (Any.slices_Equal_string lays193 g off l.length c1 g2 off2 m.length c2 l m w (Nat.le_refl _) (Nat.le_refl _) h1.1 h2.1 hc1 hc2).mono fun e w' ⟨h, q, hw⟩ => ⟨h.trans (by rw [List.take_length, List.take_length]), by rw [hw]; exact (Gr.refl _).drewN q⟩
  · have hne : ¬ l = m := fun e => hn (by rw [e])
    exact (Any.slices_Equal_string_lens lays193 a1 a2 l.length c1 m.length c2 w hn).mono fun e w' ⟨h, hw⟩ => ⟨h.trans (by rw [decide_eq_false hne]), by rw [hw]; exact Gr.refl _⟩
theorem box5z {w w2 : World} {o : Obj} {a0 a1 a2 a3 a4 : Value} {T : TypeId} (h : Gr ((w.alloc o).alloc (.cells #[a0, a1, a2, a3, a4] T)) w2) : w2.cell? ⟨w.heap.size + 1, 0, none⟩ = some a0 ∧ w2.cell? ⟨w.heap.size + 1, 1, none⟩ = some a1 ∧ w2.cell? ⟨w.heap.size + 1, 2, none⟩ = some a2 ∧ w2.cell? ⟨w.heap.size + 1, 3, none⟩ = some a3 ∧ w2.cell? ⟨w.heap.size + 1, 4, none⟩ = some a4 := by
  refine ⟨h.cell ?_, h.cell ?_, h.cell ?_, h.cell ?_, h.cell ?_⟩ <;> simp
theorem box11z {w w2 : World} {o : Obj} {a0 a1 a2 a3 a4 a5 a6 a7 a8 a9 a10 : Value} {T : TypeId} (h : Gr ((w.alloc o).alloc (.cells #[a0, a1, a2, a3, a4, a5, a6, a7, a8, a9, a10] T)) w2) : w2.cell? ⟨w.heap.size + 1, 0, none⟩ = some a0 ∧ w2.cell? ⟨w.heap.size + 1, 1, none⟩ = some a1 ∧ w2.cell? ⟨w.heap.size + 1, 2, none⟩ = some a2 ∧ w2.cell? ⟨w.heap.size + 1, 3, none⟩ = some a3 ∧ w2.cell? ⟨w.heap.size + 1, 4, none⟩ = some a4 ∧ w2.cell? ⟨w.heap.size + 1, 5, none⟩ = some a5 ∧ w2.cell? ⟨w.heap.size + 1, 6, none⟩ = some a6 ∧ w2.cell? ⟨w.heap.size + 1, 7, none⟩ = some a7 ∧ w2.cell? ⟨w.heap.size + 1, 8, none⟩ = some a8 ∧ w2.cell? ⟨w.heap.size + 1, 9, none⟩ = some a9 ∧ w2.cell? ⟨w.heap.size + 1, 10, none⟩ = some a10 := by
  refine ⟨h.cell ?_, h.cell ?_, h.cell ?_, h.cell ?_, h.cell ?_, h.cell ?_, h.cell ?_, h.cell ?_, h.cell ?_, h.cell ?_, h.cell ?_⟩ <;> simp
theorem sameL_iff (l m : List Fl) : sameF.L l m = true ↔ l = m := sameF_iff.L l m
set_option maxHeartbeats 6400000 in
theorem spcs_any (i f i' f' : ByteArray) (hi hf hi' hf' : Bool) (a a' : List ByteArray) (a1 a2 : Option Addr) (c1 c2 : Nat) (w : World) (h1 : TxC w a1 a) (h2 : TxC w a2 a') : Calls Tryz.prog 30 #[.agg #[.string i, .slice a1 a.length c1, .string f, .bool hi, .bool hf], .agg #[.string i', .slice a2 a'.length c2, .string f', .bool hi', .bool hf']] w fun r w' => r = .returned (.bool (smP i a f hi hf i' a' f' hi' hf')) ∧ Gr w w' := by
  have mx : Tryz.prog.follows .mixedOrders = true := by kernel_rfl
  have g0 : Gr w ((w.alloc (.cells #[.string i, .slice a1 a.length c1, .string f, .bool hi, .bool hf] 24)).alloc (.cells #[.string i', .slice a2 a'.length c2, .string f', .bool hi', .bool hf'] 24)) := (Gr.one w _).alloc _
  have CE := hide (fun (W : World) (g : Gr w W) => seq_any a1 a2 c1 c2 a a' W (h1.below g.below) (h2.below g.below))
  clear h1 h2
  have HD : Hid (∀ b, decide (i = i' ∧ a = a' ∧ f = f' ∧ hi = hi' ∧ hf = hf') = b → b = smP i a f hi hf i' a' f' hi' hf') := fun b h => by rw [← h]; rfl
  by_cases e0 : ¬ hi = hi'
  · have qhi := beq_no e0
    have HE := hide (unhide HD false (decide_eq_false fun h => e0 h.2.2.2.1))
    clear HD e0
    go_enter Tryz.func30, Tryz.ntmps30
    go_wp2
    go_ret
    exact ⟨ret_bool (unhide HE), g0⟩
  obtain rfl : hi = hi' := Classical.not_not.1 e0
  have qhi : (hi == hi) = true := by simp
  clear e0
  by_cases e0 : ¬ i = i'
  · have qi := txt_no e0
    have HE := hide (unhide HD false (decide_eq_false fun h => e0 h.1))
    clear HD e0
    go_enter Tryz.func30, Tryz.ntmps30
    go_wp2
    go_ret
    exact ⟨ret_bool (unhide HE), g0⟩
  obtain rfl : i = i' := Classical.not_not.1 e0
  have qi := txt_yes i
  clear e0
  by_cases e0 : ¬ a = a'
  · have HE := hide (unhide HD false (decide_eq_false fun h => e0 h.2.1))
    have CE2 : Hid (∀ W, Gr w W → _) := fun W g => by
      have := unhide CE W g
      rw [decide_eq_false e0] at this
      exact this
    clear HD CE e0
    go_enter Tryz.func30, Tryz.ntmps30
    go_wp2_with (go_at_call 47; refine (unhide CE2 _ g0).mono ?_; rintro e w2 ⟨rfl, g2⟩; obtain ⟨m0, m1, m2, m3, m4⟩ := box5p ((Gr.one _ _).trans g2); obtain ⟨k0, k1, k2, k3, k4⟩ := box5z g2)
    go_ret
    exact ⟨ret_bool (unhide HE), g0.trans g2⟩
  replace e0 : a = a' := Classical.not_not.1 e0
  have CE2 : Hid (∀ W, Gr w W → _) := fun W g => by
    have := unhide CE W g
    rw [decide_eq_true e0] at this
    exact this
  have HA := hide e0
  clear CE e0
  by_cases e0 : ¬ hf = hf'
  · have qhf := beq_no e0
    have HE := hide (unhide HD false (decide_eq_false fun h => e0 h.2.2.2.2))
    clear HD e0
    go_enter Tryz.func30, Tryz.ntmps30
    go_wp2_with (go_at_call 47; refine (unhide CE2 _ g0).mono ?_; rintro e w2 ⟨rfl, g2⟩; obtain ⟨m0, m1, m2, m3, m4⟩ := box5p ((Gr.one _ _).trans g2); obtain ⟨k0, k1, k2, k3, k4⟩ := box5z g2)
    go_ret
    exact ⟨ret_bool (unhide HE), g0.trans g2⟩
  obtain rfl : hf = hf' := Classical.not_not.1 e0
  have qhf : (hf == hf) = true := by simp
  clear e0
  by_cases e0 : ¬ f = f'
  · have qf := txt_no e0
    have HE := hide (unhide HD false (decide_eq_false fun h => e0 h.2.2.1))
    clear HD e0
    go_enter Tryz.func30, Tryz.ntmps30
    go_wp2_with (go_at_call 47; refine (unhide CE2 _ g0).mono ?_; rintro e w2 ⟨rfl, g2⟩; obtain ⟨m0, m1, m2, m3, m4⟩ := box5p ((Gr.one _ _).trans g2); obtain ⟨k0, k1, k2, k3, k4⟩ := box5z g2)
    go_ret
    exact ⟨ret_bool (unhide HE), g0.trans g2⟩
  obtain rfl : f = f' := Classical.not_not.1 e0
  have qf := txt_yes f
  clear e0
  have HE := hide (unhide HD true (decide_eq_true ⟨rfl, unhide HA, rfl, rfl, rfl⟩))
  clear HD
  go_enter Tryz.func30, Tryz.ntmps30
  go_wp2_with (go_at_call 47; refine (unhide CE2 _ g0).mono ?_; rintro e w2 ⟨rfl, g2⟩; obtain ⟨m0, m1, m2, m3, m4⟩ := box5p ((Gr.one _ _).trans g2); obtain ⟨k0, k1, k2, k3, k4⟩ := box5z g2)
  go_ret
  exact ⟨ret_bool (unhide HE), g0.trans g2⟩
/-- A filter of a row, its cells laid open. -/
theorem flat_at {w : World} {l : List Fl} {g off : Nat} (h : FlV.L w l g off) (i : Nat) (hi : i < l.length) : ∃ a1 c1 a2 c2, w.cell? ⟨g, off + i * 11, none⟩ = some (.int .i64 (l.getD i fl0).kin) ∧ w.cell? ⟨g, off + i * 11 + 1, none⟩ = some (.string (l.getD i fl0).nam) ∧ w.cell? ⟨g, off + i * 11 + 2, none⟩ = some (.string (l.getD i fl0).val) ∧ w.cell? ⟨g, off + i * 11 + 3, none⟩ = some (.string (l.getD i fl0).ini) ∧ w.cell? ⟨g, off + i * 11 + 4, none⟩ = some (.slice a1 (l.getD i fl0).any.length c1) ∧ w.cell? ⟨g, off + i * 11 + 5, none⟩ = some (.string (l.getD i fl0).fin) ∧ w.cell? ⟨g, off + i * 11 + 6, none⟩ = some (.bool (l.getD i fl0).hi) ∧ w.cell? ⟨g, off + i * 11 + 7, none⟩ = some (.bool (l.getD i fl0).hf) ∧ w.cell? ⟨g, off + i * 11 + 8, none⟩ = some (.string (l.getD i fl0).rul) ∧ w.cell? ⟨g, off + i * 11 + 9, none⟩ = some (.bool (l.getD i fl0).dn) ∧ w.cell? ⟨g, off + i * 11 + 10, none⟩ = some (.slice a2 (l.getD i fl0).kids.length c2) ∧ FlV w (l.getD i fl0) (vFl (l.getD i fl0).kin (l.getD i fl0).nam (l.getD i fl0).val (l.getD i fl0).ini a1 (l.getD i fl0).any.length c1 (l.getD i fl0).fin (l.getD i fl0).hi (l.getD i fl0).hf (l.getD i fl0).rul (l.getD i fl0).dn a2 (l.getD i fl0).kids.length c2) := by
  obtain ⟨x0, x1, x2, x3, x4, x5, x6, x7, x8, x9, x10, q0, q1, q2, q3, q4, q5, q6, q7, q8, q9, q10, hv⟩ := h.get i hi
  obtain ⟨a1, c1, a2, c2, he, -, -, -⟩ := hv.open
  have hh := hv
  injection he with he
  have k0 : x0 = .int .i64 (l.getD i fl0).kin ∧ x1 = .string (l.getD i fl0).nam ∧ x2 = .string (l.getD i fl0).val ∧ x3 = .string (l.getD i fl0).ini ∧ x4 = .slice a1 (l.getD i fl0).any.length c1 ∧ x5 = .string (l.getD i fl0).fin ∧ x6 = .bool (l.getD i fl0).hi ∧ x7 = .bool (l.getD i fl0).hf ∧ x8 = .string (l.getD i fl0).rul ∧ x9 = .bool (l.getD i fl0).dn ∧ x10 = .slice a2 (l.getD i fl0).kids.length c2 := by
    have e2 := congrArg Array.toList he
    simpa using e2
  obtain ⟨rfl, rfl, rfl, rfl, rfl, rfl, rfl, rfl, rfl, rfl, rfl⟩ := k0
  exact ⟨a1, c1, a2, c2, q0, q1, q2, q3, q4, q5, q6, q7, q8, q9, q10, hh⟩
set_option maxRecDepth 4000 in
set_option maxHeartbeats 6400000 in
theorem feq_any (l m : List Fl) (IH : ∀ e, e ∈ l → ∀ (e' : Fl) (x x' : Value) (w : World), FlV w e x → FlV w e' x' → Calls Tryz.prog 18 #[x, x'] w fun y w' => y = .returned (.bool (sameF e e')) ∧ Gr w w')
    (a2 a2' : Option Addr) (c2 c2' : Nat) (w : World) (hn : l.length ≤ 9223372036854775807) (hc : l.length = 0 ∨ ∃ g off, a2 = some ⟨g, off, none⟩ ∧ FlV.L w l g off) (hc' : m.length = 0 ∨ ∃ g off, a2' = some ⟨g, off, none⟩ ∧ FlV.L w m g off) :
    Calls Tryz.prog 31 #[.slice a2 l.length c2, .slice a2' m.length c2', .func (.func 18) #[] #[]] w fun y w' => y = .returned (.bool (sameF.L l m)) ∧ Gr w w' := by
  have eg : ∀ args w, (callFunc 18 args).run Tryz.prog w = .ok (.enter 18 args) w := enters_of Tryz.func18 (by kernel_rfl) rfl
  have HIH := hide IH
  have HC := hide hc
  have HC' := hide hc'
  clear IH hc hc'
  by_cases hl : l.length ≠ m.length
  · have zl : ((l.length : Int) == (m.length : Int)) = false := by rw [beq_eq_false_iff_ne]; omega
    have HE := hide (sameL_len l m hl)
    generalize sameF.L l m = y at *
    clear HC HC' HIH hl
    generalize l.length = n at *
    generalize m.length = k at *
    go_enter Tryz.func31, Tryz.ntmps31
    go_wp2
    go_ret
    exact ⟨ret_bool (unhide HE).symm, Gr.refl _⟩
  replace hl : m.length = l.length := by omega
  rw [hl] at HC' ⊢
  have HL := hide hl
  have HE1 : Hid (∀ b, sameF.L l m = b → b = sameF.L l m) := fun b h => h.symm
  clear hl
  go_enter Tryz.func31, Tryz.ntmps31
  go_wp2
  go_loopw [17] (fun i wr => ∃ j : Nat, j ≤ l.length ∧ i = .int .i64 j ∧ Hid (sameF.L l m = sameF.L (l.drop j) (m.drop j)) ∧ Gr w wr) (fun i _ => l.length - (intOf i).toNat)
  case atStart => exact ⟨0, Nat.zero_le _, rfl, rfl, Gr.refl _⟩
  case round =>
    obtain ⟨j, hj, rfl, HB, gw⟩ := hrel
    by_cases hlt : j < l.length
    · have hzl : (j : Int) < (l.length : Int) := by omega
      have hz0 : (0 : Int) ≤ (j : Int) := by omega
      obtain ⟨g, off, rfl, hl⟩ := (unhide HC).resolve_left (by omega)
      obtain ⟨g', off', rfl, hl'⟩ := (unhide HC').resolve_left (by omega)
      obtain ⟨a1, d1, a3, d3, q0, q1, q2, q3, q4, q5, q6, q7, q8, q9, q10, hv⟩ := flat_at hl j hlt
      obtain ⟨a5, d5, a7, d7, p0, p1, p2, p3, p4, p5, p6, p7, p8, p9, p10, hv'⟩ := flat_at hl' j (by rw [unhide HL]; exact hlt)
      replace q0 := gw.cell q0
      replace p0 := (gw.cell p0)
      replace q1 := gw.cell q1
      replace p1 := (gw.cell p1)
      replace q2 := gw.cell q2
      replace p2 := (gw.cell p2)
      replace q3 := gw.cell q3
      replace p3 := (gw.cell p3)
      replace q4 := gw.cell q4
      replace p4 := (gw.cell p4)
      replace q5 := gw.cell q5
      replace p5 := (gw.cell p5)
      replace q6 := gw.cell q6
      replace p6 := (gw.cell p6)
      replace q7 := gw.cell q7
      replace p7 := (gw.cell p7)
      replace q8 := gw.cell q8
      replace p8 := (gw.cell p8)
      replace q9 := gw.cell q9
      replace p9 := (gw.cell p9)
      replace q10 := gw.cell q10
      replace p10 := (gw.cell p10)
      have CI : Hid (∀ W : World, Gr wr W → _) := fun W (g : Gr wr W) => unhide HIH _ (getD_memF l j hlt) (m.getD j fl0) _ _ W (hv.grow (gw.trans g).below) (hv'.grow (gw.trans g).below)
      have HQ := hide (sameL_drop l m j hlt (by rw [unhide HL]; exact hlt))
      clear hv hv' hl hl'
      generalize l.getD j fl0 = e at *
      generalize m.getD j fl0 = e' at *
      generalize sameF e e' = b at *
      replace p0 := (Gr.one wr (.cells (cFl e.kin e.nam e.val e.ini a1 e.any.length d1 e.fin e.hi e.hf e.rul e.dn a3 e.kids.length d3) 27)).cell p0
      replace p1 := (Gr.one wr (.cells (cFl e.kin e.nam e.val e.ini a1 e.any.length d1 e.fin e.hi e.hf e.rul e.dn a3 e.kids.length d3) 27)).cell p1
      replace p2 := (Gr.one wr (.cells (cFl e.kin e.nam e.val e.ini a1 e.any.length d1 e.fin e.hi e.hf e.rul e.dn a3 e.kids.length d3) 27)).cell p2
      replace p3 := (Gr.one wr (.cells (cFl e.kin e.nam e.val e.ini a1 e.any.length d1 e.fin e.hi e.hf e.rul e.dn a3 e.kids.length d3) 27)).cell p3
      replace p4 := (Gr.one wr (.cells (cFl e.kin e.nam e.val e.ini a1 e.any.length d1 e.fin e.hi e.hf e.rul e.dn a3 e.kids.length d3) 27)).cell p4
      replace p5 := (Gr.one wr (.cells (cFl e.kin e.nam e.val e.ini a1 e.any.length d1 e.fin e.hi e.hf e.rul e.dn a3 e.kids.length d3) 27)).cell p5
      replace p6 := (Gr.one wr (.cells (cFl e.kin e.nam e.val e.ini a1 e.any.length d1 e.fin e.hi e.hf e.rul e.dn a3 e.kids.length d3) 27)).cell p6
      replace p7 := (Gr.one wr (.cells (cFl e.kin e.nam e.val e.ini a1 e.any.length d1 e.fin e.hi e.hf e.rul e.dn a3 e.kids.length d3) 27)).cell p7
      replace p8 := (Gr.one wr (.cells (cFl e.kin e.nam e.val e.ini a1 e.any.length d1 e.fin e.hi e.hf e.rul e.dn a3 e.kids.length d3) 27)).cell p8
      replace p9 := (Gr.one wr (.cells (cFl e.kin e.nam e.val e.ini a1 e.any.length d1 e.fin e.hi e.hf e.rul e.dn a3 e.kids.length d3) 27)).cell p9
      replace p10 := (Gr.one wr (.cells (cFl e.kin e.nam e.val e.ini a1 e.any.length d1 e.fin e.hi e.hf e.rul e.dn a3 e.kids.length d3) 27)).cell p10
      cases b
      · have HN := hide (unhide HE1 false (by rw [unhide HB, unhide HQ]; rfl))
        clear HQ HB HE1 HIH
        have gg := fun X Y => (Gr.one wr X).alloc Y

        go_wp2_with (refine (unhide CI _ (gg _ _)).mono ?_; rintro e w3 ⟨rfl, g3⟩)
        go_ret
        exact ⟨ret_bool (unhide HN), gw.trans ((gg _ _).trans g3)⟩
      · have HN : Hid (sameF.L l m = sameF.L (l.drop (j + 1)) (m.drop (j + 1))) := by show _ = _; rw [unhide HB, unhide HQ]; rfl
        clear HQ HB HE1 HIH
        have gg := fun X Y => (Gr.one wr X).alloc Y
        go_wp2_with (refine (unhide CI _ (gg _ _)).mono ?_; rintro e w3 ⟨rfl, g3⟩)
        go_roundw
        case rel => exact ⟨j + 1, by omega, by go_num, unhide HN, gw.trans ((gg _ _).trans g3)⟩
        case measure => simp [intOf]; omega
    · have hzl : ¬ (j : Int) < (l.length : Int) := by omega
      have HN := hide (unhide HE1 true (by rw [unhide HB, List.drop_eq_nil_of_le (by omega), List.drop_eq_nil_of_le (by rw [unhide HL]; omega)]; simp only [sameF.L]))
      clear HB HE1 HIH
      go_wp2
      go_ret
      exact ⟨ret_bool (unhide HN), gw⟩
set_option maxRecDepth 4000 in
set_option maxHeartbeats 12800000 in
/-- The landed Same. -/
theorem fsame_any (e : Fl) : ∀ (e' : Fl) (x x' : Value) (w : World), FlV w e x → FlV w e' x' → Calls Tryz.prog 18 #[x, x'] w fun y w' => y = .returned (.bool (sameF e e')) ∧ Gr w w' := by
  induction e using Fl.ind with
  | h k n v i a f hi hf r d kids ih =>
    intro e' x x' w hV hV'
    obtain ⟨k', n', v', i', a', f', hi', hf', r', d', kids'⟩ := e'
    simp only [FlV] at hV hV'
    obtain ⟨a1, c1, a2, c2, rfl, ht, hn, hc⟩ := hV
    obtain ⟨a1', c1', a2', c2', rfl, ht', -, hc'⟩ := hV'
    have g0 : Gr w ((w.alloc (.cells (cFl k n v i a1 a.length c1 f hi hf r d a2 kids.length c2) 27)).alloc (.cells (cFl k' n' v' i' a1' a'.length c1' f' hi' hf' r' d' a2' kids'.length c2') 27)) := (Gr.one w _).alloc _
    have HD : Hid (∀ b, (decide (k = k') && (decide (n = n') && (decide (v = v') && (smP i a f hi hf i' a' f' hi' hf' && (decide (r = r') && (decide (d = d') && sameF.L kids kids')))))) = b → b = sameF (.mk k n v i a f hi hf r d kids) (.mk k' n' v' i' a' f' hi' hf' r' d' kids')) := fun b h => by
      rw [← h]
      simp only [sameF, smP]
      rw [Bool.eq_iff_iff]
      simp only [Bool.and_eq_true, decide_eq_true_eq]
      constructor
      · rintro ⟨h1, h2, h3, h6, h4, h5, h7⟩
        exact ⟨⟨h1, h2, h3, h4, h5, h6⟩, h7⟩
      · rintro ⟨⟨h1, h2, h3, h4, h5, h6⟩, h7⟩
        exact ⟨h1, h2, h3, h6, h4, h5, h7⟩
    have CP : Hid (∀ W, Gr w W → _) := fun W (hW : Gr w W) => spcs_any i f i' f' hi hf hi' hf' a a' a1 a1' c1 c1' W (ht.below hW.below) (ht'.below hW.below)
    have CK : Hid (∀ W, Gr w W → _) := fun W (hW : Gr w W) => feq_any kids kids' ih a2 a2' c2 c2' W hn (hc.imp (fun h => h) (fun ⟨g, off, h1, h2⟩ => ⟨g, off, h1, FlV.L.below hW.below kids g off h2⟩)) (hc'.imp (fun h => h) (fun ⟨g, off, h1, h2⟩ => ⟨g, off, h1, FlV.L.below hW.below kids' g off h2⟩))
    clear ih hc hc' ht ht' hn
    generalize sameF (.mk k n v i a f hi hf r d kids) (.mk k' n' v' i' a' f' hi' hf' r' d' kids') = y at *
    generalize sameF.L kids kids' = z at *
    by_cases e0 : ¬ k = k'
    · have qk : (k == k') = false := by rw [beq_eq_false_iff_ne]; exact e0
      have HE := hide (unhide HD false (by simp [e0]))
      clear HD
      go_enter Tryz.func18, Tryz.ntmps18
      go_wp2
      go_ret
      exact ⟨ret_bool (unhide HE), g0⟩
    obtain rfl : k = k' := Classical.not_not.1 e0
    have qk : (k == k) = true := by simp
    clear e0
    by_cases e0 : ¬ n = n'
    · have qn := txt_no e0
      have HE := hide (unhide HD false (by simp [e0]))
      clear HD
      go_enter Tryz.func18, Tryz.ntmps18
      go_wp2
      go_ret
      exact ⟨ret_bool (unhide HE), g0⟩
    obtain rfl : n = n' := Classical.not_not.1 e0
    have qn := txt_yes n
    clear e0
    by_cases e0 : ¬ v = v'
    · have qv := txt_no e0
      have HE := hide (unhide HD false (by simp [e0]))
      clear HD
      go_enter Tryz.func18, Tryz.ntmps18
      go_wp2
      go_ret
      exact ⟨ret_bool (unhide HE), g0⟩
    obtain rfl : v = v' := Classical.not_not.1 e0
    have qv := txt_yes v
    clear e0
    generalize smP i a f hi hf i' a' f' hi' hf' = p at *
    cases p
    · have HE := hide (unhide HD false (by simp))
      clear HD
      go_enter Tryz.func18, Tryz.ntmps18
      go_wp2_with (go_at_call 30; refine (unhide CP _ g0).mono ?_; rintro e w2 ⟨rfl, g2⟩; obtain ⟨m0, m1, m2, m3, m4, m5, m6, m7, m8, m9, m10⟩ := box11 ((Gr.one _ _).trans g2); obtain ⟨k0, k1, k2, k3, k4, k5, k6, k7, k8, k9, k10⟩ := box11z g2)
      go_ret
      exact ⟨ret_bool (unhide HE), g0.trans g2⟩
    by_cases e0 : ¬ r = r'
    · have qr := txt_no e0
      have HE := hide (unhide HD false (by simp [e0]))
      clear HD
      go_enter Tryz.func18, Tryz.ntmps18
      go_wp2_with (go_at_call 30; refine (unhide CP _ g0).mono ?_; rintro e w2 ⟨rfl, g2⟩; obtain ⟨m0, m1, m2, m3, m4, m5, m6, m7, m8, m9, m10⟩ := box11 ((Gr.one _ _).trans g2); obtain ⟨k0, k1, k2, k3, k4, k5, k6, k7, k8, k9, k10⟩ := box11z g2)
      go_ret
      exact ⟨ret_bool (unhide HE), g0.trans g2⟩
    obtain rfl : r = r' := Classical.not_not.1 e0
    have qr := txt_yes r
    clear e0
    by_cases e0 : ¬ d = d'
    · have qd := beq_no e0
      have HE := hide (unhide HD false (by simp [e0]))
      clear HD
      go_enter Tryz.func18, Tryz.ntmps18
      go_wp2_with (go_at_call 30; refine (unhide CP _ g0).mono ?_; rintro e w2 ⟨rfl, g2⟩; obtain ⟨m0, m1, m2, m3, m4, m5, m6, m7, m8, m9, m10⟩ := box11 ((Gr.one _ _).trans g2); obtain ⟨k0, k1, k2, k3, k4, k5, k6, k7, k8, k9, k10⟩ := box11z g2)
      go_ret
      exact ⟨ret_bool (unhide HE), g0.trans g2⟩
    obtain rfl : d = d' := Classical.not_not.1 e0
    have qd : (d == d) = true := by simp
    clear e0
    have HE := hide (unhide HD z (by simp))
    clear HD
    go_enter Tryz.func18, Tryz.ntmps18
    go_wp2_with (first
      | (go_at_call 31; refine (unhide CK _ (g0.trans g2)).mono ?_; rintro e w3 ⟨rfl, g3⟩)
      | (go_at_call 30; refine (unhide CP _ g0).mono ?_; rintro e w2 ⟨rfl, g2⟩; obtain ⟨m0, m1, m2, m3, m4, m5, m6, m7, m8, m9, m10⟩ := box11 ((Gr.one _ _).trans g2); obtain ⟨k0, k1, k2, k3, k4, k5, k6, k7, k8, k9, k10⟩ := box11z g2))
    go_ret
    exact ⟨ret_bool (unhide HE), (g0.trans g2).trans g3⟩
end Go.Proofs.YthbldkkjjjmegaaGreatDoor
