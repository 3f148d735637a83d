/- lay: a span behind a table's last one, or into it. -/
import Derived.Test.YtnlkefdicpeemaaLeaf
import Derived.Test.YtnlkefdicpeemaaPlain
import Derived.Deep.AppendLies
import Derived.Laws.OwnMore
namespace Go.Proofs.Ytnlkefdicpeemaa
open Go.RowKit
open Go.Sort (grow)

/-- The cells of a span, of spans. -/
def spc (s : Sp) : List Value := [.int .i32 s.f, .int .i32 s.t, .int .i64 s.h]
def spcs (l : List Sp) : List Value := l.flatMap spc
theorem spcs_length (l : List Sp) : (spcs l).length = l.length * 3 := by
  induction l with
  | nil => rfl
  | cons s l ih => simp [spcs, spc] at ih ⊢; omega
theorem spcs_append (a b : List Sp) : spcs (a ++ b) = spcs a ++ spcs b := by simp [spcs]
theorem spcs_get (l : List Sp) (k : Nat) (h : k < l.length) : (spcs l)[k * 3]? = some (.int .i32 (l.getD k sp0).f) ∧ (spcs l)[k * 3 + 1]? = some (.int .i32 (l.getD k sp0).t) ∧ (spcs l)[k * 3 + 2]? = some (.int .i64 (l.getD k sp0).h) := by
  induction l generalizing k with
  | nil => simp at h
  | cons s l ih =>
    cases k with
    | zero => simp [spcs, spc]
    | succ k =>
      have := ih k (by simpa using h)
      have e : spcs (s :: l) = spc s ++ spcs l := by simp [spcs]
      rw [e, show (k + 1) * 3 = 3 + k * 3 by omega, show 3 + k * 3 + 1 = 3 + (k * 3 + 1) by omega, show 3 + k * 3 + 2 = 3 + (k * 3 + 2) by omega]
      have hl : (spc s).length = 3 := rfl
      rw [List.getElem?_append_right (by omega), List.getElem?_append_right (by omega), List.getElem?_append_right (by omega), hl]
      simpa using this

/-- A span laid behind a table. -/
def layL (l : List Sp) (s : Sp) : List Sp :=
  match l.getLast? with
  | some p => if joinS p s then l.dropLast ++ [⟨p.f, s.t, p.h⟩] else l ++ [s]
  | none => [s]

theorem grown_trans {a b c : World} {row : Option Nat} (h : a.grownBy b row) (k : b.grownBy c row) : a.grownBy c row :=
  ⟨k.os.trans h.os, k.tape.trans h.tape, k.output.trans h.output, Nat.le_trans h.size k.size, fun i hi hne => (k.block i (Nat.lt_of_lt_of_le hi h.size) hne).trans (h.block i hi hne)⟩
theorem Gr.grown {a b : World} (h : Gr a b) (row : Option Nat) : a.grownBy b row := ⟨h.below.os, h.below.tape, h.below.output, h.size, fun i hi _ => h.below.block i hi⟩
theorem own_gr3 {B e size n : Nat} {v : Value} {xs : List Value} {w w2 : World} (h : w.ownsRow B e size v n xs) (hg : Gr w w2) : w2.ownsRow B e size v n xs :=
  h.kept (row := none) ⟨hg.below.os, hg.below.tape, hg.below.output, hg.size, fun k hk _ => hg.below.block k hk⟩ (by cases hv : v.ownBlock <;> simp)
theorem span_info : (Try.prog.info? 37).map (fun i => (i.zero, i.size, i.bytes)) = some (some (.agg #[.int .i32 0, .int .i32 0, .int .i64 0]), 3, 16) := by kernel_rfl
theorem add_zero3 (g j : Nat) : (⟨g, 0, none⟩ : Addr).add j = ⟨g, j, none⟩ := by unfold Addr.add; split <;> simp_all

/-- A row of spans of the call's own. -/
def Ow (B : Nat) (v : Value) (l : List Sp) (w : World) : Prop := w.ownsRow B 37 3 v l.length (spcs l)

theorem Ow.shape {B : Nat} {v : Value} {l : List Sp} {w : World} (h : Ow B v l w) (hl : 0 < l.length) : ∃ g cap, v = .slice (some ⟨g, 0, none⟩) l.length cap := by
  rcases h.2 with ⟨_, h0⟩ | ⟨g, cap, _, hv, _⟩
  · omega
  · exact ⟨g, cap, hv⟩
theorem Ow.cells {B : Nat} {l : List Sp} {w : World} {g n cap : Nat} (h : Ow B (.slice (some ⟨g, 0, none⟩) n cap) l w) {k : Nat} (hk : k < l.length) :
    w.cell? ⟨g, k * 3, none⟩ = some (.int .i32 (l.getD k sp0).f) ∧ w.cell? ⟨g, k * 3 + 1, none⟩ = some (.int .i32 (l.getD k sp0).t) ∧ w.cell? ⟨g, k * 3 + 2, none⟩ = some (.int .i64 (l.getD k sp0).h) := by
  obtain ⟨h1, h2, h3⟩ := spcs_get l k hk
  refine ⟨?_, ?_, ?_⟩
  · have := World.ownsRow.cells h (g := g) rfl _ _ h1; rwa [add_zero3] at this
  · have := World.ownsRow.cells h (g := g) rfl _ _ h2; rwa [add_zero3] at this
  · have := World.ownsRow.cells h (g := g) rfl _ _ h3; rwa [add_zero3] at this
theorem Ow.tab {B : Nat} {v : Value} {l : List Sp} {w : World} (h : Ow B v l w) : Tab w v l := by
  rcases h.2 with ⟨hv, h0⟩ | ⟨g, cap, cur, hv, _⟩
  · obtain rfl : l = [] := List.length_eq_zero_iff.1 h0
    rw [hv]; exact Tab.nil _ _ _
  · subst hv
    refine ⟨_, cap, rfl, fun _ => ⟨g, 0, rfl, fun j hj => ?_⟩⟩
    have := Ow.cells h hj
    simpa using this

theorem layL_nil (s : Sp) : layL [] s = [s] := rfl
theorem last_getD (l : List Sp) (h : 0 < l.length) : l.getLast? = some (l.getD (l.length - 1) sp0) := by
  rw [List.getLast?_eq_getElem?]
  simp [List.getD, show l.length - 1 < l.length by omega]
theorem layL_push (l : List Sp) (s : Sp) (h : 0 < l.length) (hj : joinS (l.getD (l.length - 1) sp0) s = false) : layL l s = l ++ [s] := by
  unfold layL; rw [last_getD l h]; simp only []; rw [if_neg (by rw [hj]; exact Bool.false_ne_true)]
theorem layL_into (l : List Sp) (s : Sp) (h : 0 < l.length) (hj : joinS (l.getD (l.length - 1) sp0) s = true) : layL l s = l.dropLast ++ [⟨(l.getD (l.length - 1) sp0).f, s.t, (l.getD (l.length - 1) sp0).h⟩] := by
  unfold layL; rw [last_getD l h]; simp only []; rw [if_pos hj]
theorem spcs_into (l : List Sp) (h : 0 < l.length) (t : Int) : (spcs l).set ((l.length - 1) * 3 + 1) (.int .i32 t) = spcs (l.dropLast ++ [⟨(l.getD (l.length - 1) sp0).f, t, (l.getD (l.length - 1) sp0).h⟩]) := by
  obtain ⟨l0, s, rfl⟩ : ∃ l0 s, l = l0 ++ [s] := ⟨l.dropLast, l.getLast (by intro e; rw [e] at h; simp at h), (List.dropLast_concat_getLast _).symm⟩
  have hg : (l0 ++ [s]).getD ((l0 ++ [s]).length - 1) sp0 = s := by simp [List.getD]
  rw [hg, spcs_append, List.dropLast_concat, spcs_append]
  have hl : (spcs l0).length = l0.length * 3 := spcs_length l0
  rw [List.set_append_right _ _ (by simp; omega)]
  congr 1
  simp only [List.length_append, List.length_cons, List.length_nil, hl]
  rw [show (l0.length + (0 + 1) - 1) * 3 + 1 - l0.length * 3 = 1 by omega]
  simp [spcs, spc]

theorem heap_new (w : World) (o : Obj) : (w.alloc o).heap[w.heap.size]? = some o := by
  show (w.heap.push o)[w.heap.size]? = some o
  simp

set_option maxHeartbeats 1600000 in
theorem lay_none (B : Nat) (a : Option Addr) (c : Nat) (f t h : Int) (w : World) (hown : Ow B (.slice a 0 c) [] w) (hB : B ≤ w.heap.size) :
    Calls Try.prog 26 #[.slice a 0 c, .agg #[.int .i32 f, .int .i32 t, .int .i64 h]] w fun e w' => ∃ g cap, e = .returned (.slice (some ⟨g, 0, none⟩) 1 cap) ∧ Ow B (.slice (some ⟨g, 0, none⟩) 1 cap) [⟨f, t, h⟩] w' ∧ w.grownBy w' (Value.slice a 0 c).ownBlock ∧ ((Value.slice a 0 c).ownBlock = some g ∨ w.heap.size ≤ g) := by
  have mx := mixed
  obtain ⟨i0, hi, hz0', hz1, hz2⟩ := info_parts span_info
  obtain ⟨a1, a2, a3⟩ := box3 w (.int .i32 f) (.int .i32 t) (.int .i64 h) 37
  have gr0 := (Gr.refl w).alloc (.cells #[.int .i32 f, .int .i32 t, .int .i64 h] 37)
  have hm1 : 0 + 1 ≤ maxLen := by unfold maxLen; omega
  have hm2 : (0 + 1) * 16 ≤ 140737488355328 := by omega
  go_enter Try.func26, Try.ntmps26
  go_wp2
  replace a1 := cell_gr a1
  replace a2 := cell_gr a2
  replace a3 := cell_gr a3
  generalize w.alloc (.cells #[.int .i32 f, .int .i32 t, .int .i64 h] 37) = wq at *
  refine wp_region_quiet_grown (by first | exact mx | assumption) (by kernel_rfl) ?_
  repeat (go_big_quiet_step (fail))
  refine wpQuiet_nil ?_
  intro _ hw'
  obtain ⟨⟨nq, osq⟩, hw''⟩ := hw'
  subst hw''
  have gr1 := gr0.grow nq osq
  replace a1 := a1 nq osq
  replace a2 := a2 nq osq
  replace a3 := a3 nq osq
  generalize grow (wq.drewN nq) osq = w2 at *
  have hown2 : w2.ownsRow B 37 3 (.slice a 0 c) 0 [] := own_gr3 hown gr1
  have hs2 := gr1.size
  go_wp2_with (at_builtin; refine wpList_append_lies _ rfl _ _ 22 rfl B 37 i0 _ 3 16 Try.underlying22 hi hz0' hz1 hz2 rfl (by omega) _ _ _ rfl (hown2.alloc _) ⟨w2.heap.size, 0, none⟩ 1 1 [.int .i32 f, .int .i32 t, .int .i64 h] rfl rfl (World.news_of_block (cs := #[.int .i32 f, .int .i32 t, .int .i64 h]) (t := 37) (fr := (0, 0)) (heap_new w2 _)) (by simp [Value.oneCell']) (by omega) hm1 hm2 (by simp; omega) (w2.heap.size + 1) (by simp) ?_; intro g9 cap9 w9 hown9 hgrow9 hat9 hlt9)
  go_ret
  refine ⟨g9, cap9, rfl, hown9, grown_trans ((gr1.alloc _).grown _) hgrow9, hat9.imp (fun h => h) (fun h => by omega)⟩

set_option maxHeartbeats 1600000 in
theorem lay_some (B g cap : Nat) (l : List Sp) (f t h : Int) (w : World) (hown : Ow B (.slice (some ⟨g, 0, none⟩) l.length cap) l w) (hB : B ≤ w.heap.size) (hl : l.length ≤ 1000) (hl0 : 0 < l.length)
    (hr : -2147483648 ≤ (l.getD (l.length - 1) sp0).t + 1 ∧ (l.getD (l.length - 1) sp0).t + 1 ≤ 2147483647) :
    Calls Try.prog 26 #[.slice (some ⟨g, 0, none⟩) l.length cap, .agg #[.int .i32 f, .int .i32 t, .int .i64 h]] w fun e w' => ∃ g2 cap2, e = .returned (.slice (some ⟨g2, 0, none⟩) (layL l ⟨f, t, h⟩).length cap2) ∧ Ow B (.slice (some ⟨g2, 0, none⟩) (layL l ⟨f, t, h⟩).length cap2) (layL l ⟨f, t, h⟩) w' ∧ w.grownBy w' (some g) ∧ (g = g2 ∨ w.heap.size ≤ g2) := by
  have mx := mixed
  obtain ⟨i0, hi, hz0', hz1, hz2⟩ := info_parts span_info
  obtain ⟨a1, a2, a3⟩ := box3 w (.int .i32 f) (.int .i32 t) (.int .i64 h) 37
  have gr0 := (Gr.refl w).alloc (.cells #[.int .i32 f, .int .i32 t, .int .i64 h] 37)
  have hm1 : l.length + 1 ≤ maxLen := by unfold maxLen; omega
  have hm2 : (l.length + 1) * 16 ≤ 140737488355328 := by omega
  obtain ⟨c1, c2, c3⟩ := hown.cells (k := l.length - 1) (by omega)
  have hfro : w.frozen? ⟨g, (l.length - 1) * 3 + 1, none⟩ = false := World.ownsRow.frozenAt hown _
  replace c1 := gr0.cell c1
  replace c2' := gr0.cell c2
  replace c3 := gr0.cell c3
  have HIN := hide (fun s => layL_into l s hl0)
  have HPU := hide (fun s => layL_push l s hl0)
  have HSP := hide (spcs_into l hl0 t)
  have HOW := hide hown
  generalize l.getD (l.length - 1) sp0 = p at *
  obtain ⟨pf, pt, ph⟩ := p
  dsimp only at c1 c2 c2' c3 hr
  have d1 : decide ((l.length : Int) > 0) = true := decide_eq_true (by omega)
  have d2 : decide ((0 : Int) < (l.length : Int)) = true := decide_eq_true (by omega)
  have d3 : decide (0 < l.length) = true := decide_eq_true hl0
  have hz : (0 : Int) < (l.length : Int) := by omega
  have hw : IntKind.i64.wrap ((l.length : Int) - 1) = (l.length : Int) - 1 := by rw [IntKind.wrap_i64]; omega
  have hx0 : (0 : Int) ≤ (l.length : Int) - 1 := by omega
  have hx1 : (l.length : Int) - 1 < (l.length : Int) := by omega
  have hxt : ((l.length : Int) - 1).toNat = l.length - 1 := by omega
  obtain ⟨k, hk⟩ : ∃ k, k = l.length - 1 := ⟨_, rfl⟩
  rw [← hk] at c1 c2 c2' c3 hxt hfro HSP
  have HKK := hide hk
  clear hk
  have hjj := fun w => joins_any pf pt ph f t h w hr.1 hr.2
  cases hj : joinS ⟨pf, pt, ph⟩ ⟨f, t, h⟩ <;> rw [hj] at hjj
  · have HE := hide (unhide HPU ⟨f, t, h⟩ hj)
    have HJ := hide hjj
    clear hj hjj hown c2
    go_enter Try.func26, Try.ntmps26
    go_wp2
    replace a1 := cell_gr a1
    replace a2 := cell_gr a2
    replace a3 := cell_gr a3
    replace c1 := cell_gr c1
    replace c2' := cell_gr c2'
    replace c3 := cell_gr c3
    generalize w.alloc (.cells #[.int .i32 f, .int .i32 t, .int .i64 h] 37) = wq at *
    refine wp_region_quiet_grown (by first | exact mx | assumption) (by kernel_rfl) ?_
    repeat (go_big_quiet_step ((go_at_call 29; exact callsGr (unhide HJ _))))
    refine wpQuiet_nil ?_
    intro _ hw'
    obtain ⟨⟨nq, osq⟩, hw''⟩ := hw'
    subst hw''
    have gr1 := gr0.grow nq osq
    replace a1 := a1 nq osq
    replace a2 := a2 nq osq
    replace a3 := a3 nq osq
    generalize grow (wq.drewN nq) osq = w2 at *
    clear c1 c2' c3
    have hown2 : w2.ownsRow B 37 3 (.slice (some ⟨g, 0, none⟩) l.length cap) l.length (spcs l) := own_gr3 (unhide HOW) gr1
    have hs2 := gr1.size
    go_wp2_with (at_builtin; refine wpList_append_lies _ rfl _ _ 22 rfl B 37 i0 _ 3 16 Try.underlying22 hi hz0' hz1 hz2 rfl (by omega) _ _ _ rfl (hown2.alloc _) ⟨w2.heap.size, 0, none⟩ 1 1 [.int .i32 f, .int .i32 t, .int .i64 h] rfl rfl (World.news_of_block (cs := #[.int .i32 f, .int .i32 t, .int .i64 h]) (t := 37) (fr := (0, 0)) (heap_new w2 _)) (by simp [Value.oneCell']) (by omega) hm1 hm2 (by simp; omega) (w2.heap.size + 1) (by simp) ?_; intro g9 cap9 w9 hown9 hgrow9 hat9 hlt9)
    go_ret
    refine ⟨g9, cap9, ?_, ?_, grown_trans ((gr1.alloc _).grown _) hgrow9, hat9.imp (fun h => by cases h; rfl) (fun h => by omega)⟩
    · rw [unhide HE, List.length_append]; rfl
    · rw [unhide HE]
      show w9.ownsRow B 37 3 _ _ _
      rw [spcs_append, List.length_append]
      exact hown9
  · have HE := hide (unhide HIN ⟨f, t, h⟩ hj)
    have HJ := hide hjj
    clear hj hjj hown c2
    go_enter Try.func26, Try.ntmps26
    go_wp2
    replace a1 := cell_gr a1
    replace a2 := cell_gr a2
    replace a3 := cell_gr a3
    replace c1 := cell_gr c1
    replace c2' := cell_gr c2'
    replace c3 := cell_gr c3
    generalize w.alloc (.cells #[.int .i32 f, .int .i32 t, .int .i64 h] 37) = wq at *
    refine wp_region_quiet_grown (by first | exact mx | assumption) (by kernel_rfl) ?_
    repeat (go_big_quiet_step ((go_at_call 29; exact callsGr (unhide HJ _))))
    refine wpQuiet_nil ?_
    intro _ hw'
    obtain ⟨⟨nq, osq⟩, hw''⟩ := hw'
    subst hw''
    have gr1 := gr0.grow nq osq
    replace a2 := a2 nq osq
    replace c2' := c2' nq osq
    generalize grow (wq.drewN nq) osq = w2 at *
    clear c1 c3 a1 a3
    have hown2 : w2.ownsRow B 37 3 (.slice (some ⟨g, 0, none⟩) l.length cap) l.length (spcs l) := own_gr3 (unhide HOW) gr1
    have hfr2 : w2.frozen? ⟨g, k * 3 + 1, none⟩ = false := World.ownsRow.frozenAt hown2 _
    go_wp2
    go_ret
    obtain ⟨s1, s2⟩ := World.ownsRow.stored hown2 (k * 3 + 1) (.int .i32 t)
    have hll : (layL l ⟨f, t, h⟩).length = l.length := by rw [unhide HE]; simp; omega
    refine ⟨g, cap, by rw [hll]; rfl, ?_, grown_trans (gr1.grown _) s2, .inl rfl⟩
    show World.ownsRow _ B 37 3 _ _ _
    rw [hll, unhide HE, ← unhide HSP]
    exact s1

/-- lay: of any table of the call's own. -/
theorem lay_any (B : Nat) (v : Value) (l : List Sp) (f t h : Int) (w : World) (hown : Ow B v l w) (hB : B ≤ w.heap.size) (hl : l.length ≤ 1000)
    (hr : 0 < l.length → -2147483648 ≤ (l.getD (l.length - 1) sp0).t + 1 ∧ (l.getD (l.length - 1) sp0).t + 1 ≤ 2147483647) :
    Calls Try.prog 26 #[v, .agg #[.int .i32 f, .int .i32 t, .int .i64 h]] w fun e w' => ∃ g cap, e = .returned (.slice (some ⟨g, 0, none⟩) (layL l ⟨f, t, h⟩).length cap) ∧ Ow B (.slice (some ⟨g, 0, none⟩) (layL l ⟨f, t, h⟩).length cap) (layL l ⟨f, t, h⟩) w' ∧ w.grownBy w' v.ownBlock ∧ (v.ownBlock = some g ∨ w.heap.size ≤ g) := by
  by_cases h0 : l.length = 0
  · obtain rfl : l = [] := List.length_eq_zero_iff.1 h0
    rcases hown.2 with ⟨hv, _⟩ | ⟨g, cap, _, hv, _⟩
    · subst hv; exact lay_none B none 0 f t h w hown hB
    · subst hv; exact lay_none B _ cap f t h w hown hB
  · obtain ⟨g, cap, rfl⟩ := hown.shape (by omega)
    exact (lay_some B g cap l f t h w hown hB hl (by omega) (hr (by omega))).mono fun e w' ⟨g2, c2, h1, h2, h3, h4⟩ => ⟨g2, c2, h1, h2, h3, h4.imp (fun h => by rw [← h]; rfl) id⟩
end Go.Proofs.Ytnlkefdicpeemaa
