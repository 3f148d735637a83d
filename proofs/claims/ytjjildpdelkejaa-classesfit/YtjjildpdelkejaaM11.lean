/- A range over a line: one law for its callers. The line may go on for ever: that the rounds end is the caller's word (hM). -/
import Derived.Test.YtjjildpdelkejaaM09
import Derived.Maps.AppendAt
namespace Go.Proofs.Ytjjildpdelkejaa
open Go.RowKit

/-- How a round may be left: off its end, or by a return. -/
def upPost (n₀ : Nat) (I Ix : List Ty → World → Prop) (s : List Ty) (W : World) : Exit → Act → World → Prop
  | .normal, _, W' => Kr n₀ W W' ∧ I s W'
  | .ret, _, W' => Kr n₀ W W' ∧ Ix s W'
  | _, _, _ => False
theorem qr_mr {B : Nat} {A C : World} (h : Mr B A C) : Qr B A C := h.mono fun o ho => by
  cases o <;> simp [plainO, attrO] at ho ⊢
  exact ho
theorem kc_kr {B : Nat} {A C : World} (h : Kr B A C) : Kc B A C := h.mono fun o ho => by
  rw [Bool.and_eq_true] at ho
  exact ho.2
theorem box_at {W : World} {B : Nat} {t : TypeId} {v : Value} (hB : B = W.heap.size) : Boxed (W.alloc (.cells #[v] t)) B t v := by rw [hB]; exact Boxed.new W t v
set_option maxHeartbeats 1600000 in
theorem wpIn_up {g : Operand} {ps : Array Tmp} {assign body : Code} {Q : Exit → Act → World → Prop} {a : Act} {w : World} (n bl bn n₀ M : Nat) (h3 : 3 ≤ n) (v : Value) (l : List Ty) (nm : ByteArray)
    (hg : a.eval g = .func (.func 79) #[] #[.pointer (some ⟨bl, 0, none⟩), .pointer (some ⟨bn, 0, none⟩)]) (hps : ps.size = 1)
    (hbl : Boxed w bl 22 v) (hbn : w.cell? ⟨bn, 0, none⟩ = some (.string nm)) (hn₀ : n₀ ≤ w.heap.size) (hV : ∀ W', Below n₀ w W' → TysV W' v l)
    (I Ix : List Ty → World → Prop) (hI : ∀ s A C, I s A → Qr w.heap.size A C → I s C) (hIx : ∀ s A C, Ix s A → Qr w.heap.size A C → Ix s C) (h0 : I [] w)
    (t₁ : Ty → Array Value) (ht : ∀ x, (ps.zip #[aggV x]).foldl (fun t (p, v) => t.setIfInBounds p v) a.tmps = t₁ x)
    (hM : ∀ pre x W, I pre W → wlk l (fndT l nm) pre (some x) → pre.length ≤ M)
    (hround : ∀ (L : Nat) (pre : List Ty) (x : Ty) (W : World), w.heap.size ≤ L → L < W.heap.size → I pre W → wlk l (fndT l nm) pre (some x) →
      assign.wpIn (Fence.wide.inRound L) (n - 1 - 1) Try.prog (Exit.then (fun a₁ W₁ => Kr n₀ W W₁ ∧ ∀ r r', W₁.heap[L]? = some (.loop r) → body.wpIn (Fence.wide.inRound L) (n - 1 - 1) Try.prog (upPost n₀ I Ix (pre ++ [x]) (W₁.putObj L (.loop r'))) a₁ (W₁.putObj L (.loop r'))) (fun _ _ _ => False))
        { tmps := t₁ x, defers := [] } W)
    (hdone : ∀ (D : Nat) (xs : List Ty) (W : World), w.heap.size ≤ D → wlk l (fndT l nm) xs none → I xs W → W.heap[D]? = some (.deferred (some [])) → Q .normal { a with defers := { target := .collected D, args := #[] } :: a.defers } W)
    (hstop : ∀ (D : Nat) (pre : List Ty) (o : Option Ty) (W : World), w.heap.size ≤ D → wlk l (fndT l nm) pre o → Ix pre W → W.heap[D]? = some (.deferred (some [])) → Code.ret.wpIn Fence.wide n Try.prog Q { a with defers := { target := .collected D, args := #[] } :: a.defers } W) :
    (Code.rangeFunc g ps assign body).wpIn Fence.wide n Try.prog Q a w := by
  refine wpIn_rangeFunc fun fn hfn => ?_
  rw [show Fence.wide.round = none from rfl]
  -- the loop's record, by its state and what is pending
  obtain ⟨rc, hrc⟩ : ∃ rc : LoopState → Option Code → Loop, rc = fun st pe => { state := st, pending := pe, fn, tmps := a.tmps, params := ps, assign, body, defers := w.heap.size } := ⟨_, rfl⟩
  obtain ⟨W1, hW1⟩ : ∃ W1, (w.alloc (.deferred (some []))).alloc (.loop (rc .ready none)) = W1 := ⟨_, rfl⟩
  have b1 : Below w.heap.size w W1 := by rw [← hW1]; exact ((Below.refl _ w).alloc (Nat.le_refl _) _).alloc (by simp) _
  have s1 : W1.heap.size = w.heap.size + 2 := by rw [← hW1]; simp
  have hL1 : W1.heap[w.heap.size + 1]? = some (.loop (rc .ready none)) := by
    have := heap_new (w.alloc (.deferred (some []))) (.loop (rc .ready none))
    rw [World.size_alloc] at this
    rw [← hW1]
    exact this
  have hD1 : W1.heap[w.heap.size]? = some (.deferred (some [])) := by
    have k := (Below.one (w.alloc (.deferred (some []))) (.loop (rc .ready none))).block w.heap.size (by simp)
    rw [← hW1]
    exact k.trans (heap_new w _)
  refine ⟨w.heap.size + 1, [{ target := .collected w.heap.size, args := #[] }], W1, { target := .fn (.func 79) #[.pointer (some ⟨bl, 0, none⟩), .pointer (some ⟨bn, 0, none⟩)], args := #[.func (.yield (w.heap.size + 1)) #[] #[]] }, W1, 79,
    #[.func (.yield (w.heap.size + 1)) #[] #[], .pointer (some ⟨bl, 0, none⟩), .pointer (some ⟨bn, 0, none⟩)], W1, ?_, ?_, fun _ _ => trivial, ?_, fun _ => by omega, ?_⟩
  · rw [← hW1, hrc]; exact run_enterLoop_outer _ _ _ _ _
  · simp only [resolve, hg]
    simp [go_sem]
  · have eg : ∀ args w, (callFunc 79 args).run Try.prog w = .ok (.enter 79 args) w := enters_of Try.func79 (by kernel_rfl) rfl
    simp [invoke, go_sem, eg]
  refine (up_in (n - 1) (w.heap.size + 1) bl bn n₀ M (by omega) v l nm
    (fun pre W => I pre W ∧ W.heap[w.heap.size + 1]? = some (.loop (rc .ready none)) ∧ W.heap[w.heap.size]? = some (.deferred (some [])))
    (fun pre W => Ix pre W ∧ W.heap[w.heap.size + 1]? = some (.loop (rc .done (some .ret))) ∧ W.heap[w.heap.size]? = some (.deferred (some [])))
    W1 ((b1.block _ hbl.lt).trans hbl) ((b1.cell (cell_lt hbn)).trans hbn) (by omega) (fun W' h => hV W' ((b1.mono hn₀).trans h))
    (fun s A C h k => ⟨hI s A C h.1 ((qr_mr k).lower (by omega)), k.same _ _ h.2.1 rfl, k.same _ _ h.2.2 rfl⟩)
    ?_ (fun pre x W h hw => hM pre x W h.1 hw) ⟨hI _ _ _ h0 (Ke.of_below _ b1 (Nat.le_refl _)), hL1, hD1⟩).mono ?_
  · rintro pre x W ⟨hi, hl, hd⟩ hw
    have hy := run_yield (P := Try.prog) (args := #[aggV x]) hl (by rw [hrc]; exact hps.symm)
    rw [hrc] at hy
    refine ⟨fn, _, assign, body, hy, roundIn_of_wpIn hfn ?_⟩
    clear hy
    dsimp only
    rw [ht]
    refine wpIn_mono (hround (w.heap.size + 1) pre x W (by omega) (bt_lt hl) hi hw) ?_
    intro e a₁ W₁ h
    cases e with
    | normal =>
      obtain ⟨k1, hb⟩ := h
      have hl1 := k1.same _ _ hl rfl
      have hd1 := k1.same _ _ hd rfl
      refine ⟨_, run_beginRound hl1 (by rw [hrc]), ?_⟩
      have hl2 : (W₁.putObj (w.heap.size + 1) (.loop { rc .ready none with state := .busy })).heap[w.heap.size + 1]? = some (.loop { rc .ready none with state := .busy }) := World.putObj_heap_same (bt_lt hl1)
      have hd2 : (W₁.putObj (w.heap.size + 1) (.loop { rc .ready none with state := .busy })).heap[w.heap.size]? = some (.deferred (some [])) := (World.putObj_heap_other (by omega)).trans hd1
      refine wpIn_mono (hb _ { rc .ready none with state := .busy } hl1) ?_
      have k2 : Kc n₀ W₁ (W₁.putObj (w.heap.size + 1) (.loop { rc .ready none with state := .busy })) := Ke.put _ (by omega) hl1 rfl
      generalize W₁.putObj (w.heap.size + 1) (.loop { rc .ready none with state := .busy }) = W₂ at *
      intro e a3 W3 h
      cases e with
      | normal =>
        obtain ⟨k3, hi3⟩ := h
        have hl3 := k3.same _ _ hl2 rfl
        have hd3 := k3.same _ _ hd2 rfl
        have hr := run_endRound (P := Try.prog) none hl3
        refine ⟨_, _, hr, .inl ⟨rfl, ⟨hI _ _ _ hi3 (Ke.put _ (by omega) hl3 rfl), ?_, (World.putObj_heap_other (by omega)).trans hd3⟩, (((kc_kr k1).trans k2).trans (kc_kr k3)).trans (Ke.put _ (by omega) hl3 rfl)⟩⟩
        rw [World.putObj_heap_same (bt_lt hl3), hrc]
        rfl
      | ret =>
        obtain ⟨k3, hi3⟩ := h
        have hl3 := k3.same _ _ hl2 rfl
        have hd3 := k3.same _ _ hd2 rfl
        have hr := run_endRound (P := Try.prog) (some .ret) hl3
        refine ⟨_, _, hr, .inr ⟨rfl, hIx _ _ _ hi3 (Ke.put _ (by omega) hl3 rfl), ?_, (World.putObj_heap_other (by omega)).trans hd3⟩⟩
        rw [World.putObj_heap_same (bt_lt hl3), hrc]
        rfl
      | _ => exact h.elim
    | _ => exact h.elim
  · rintro e W2 ⟨⟨u, rfl⟩, ⟨xs, hw, hi, hl, hd⟩ | ⟨pre, o, hw, hi, hl, hd⟩⟩
    · exact ⟨none, _, by have := run_endLoop (P := Try.prog) hl (by rw [hrc]; simp); rw [hrc] at this; exact this, hdone _ xs _ (Nat.le_refl _) hw (hI _ _ _ hi (Ke.put _ (by omega) hl rfl)) ((World.putObj_heap_other (by omega)).trans hd)⟩
    · exact ⟨some .ret, _, by have := run_endLoop (P := Try.prog) hl (by rw [hrc]; simp); rw [hrc] at this; exact this, hstop _ pre o _ (Nat.le_refl _) hw (hIx _ _ _ hi (Ke.put _ (by omega) hl rfl)) ((World.putObj_heap_other (by omega)).trans hd)⟩
end Go.Proofs.Ytjjildpdelkejaa
/- The landed endless: does a line go on for longer than there are types? -/
namespace Go.Proofs.Ytjjildpdelkejaa
open Go.RowKit
attribute [local go_sem] Oper.semAt_some

set_option maxHeartbeats 800000 in
theorem mkline_any (a : Option Addr) (k c : Nat) (n : ByteArray) (w : World) : Calls Try.prog 68 #[.slice a k c, .string n] w fun e w' => e = .returned (.func (.func 79) #[] #[.pointer (some ⟨w.heap.size, 0, none⟩), .pointer (some ⟨w.heap.size + 1, 0, none⟩)]) ∧ w' = (w.alloc (.cells #[.slice a k c] 22)).alloc (.cells #[.string n] 9) := by
  go_enter Try.func68, Try.ntmps68
  go_wp2
  go_ret
  exact ⟨rfl, rfl⟩
set_option maxRecDepth 100000 in
set_option maxHeartbeats 3200000 in
theorem endless_any (v : Value) (l : List Ty) (n : ByteArray) (w : World) (hV : TysV w v l) : Calls Try.prog 67 #[v, .string n] w fun e w' =>
    ∃ z, e = .returned (.bool z) ∧ (z = true → ∃ pre o, wlk l (fndT l n) pre o ∧ pre.length = l.length + 1) ∧ (z = false → ∃ xs, xs.length ≤ l.length ∧ wlk l (fndT l n) xs none) ∧ Below w.heap.size w w' := by
  have hn2 : (l.length : Int) ≤ 9223372036854775807 := by obtain ⟨_, _, _, h, _⟩ := hV; omega
  have HV := hide hV
  obtain ⟨va, vc, rfl⟩ := hV.shape
  clear hV
  refine (callsIn_wide (n := 4)).1 ?_
  refine callsIn_of_wp_marks Try.func67 rfl trivial ?_ rfl
  simp only [Try.ntmps67, List.size_toArray, List.length_cons, List.length_nil, Nat.reduceAdd, Nat.reduceSub, Array.replicate_succ, Array.replicate_zero, List.push_toArray, List.append_toArray, List.nil_append, List.cons_append]
  gi_wp2_with (refine ⟨trivial, ?_⟩; gi_at_call 68; refine (callsIn_wide.2 (mkline_any _ _ _ _ _)).mono ?_; rintro e w2 ⟨rfl, rfl⟩)
  obtain ⟨W0, hW0⟩ : ∃ W0, (((((w.alloc (.cells #[.slice va l.length vc] 22)).alloc (.cells #[.bool false] 4)).alloc (.cells #[.int .i64 0] 3)).alloc (.cells #[.slice va l.length vc] 22)).alloc (.cells #[.string n] 9)) = W0 := ⟨_, rfl⟩
  rw [hW0]
  have s0 : W0.heap.size = w.heap.size + 5 := by rw [← hW0]; simp
  have B0 : Below w.heap.size w W0 := by rw [← hW0]; exact (((((Below.refl _ w).alloc (by simp) _).alloc (by simp) _).alloc (by simp; omega) _).alloc (by simp; omega) _).alloc (by simp; omega) _
  have x0 : Boxed W0 w.heap.size 22 (.slice va l.length vc) := by rw [← hW0]; exact (((((Boxed.new _ _ _).alloc _).alloc _).alloc _).alloc _)
  have x1 : Boxed W0 (w.heap.size + 1) 4 (.bool false) := by rw [← hW0]; exact ((((box_at (by simp)).alloc _).alloc _).alloc _)
  have x2 : Boxed W0 (w.heap.size + 1 + 1) 3 (.int .i64 0) := by rw [← hW0]; exact (((box_at (by simp)).alloc _).alloc _)
  have x3 : Boxed W0 (w.heap.size + 1 + 1 + 1) 22 (.slice va l.length vc) := by rw [← hW0]; exact ((box_at (by simp)).alloc _)
  have x4 : Boxed W0 (w.heap.size + 1 + 1 + 1 + 1) 9 (.string n) := by rw [← hW0]; exact (box_at (by simp))
  clear hW0
  have hI : ∀ (s : List Ty) (A C : World), (s.length ≤ l.length ∧ Boxed A w.heap.size 22 (.slice va l.length vc) ∧ Boxed A (w.heap.size + 1) 4 (.bool false) ∧ Boxed A (w.heap.size + 1 + 1) 3 (.int .i64 (s.length : Int)) ∧ Below w.heap.size w A) → Qr W0.heap.size A C →
      (s.length ≤ l.length ∧ Boxed C w.heap.size 22 (.slice va l.length vc) ∧ Boxed C (w.heap.size + 1) 4 (.bool false) ∧ Boxed C (w.heap.size + 1 + 1) 3 (.int .i64 (s.length : Int)) ∧ Below w.heap.size w C) := fun s A C ⟨h1, h2, h3, h4, h5⟩ k => ⟨h1, k.same _ _ h2 rfl, k.same _ _ h3 rfl, k.same _ _ h4 rfl, h5.trans (k.below.mono (by omega))⟩
  refine wpIn_up 4 (w.heap.size + 1 + 1 + 1) (w.heap.size + 1 + 1 + 1 + 1) w.heap.size l.length (by omega) (.slice va l.length vc) l n rfl rfl x3 x4.cell (by omega) (fun W' h => (unhide HV).below (B0.trans h))
    (fun s A => s.length ≤ l.length ∧ Boxed A w.heap.size 22 (.slice va l.length vc) ∧ Boxed A (w.heap.size + 1) 4 (.bool false) ∧ Boxed A (w.heap.size + 1 + 1) 3 (.int .i64 (s.length : Int)) ∧ Below w.heap.size w A)
    (fun s A => s.length = l.length + 1 ∧ Boxed A (w.heap.size + 1) 4 (.bool true) ∧ Below w.heap.size w A)
    hI (fun s A C ⟨h1, h2, h3⟩ k => ⟨h1, k.same _ _ h2 rfl, h3.trans (k.below.mono (by omega))⟩)
    ⟨by simp, x0, x1, x2, B0⟩
    (fun x => #[.slice va l.length vc, .string n, .pointer (some ⟨w.heap.size, 0, none⟩), undef, .pointer (some ⟨w.heap.size + 1, 0, none⟩), .pointer (some ⟨w.heap.size + 1 + 1, 0, none⟩), .slice va l.length vc, .string n, .func (.func 79) #[] #[.pointer (some ⟨w.heap.size + 1 + 1 + 1, 0, none⟩), .pointer (some ⟨w.heap.size + 1 + 1 + 1 + 1, 0, none⟩)], aggV x, undef, undef, undef, undef, undef, undef]) (fun _ => by simp)
    (fun pre x W h _ => h.1) ?round ?done ?stop
  case round =>
    intro L pre x W hL hLW hi hw
    gi_wp2
    refine ⟨Ke.refl _ _ _, fun r r' hr => ?_⟩
    have hi2 := hI _ _ _ hi (Ke.put (.loop r') (by omega) hr rfl)
    generalize W.putObj L (.loop r') = W2 at *
    obtain ⟨h1, y0, y1, y2, hb⟩ := hi2
    have c0 := y0.cell
    have c1 := y1.cell
    have c2 := y2.cell
    have f1 := y1.frozen
    have f2 := y2.frozen
    have hlen : (pre ++ [x]).length = pre.length + 1 := by simp
    by_cases hq : pre.length = l.length
    · have hz : ((pre.length : Int) == (l.length : Int)) = true := by rw [hq]; simp
      clear hi
      gi_wp2
      exact ⟨Ke.set (by omega) y1 rfl, by rw [hlen, hq], y1.set _, hb.setCell (p := ⟨w.heap.size + 1, 0, none⟩) (by simp) _⟩
    · have hz : ((pre.length : Int) == (l.length : Int)) = false := by rw [beq_eq_false_iff_ne]; omega
      clear hi
      gi_wp2
      refine ⟨Ke.set (by omega) y2 rfl, by rw [hlen]; omega, y0.other (by omega) _, y1.other (by omega) _, ?_, hb.setCell (p := ⟨w.heap.size + 1 + 1, 0, none⟩) (by simp; omega) _⟩
      rw [hlen]
      exact y2.set _
  case done =>
    rintro D xs W hD hw ⟨h1, _, y1, _, hb⟩ hK
    have c1 := y1.cell
    have f1 := y1.frozen
    gi_wp2
    have hK' := (KeepsOthers.setCell W ⟨w.heap.size + 1, 0, none⟩ (.bool false)).same D _ hK rfl
    refine ⟨by simp, .inl ⟨_, _, rfl, run_takeDeferred hK', ?_⟩⟩
    have hc5 := cell_kept ((y1.set (.bool false)).cell) (grownBy_putObj' _ D (.deferred none)) (fun r e => by cases e; exact ⟨_, hK', rfl⟩)
    refine ⟨.bool false, ?_, false, rfl, fun h => (by cases h), fun _ => ⟨xs, h1, hw⟩, (hb.setCell (p := ⟨w.heap.size + 1, 0, none⟩) (by simp) _).trans (belowK_b (w := w) (Nat.le_refl _) _ D _ _ (by omega) hK' rfl rfl)⟩
    simp [results, Try.f67, go_sem, hc5]
  case stop =>
    rintro D pre o W hD hw ⟨h1, y1, hb⟩ hK
    gi_wp2
    refine ⟨by simp, .inl ⟨_, _, rfl, run_takeDeferred hK, ?_⟩⟩
    have hc5 := cell_kept y1.cell (grownBy_putObj' _ D (.deferred none)) (fun r e => by cases e; exact ⟨_, hK, rfl⟩)
    refine ⟨.bool true, ?_, true, rfl, fun _ => ⟨pre, o, hw, h1⟩, fun h => (by cases h), hb.trans (belowK_b (w := w) (Nat.le_refl _) W D _ _ (by omega) hK rfl rfl)⟩
    simp [results, Try.f67, go_sem, hc5]
end Go.Proofs.Ytjjildpdelkejaa
/- The landed fitAbove and mayBe. -/
namespace Go.Proofs.Ytjjildpdelkejaa
open Go.RowKit

set_option maxHeartbeats 3200000 in
theorem fitab_any (v : Value) (l : List Ty) (a : Ty) (w : World) (hV : TysV w v l) : Calls Try.prog 66 #[v, .agg #[.string a.nam, .string a.abv, .int .i64 a.syn, .int .i64 a.rul, .bool a.sgl, .bool a.cls]] w fun e w' => e = .returned (.bool (abvB l a)) ∧ Below w.heap.size w w' := by
  have mx : Try.prog.follows .mixedOrders = true := by kernel_rfl
  have B0 : Hid (Bt w.heap.size a (w.alloc (.cells #[.string a.nam, .string a.abv, .int .i64 a.syn, .int .i64 a.rul, .bool a.sgl, .bool a.cls] 65))) := heap_new w _
  have b0 := Below.one w (.cells #[.string a.nam, .string a.abv, .int .i64 a.syn, .int .i64 a.rul, .bool a.sgl, .bool a.cls] 65)
  have CF := hide (find_any v l a.abv _ (hV.below b0))
  obtain ⟨va, vc, rfl⟩ := hV.shape
  clear hV
  have hem := emp_iff a.abv
  have HA : Hid (abvB l a = if a.abv = te then true else match fndT l a.abv with | none => false | some b => decide (b.syn = a.syn)) := rfl
  generalize abvB l a = R at *
  by_cases e : a.abv = te
  · rw [decide_eq_true e] at hem
    rw [if_pos e] at HA
    clear e CF
    go_enter Try.func66, Try.ntmps66
    go_wp2
    go_ret
    exact ⟨ret_bool (unhide HA).symm, b0⟩
  rw [decide_eq_false e] at hem
  rw [if_neg e] at HA
  clear e
  unfold fnA fnB at CF
  cases hf : fndT l a.abv with
  | none =>
    rw [hf] at CF HA
    simp only [Option.getD_none, Option.isSome_none] at CF HA
    clear hf
    unfold aggV at CF
    go_enter Try.func66, Try.ntmps66
    go_wp2_with (go_at_call 78; refine (unhide CF).mono ?_; rintro e w2 ⟨rfl, b2⟩; have t2 := b0.trans (b2.mono b0.size))
    go_ret
    exact ⟨ret_bool (unhide HA).symm, t2.trans ((Below.one w2 _).mono t2.size)⟩
  | some b =>
    rw [hf] at CF HA
    simp only [Option.getD_some, Option.isSome_some] at CF HA
    clear hf
    unfold aggV at CF
    have hs : (b.syn == a.syn) = decide (b.syn = a.syn) := by by_cases h : b.syn = a.syn <;> simp [h]
    generalize decide (b.syn = a.syn) = z at *
    go_enter Try.func66, Try.ntmps66
    go_wp2_with (go_at_call 78; refine (unhide CF).mono ?_; rintro e w2 ⟨rfl, b2⟩; have t2 := b0.trans (b2.mono b0.size); have q2 := (((unhide B0).keep b2).keep (Below.one w2 (.cells #[.string b.nam, .string b.abv, .int .i64 b.syn, .int .i64 b.rul, .bool b.sgl, .bool b.cls] 65))).cells.2.2.1; simp only [Nat.zero_add] at q2)
    go_ret
    exact ⟨ret_bool (unhide HA).symm, t2.trans ((Below.one w2 _).mono t2.size)⟩
theorem bs_next {l : List Ty} {k : Nat} (h : ∀ j, j < k → bsAt l j) (hk : bsAt l k) : ∀ j, j < k + 1 → bsAt l j := fun j hj => by
  by_cases e : j = k
  · rw [e]; exact hk
  · exact h j (by omega)
/-- What the second loop sees of a type. -/
def abAt (l : List Ty) (k : Nat) : Prop := abvB l (l.getD k ty0) = true ∧ ∃ xs, xs.length ≤ l.length ∧ wlk l (fndT l (l.getD k ty0).nam) xs none
theorem ab_next {l : List Ty} {k : Nat} (h : ∀ j, j < k → abAt l j) (hk : abAt l k) : ∀ j, j < k + 1 → abAt l j := fun j hj => by
  by_cases e : j = k
  · rw [e]; exact hk
  · exact h j (by omega)
set_option maxHeartbeats 6400000 in
theorem may_any (v : Value) (l : List Ty) (w : World) (hV : TysV w v l) : Calls Try.prog 46 #[v] w fun e w' => e = .returned (.bool (okT l)) ∧ Below w.heap.size w w' := by
  have mx : Try.prog.follows .mixedOrders = true := by kernel_rfl
  have HV := hide hV
  obtain ⟨va, vc, rfl⟩ := hV.shape
  clear hV
  by_cases h24 : 24 < l.length
  · have z : (24 : Int) < (l.length : Int) := by omega
    rw [show okT l = false by unfold okT; rw [decide_eq_false (by omega)]; rfl]
    go_enter Try.func46, Try.ntmps46
    go_wp2
    go_ret
    exact ⟨rfl, Below.refl _ _⟩
  have z : ¬ (24 : Int) < (l.length : Int) := by omega
  have HF : Hid (∀ k, k < l.length → ¬ bsAt l k → okT l = false) := fun k hk h => not_ok fun q => h (ok_fit q hk)
  have HG : Hid (∀ k, k < l.length → abvB l (l.getD k ty0) = false → okT l = false) := fun k hk h => not_ok fun q => by
    rw [okT_abv q (by simp [List.getD, hk])] at h
    cases h
  have HE : Hid (∀ n pre o, wlk l (fndT l n) pre o → pre.length = l.length + 1 → okT l = false) := fun n pre o h1 h2 => not_ok fun q => by
    have := (wlk_few q h1).1
    omega
  have HO : Hid ((∀ k, k < l.length → bsAt l k) → (∀ k, k < l.length → abAt l k) → okT l = true) := fun h1 h2 => ok_of (by omega) h1 h2
  clear h24
  generalize okT l = R at *
  go_enter Try.func46, Try.ntmps46
  go_wp2
  go_loopw [12] (fun vi wr => ∃ k : Nat, k ≤ l.length ∧ vi = .int .i64 (k : Int) ∧ Hid (∀ j, j < k → bsAt l j) ∧ Below w.heap.size w wr) (fun i _ => l.length - (intOf i).toNat)
  case atStart => exact ⟨0, Nat.zero_le _, rfl, fun j hj => absurd hj (Nat.not_lt_zero _), Below.refl _ _⟩
  case round =>
    obtain ⟨k, hk, rfl, HK, hb⟩ := hrel
    have hsz := hb.size
    by_cases hlt : k < l.length
    · have hzl : (k : Int) < (l.length : Int) := by omega
      have hz0 : (0 : Int) ≤ (k : Int) := by omega
      obtain ⟨va', vc', hvv, hn9, hcc⟩ := (unhide HV).below hb
      cases hvv
      obtain ⟨b, off, rfl, hce⟩ := hcc (by omega)
      obtain ⟨d0, d1, d2, d3, d4, d5⟩ := hce k hlt
      have HBS : Hid (bsAt l k = (fitA (l.getD k ty0) = true ∧ (k = 0 ∨ lsT (l.getD (k - 1) ty0).nam (l.getD k ty0).nam = true))) := rfl
      have HN := hide (unhide HF k hlt)
      have HS : Hid (bsAt l k → ∀ j, j < k + 1 → bsAt l j) := fun h => bs_next (unhide HK) h
      have HPV : Hid (∀ j, j < l.length → wr.cell? ⟨b, off + j * 6, none⟩ = some (.string (l.getD j ty0).nam)) := fun j hj => (hce j hj).1
      clear hcc hce hn9 HF HG HE HO HK
      generalize bsAt l k = bs at *
      generalize l.getD k ty0 = y at *
      have b1 : Below wr.heap.size wr (wr.alloc (.cells #[.string y.nam, .string y.abv, .int .i64 y.syn, .int .i64 y.rul, .bool y.sgl, .bool y.cls] 65)) := Below.one wr _
      have hb1 := hb.trans (b1.mono hsz)
      have hX : Bt wr.heap.size y (wr.alloc (.cells #[.string y.nam, .string y.abv, .int .i64 y.syn, .int .i64 y.rul, .bool y.sgl, .bool y.cls] 65)) := heap_new wr _
      obtain ⟨c0, c1, c2, c3, c4, c5⟩ := hX.cells
      simp only [Nat.zero_add] at c1 c2 c3 c4 c5
      replace c0 := cell_bb c0
      replace c1 := cell_bb c1
      replace c2 := cell_bb c2
      replace c3 := cell_bb c3
      replace c4 := cell_bb c4
      replace c5 := cell_bb c5
      have C1 := hide (fun W => fit_any y W)
      clear hX
      generalize fitA y = on at *
      cases on
      · have HR : Hid (false = R) := (unhide HN (by rw [unhide HBS]; simp)).symm
        clear HBS HN HS HPV
        go_wp2
        refine wp_region_below (by first | exact mx | assumption) (by kernel_rfl) ?_
        intro nebb
        repeat (go_big_quiet_step ((go_at_call 65; exact callsBB (unhide C1 _))))
        refine wpQuiet_nil ?_
        intro _ hw'
        obtain ⟨pq, hw''⟩ := hw'
        subst hw''
        have bq := pq.b
        generalize pq.W = wq at *
        go_wp2
        go_ret
        exact ⟨ret_bool (unhide HR), hb1.trans (bq.mono hb1.size)⟩
      by_cases k0 : k = 0
      · have zk : decide ((k : Int) > 0) = false := decide_eq_false (by omega)
        have zk2 : decide ((0 : Int) < (k : Int)) = false := decide_eq_false (by omega)
        have zk3 : decide (0 < k) = false := decide_eq_false (by omega)
        have HS2 := hide (unhide HS (by rw [unhide HBS]; exact ⟨rfl, .inl k0⟩))
        clear HBS HN HS k0 HPV
        go_wp2
        refine wp_region_below (by first | exact mx | assumption) (by kernel_rfl) ?_
        intro nebb
        repeat (go_big_quiet_step ((go_at_call 65; exact callsBB (unhide C1 _))))
        refine wpQuiet_nil ?_
        intro _ hw'
        obtain ⟨pq, hw''⟩ := hw'
        subst hw''
        have bq := pq.b
        generalize pq.W = wq at *
        go_wp2
        go_roundw
        case rel => exact ⟨k + 1, by omega, by go_num, unhide HS2, hb1.trans (bq.mono hb1.size)⟩
        case measure => simp [intOf]; omega
      have zk : decide ((k : Int) > 0) = true := decide_eq_true (by omega)
      have zk2 : decide ((0 : Int) < (k : Int)) = true := decide_eq_true (by omega)
      have zk3 : decide (0 < k) = true := decide_eq_true (by omega)
      obtain ⟨j, hj⟩ : ∃ j, j = k - 1 := ⟨_, rfl⟩
      have p0 := unhide HPV j (by omega)
      replace p0 := cell_bb ((b1.cell (cell_lt p0)).trans p0)
      rw [← hj] at HBS
      have wj : IntKind.i64.wrap ((k : Int) - 1) = (j : Int) := by rw [IntKind.wrap_i64]; omega
      have wj2 : (k : Int) - 1 = (j : Int) := by omega
      have hj0 : (0 : Int) ≤ (j : Int) := by omega
      have hj1 : (j : Int) < (l.length : Int) := by omega
      generalize l.getD j ty0 = x at *
      have hls : Op.bytesLess x.nam.toList y.nam.toList = lsT x.nam y.nam := rfl
      clear hj
      cases hq : lsT x.nam y.nam <;> rw [hq] at hls HBS
      · have HR : Hid (false = R) := (unhide HN (by rw [unhide HBS]; simp [k0])).symm
        clear HBS HN HS k0 hq HPV
        go_wp2
        refine wp_region_below (by first | exact mx | assumption) (by kernel_rfl) ?_
        intro nebb
        repeat (go_big_quiet_step ((go_at_call 65; exact callsBB (unhide C1 _))))
        refine wpQuiet_nil ?_
        intro _ hw'
        obtain ⟨pq, hw''⟩ := hw'
        subst hw''
        have bq := pq.b
        generalize pq.W = wq at *
        go_wp2
        go_ret
        exact ⟨ret_bool (unhide HR), hb1.trans (bq.mono hb1.size)⟩
      · have HS2 := hide (unhide HS (by rw [unhide HBS]; exact ⟨rfl, .inr rfl⟩))
        clear HBS HN HS k0 hq HPV
        go_wp2
        refine wp_region_below (by first | exact mx | assumption) (by kernel_rfl) ?_
        intro nebb
        repeat (go_big_quiet_step ((go_at_call 65; exact callsBB (unhide C1 _))))
        refine wpQuiet_nil ?_
        intro _ hw'
        obtain ⟨pq, hw''⟩ := hw'
        subst hw''
        have bq := pq.b
        generalize pq.W = wq at *
        go_wp2
        go_roundw
        case rel => exact ⟨k + 1, by omega, by go_num, unhide HS2, hb1.trans (bq.mono hb1.size)⟩
        case measure => simp [intOf]; omega
    · have hzl : ¬ (k : Int) < (l.length : Int) := by omega
      obtain rfl : k = l.length := by omega
      have HO2 := hide (unhide HO (unhide HK))
      clear HK HO HF
      go_wp2
      go_loopw [38] (fun vi ws => ∃ k : Nat, k ≤ l.length ∧ vi = .int .i64 (k : Int) ∧ Hid (∀ j, j < k → abAt l j) ∧ Below w.heap.size w ws) (fun i _ => l.length - (intOf i).toNat)
      case atStart => exact ⟨0, Nat.zero_le _, rfl, fun j hj => absurd hj (Nat.not_lt_zero _), hb⟩
      case round =>
        clear hb
        obtain ⟨k, hk, rfl, HK, hb⟩ := hrel
        have hsz := hb.size
        by_cases hlt : k < l.length
        · have hzl : (k : Int) < (l.length : Int) := by omega
          have hz0 : (0 : Int) ≤ (k : Int) := by omega
          have hVr := (unhide HV).below hb
          have HVR := hide hVr
          obtain ⟨va', vc', hvv, hn9, hcc⟩ := hVr
          cases hvv
          obtain ⟨b, off, rfl, hce⟩ := hcc (by omega)
          obtain ⟨d0, d1, d2, d3, d4, d5⟩ := hce k hlt
          have HN := hide (unhide HG k hlt)
          have HS : Hid (abAt l k → ∀ j, j < k + 1 → abAt l j) := fun h => ab_next (unhide HK) h
          have HAB : Hid (abAt l k = (abvB l (l.getD k ty0) = true ∧ ∃ xs, xs.length ≤ l.length ∧ wlk l (fndT l (l.getD k ty0).nam) xs none)) := rfl
          clear hcc hce hn9 HG HK HO2
          generalize abAt l k = ab at *
          generalize l.getD k ty0 = y at *
          have b1 : Below wr.heap.size wr (wr.alloc (.cells #[.string y.nam, .string y.abv, .int .i64 y.syn, .int .i64 y.rul, .bool y.sgl, .bool y.cls] 65)) := Below.one wr _
          have hb1 := hb.trans (b1.mono hsz)
          have C1 := hide (fitab_any _ l y _ ((unhide HVR).below b1))
          have C2 := hide (fun W (hW : Below wr.heap.size wr W) => endless_any _ l y.nam W ((unhide HVR).below hW))
          have HX : Hid (Bt wr.heap.size y (wr.alloc (.cells #[.string y.nam, .string y.abv, .int .i64 y.syn, .int .i64 y.rul, .bool y.sgl, .bool y.cls] 65))) := heap_new wr _
          clear HVR
          generalize abvB l y = on at *
          cases on
          · have HR : Hid (false = R) := (unhide HN rfl).symm
            clear HAB HN HS HE C2 HX
            go_wp2_with (go_at_call 66; refine (unhide C1).mono ?_; rintro e w2 ⟨rfl, b2⟩; have t2 := hb1.trans (b2.mono hb1.size))
            go_ret
            exact ⟨ret_bool (unhide HR), t2⟩
          · clear HN
            go_wp2_with (first
              | (go_at_call 67; refine (unhide C2 _ t1).mono ?_; rintro e w3 ⟨z, rfl, hz1, hz2, b3⟩; have HZ1 := hide hz1; have HZ2 := hide hz2; clear hz1 hz2; have t3 := t2.trans (b3.mono t2.size); cases z)
              | (go_at_call 66; refine (unhide C1).mono ?_; rintro e w2 ⟨rfl, b2⟩; have t2 := hb1.trans (b2.mono hb1.size); have t1 := b1.trans (b2.mono b1.size); have q0 := ((unhide HX).keep b2).cells.1))
            · go_roundw
              case rel => exact ⟨k + 1, by omega, by go_num, unhide HS (by rw [unhide HAB]; exact ⟨trivial, unhide HZ2 trivial⟩), t3⟩
              case measure => simp [intOf]; omega
            · go_ret
              obtain ⟨pre, o, h1, h2⟩ := unhide HZ1 trivial
              exact ⟨ret_bool (unhide HE _ pre o h1 h2).symm, t3⟩
        · have hzl : ¬ (k : Int) < (l.length : Int) := by omega
          obtain rfl : k = l.length := by omega
          have HR : Hid (true = R) := (unhide HO2 (unhide HK)).symm
          clear HK HO2 HG HE
          go_wp2
          go_ret
          exact ⟨ret_bool (unhide HR), hb⟩
end Go.Proofs.Ytjjildpdelkejaa
/- The landed meets: is one of some names in a line? -/
namespace Go.Proofs.Ytjjildpdelkejaa
open Go.RowKit
attribute [local go_sem] Oper.semAt_some

def metB (l : List Ty) (n : ByteArray) (ns : List ByteArray) : Bool := (lineT l n).any fun y => hasT ns y
theorem met_yes {l : List Ty} (hk : okT l = true) {n : ByteArray} {ns : List ByteArray} {pre : List Ty} {o : Option Ty} (hw : wlk l (fndT l n) pre o) (h : ∃ y ∈ pre, hasT ns y.nam = true) : metB l n ns = true := by
  obtain ⟨_, rest, hr⟩ := wlk_few hk hw
  obtain ⟨y, hy, h⟩ := h
  unfold metB
  rw [hr, List.any_append, List.any_eq_true.2 ⟨y.nam, List.mem_map_of_mem hy, h⟩]
  rfl
theorem met_no {l : List Ty} (hk : okT l = true) {n : ByteArray} {ns : List ByteArray} {xs : List Ty} (hw : wlk l (fndT l n) xs none) (h : ∀ y ∈ xs, hasT ns y.nam = false) : metB l n ns = false := by
  unfold metB
  rw [wlk_line hk hw, List.any_eq_false]
  intro y hy
  obtain ⟨z, hz, rfl⟩ := List.mem_map.1 hy
  rw [h z hz]
  decide
theorem bt_put {W : World} {L b : Nat} {r r' : Loop} {x : Ty} (h : Bt b x W) (hr : W.heap[L]? = some (.loop r)) : Bt b x (W.putObj L (.loop r')) := by
  refine (World.putObj_heap_other fun e => ?_).trans h
  subst e
  unfold Bt at h
  rw [h] at hr
  cases hr
set_option maxRecDepth 100000 in
set_option maxHeartbeats 3200000 in
theorem meets_any (v u : Value) (l : List Ty) (n : ByteArray) (ns : List ByteArray) (w : World) (hk : okT l = true) (hV : TysV w v l) (hN : TsV w u ns) : Calls Try.prog 47 #[v, .string n, u] w fun e w' => e = .returned (.bool (metB l n ns)) ∧ Below w.heap.size w w' := by
  have HV := hide hV
  have HN := hide hN
  have HK := hide hk
  obtain ⟨va, vc, rfl⟩ := hV.shape
  obtain ⟨ua, uc, rfl, _⟩ := hN
  clear hV hk
  refine (callsIn_wide (n := 5)).1 ?_
  refine callsIn_of_wp_marks Try.func47 rfl trivial ?_ rfl
  simp only [Try.ntmps47, List.size_toArray, List.length_cons, List.length_nil, Nat.reduceAdd, Nat.reduceSub, Array.replicate_succ, Array.replicate_zero, List.push_toArray, List.append_toArray, List.nil_append, List.cons_append]
  gi_wp2_with (refine ⟨trivial, ?_⟩; gi_at_call 68; refine (callsIn_wide.2 (mkline_any _ _ _ _ _)).mono ?_; rintro e w2 ⟨rfl, rfl⟩)
  obtain ⟨W0, hW0⟩ : ∃ W0, ((((w.alloc (.cells #[.slice ua ns.length uc] 32)).alloc (.cells #[.bool false] 4)).alloc (.cells #[.slice va l.length vc] 22)).alloc (.cells #[.string n] 9)) = W0 := ⟨_, rfl⟩
  rw [hW0]
  have s0 : W0.heap.size = w.heap.size + 4 := by rw [← hW0]; simp
  have B0 : Below w.heap.size w W0 := by rw [← hW0]; exact ((((Below.refl _ w).alloc (by simp) _).alloc (by simp) _).alloc (by simp; omega) _).alloc (by simp; omega) _
  have x0 : Boxed W0 w.heap.size 32 (.slice ua ns.length uc) := by rw [← hW0]; exact (((Boxed.new _ _ _).alloc _).alloc _).alloc _
  have x1 : Boxed W0 (w.heap.size + 1) 4 (.bool false) := by rw [← hW0]; exact ((box_at (by simp)).alloc _).alloc _
  have x2 : Boxed W0 (w.heap.size + 1 + 1) 22 (.slice va l.length vc) := by rw [← hW0]; exact (box_at (by simp)).alloc _
  have x3 : Boxed W0 (w.heap.size + 1 + 1 + 1) 9 (.string n) := by rw [← hW0]; exact (box_at (by simp))
  clear hW0
  have hI : ∀ (s : List Ty) (A C : World), ((∀ y ∈ s, hasT ns y.nam = false) ∧ Boxed A w.heap.size 32 (.slice ua ns.length uc) ∧ Boxed A (w.heap.size + 1) 4 (.bool false) ∧ Below w.heap.size w A) → Qr W0.heap.size A C →
      ((∀ y ∈ s, hasT ns y.nam = false) ∧ Boxed C w.heap.size 32 (.slice ua ns.length uc) ∧ Boxed C (w.heap.size + 1) 4 (.bool false) ∧ Below w.heap.size w C) := fun s A C ⟨h1, h2, h3, h5⟩ k => ⟨h1, k.same _ _ h2 rfl, k.same _ _ h3 rfl, h5.trans (k.below.mono (by omega))⟩
  refine wpIn_up 5 (w.heap.size + 1 + 1) (w.heap.size + 1 + 1 + 1) w.heap.size l.length (by omega) (.slice va l.length vc) l n rfl rfl x2 x3.cell (by omega) (fun W' h => (unhide HV).below (B0.trans h))
    (fun s A => (∀ y ∈ s, hasT ns y.nam = false) ∧ Boxed A w.heap.size 32 (.slice ua ns.length uc) ∧ Boxed A (w.heap.size + 1) 4 (.bool false) ∧ Below w.heap.size w A)
    (fun s A => (∃ y ∈ s, hasT ns y.nam = true) ∧ Boxed A (w.heap.size + 1) 4 (.bool true) ∧ Below w.heap.size w A)
    hI (fun s A C ⟨h1, h2, h3⟩ k => ⟨h1, k.same _ _ h2 rfl, h3.trans (k.below.mono (by omega))⟩)
    ⟨by simp, x0, x1, B0⟩
    (fun x => #[.slice va l.length vc, .string n, .slice ua ns.length uc, undef, undef, .pointer (some ⟨w.heap.size, 0, none⟩), .pointer (some ⟨w.heap.size + 1, 0, none⟩), undef, .slice va l.length vc, .string n, .func (.func 79) #[] #[.pointer (some ⟨w.heap.size + 1 + 1, 0, none⟩), .pointer (some ⟨w.heap.size + 1 + 1 + 1, 0, none⟩)], aggV x, undef, undef, undef, undef]) (fun _ => by simp)
    (fun pre x W _ hw => (wlk_few (unhide HK) hw).1) ?round ?done ?stop
  case round =>
    intro L pre x W hL hLW hi hw
    unfold aggV
    gi_wp2
    refine ⟨Ke.one _ _ (by omega), fun r r' hr => ?_⟩
    have hi2 := hI _ _ _ hi ((Ke.one plainO (A := W) (.cells #[.string x.nam, .string x.abv, .int .i64 x.syn, .int .i64 x.rul, .bool x.sgl, .bool x.cls] 65) (B := W0.heap.size) (by omega)).trans (Ke.put (.loop r') (by omega) hr rfl))
    have HX := hide (bt_put (r' := r') (show Bt W.heap.size x _ from heap_new W _) hr)
    generalize (W.alloc (.cells #[.string x.nam, .string x.abv, .int .i64 x.syn, .int .i64 x.rul, .bool x.sgl, .bool x.cls] 65)).putObj L (.loop r') = W2 at *
    obtain ⟨h1, y0, y1, hb⟩ := hi2
    have c0 := y0.cell
    have c1 := y1.cell
    have f1 := y1.frozen
    have q0 := (unhide HX).cells.1
    have CC := hide (containsT_any _ ns x.nam W2 ((unhide HN).below hb))
    cases hq : hasT ns x.nam
    · rw [hq] at CC
      gi_wp2_with (refine ⟨trivial, ?_⟩; gi_at_call 35; refine (CallsIn.inRound L (callsIn_wide.2 (unhide CC))).mono ?_; rintro e w3 ⟨rfl, rfl⟩)
      exact ⟨Ke.refl _ _ _, fun y hy => (List.mem_append.1 hy).elim (h1 y) (fun e => by rw [List.mem_singleton.1 e]; exact hq), y0, y1, hb⟩
    · rw [hq] at CC
      gi_wp2_with (refine ⟨trivial, ?_⟩; gi_at_call 35; refine (CallsIn.inRound L (callsIn_wide.2 (unhide CC))).mono ?_; rintro e w3 ⟨rfl, rfl⟩)
      exact ⟨Ke.set (by omega) y1 rfl, ⟨x, by simp, hq⟩, y1.set _, hb.setCell (p := ⟨w.heap.size + 1, 0, none⟩) (by simp) _⟩
  case done =>
    rintro D xs W hD hw ⟨h1, _, y1, hb⟩ hK
    have c1 := y1.cell
    have f1 := y1.frozen
    gi_wp2
    have hK' := (KeepsOthers.setCell W ⟨w.heap.size + 1, 0, none⟩ (.bool false)).same D _ hK rfl
    refine ⟨by simp, .inl ⟨_, _, rfl, run_takeDeferred hK', ?_⟩⟩
    have hc5 := cell_kept ((y1.set (.bool false)).cell) (grownBy_putObj' _ D (.deferred none)) (fun r e => by cases e; exact ⟨_, hK', rfl⟩)
    refine ⟨.bool false, ?_, by rw [met_no (unhide HK) hw h1], (hb.setCell (p := ⟨w.heap.size + 1, 0, none⟩) (by simp) _).trans (belowK_b (w := w) (Nat.le_refl _) _ D _ _ (by omega) hK' rfl rfl)⟩
    simp [results, Try.f47, go_sem, hc5]
  case stop =>
    rintro D pre o W hD hw ⟨h1, y1, hb⟩ hK
    gi_wp2
    refine ⟨by simp, .inl ⟨_, _, rfl, run_takeDeferred hK, ?_⟩⟩
    have hc5 := cell_kept y1.cell (grownBy_putObj' _ D (.deferred none)) (fun r e => by cases e; exact ⟨_, hK, rfl⟩)
    refine ⟨.bool true, ?_, by rw [met_yes (unhide HK) hw h1], hb.trans (belowK_b (w := w) (Nat.le_refl _) W D _ _ (by omega) hK rfl rfl)⟩
    simp [results, Try.f47, go_sem, hc5]
end Go.Proofs.Ytjjildpdelkejaa
/- The landed Line. -/
namespace Go.Proofs.Ytjjildpdelkejaa
open Go.RowKit
attribute [local go_sem] Oper.semAt_some

theorem tx_qr {B n : Nat} {A C : World} {v : Value} {ps : List ByteArray} (h : Tx B v ps A) (k : Qr n A C) : Tx B v ps C := by
  obtain ⟨h1, h2⟩ := h
  refine ⟨h1, ?_⟩
  rcases h2 with h2 | ⟨g, cap, cur, e1, e2, e3, e4⟩
  · exact .inl h2
  · exact .inr ⟨g, cap, cur, e1, e2, k.same _ _ e3 rfl, e4⟩
theorem tx_low {B B' : Nat} {A : World} {v : Value} {ps : List ByteArray} (hB : B' ≤ B) (h : Tx B v ps A) : Tx B' v ps A := by
  obtain ⟨h1, h2⟩ := h
  refine ⟨h1, ?_⟩
  rcases h2 with h2 | ⟨g, cap, cur, e1, e2, e3⟩
  · exact .inl h2
  · exact .inr ⟨g, cap, cur, e1, Nat.le_trans hB e2, e3⟩
theorem kr_row {n B : Nat} {A C : World} {v : Value} {ps : List ByteArray} (h : Tx B v ps A) (hg : A.grownBy C v.ownBlock) (hB : n ≤ B) (hA : n ≤ A.heap.size) : Kr n A C :=
  Ke.grown hg hA fun k e => by
    rcases h.2 with ⟨hv, _⟩ | ⟨g, cap, cur, e1, e2, e3, e4⟩
    · rw [hv] at e; cases e
    · rw [e1] at e
      cases e
      exact ⟨Nat.le_trans hB e2, fun o ho => by rw [e3] at ho; cases ho; rfl⟩
theorem okT_24 {l : List Ty} (h : okT l = true) : l.length ≤ 24 := by
  unfold okT at h
  rw [Bool.and_eq_true] at h
  exact of_decide_eq_true h.1
end Go.Proofs.Ytjjildpdelkejaa
