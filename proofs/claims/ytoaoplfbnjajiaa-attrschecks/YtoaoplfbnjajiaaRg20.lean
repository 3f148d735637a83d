/- A range over a line: one law for its callers. The line may go on for ever: that the rounds end is the caller's word (hM). -/
import Derived.Test.YtoaoplfbnjajiaaIt20
namespace Go.Proofs.Ytoaoplfbnjajiaa
open Go.RowKit

/-- How a round may be left: off its end, or by a return. -/
def upPost (n₀ : Nat) (I Ix : List Ty → World → Prop) (s : List Ty) (W : World) : Exit → Act → World → Prop
  | .normal, _, W' => Kr n₀ W W' ∧ I s W'
  | .ret, _, W' => Kr n₀ W W' ∧ Ix s W'
  | _, _, _ => False
theorem qr_mr {B : Nat} {A C : World} (h : Mr B A C) : Qr B A C := h.mono fun o ho => by
  cases o <;> simp [plainO, attrO] at ho ⊢
  exact ho
theorem kc_kr {B : Nat} {A C : World} (h : Kr B A C) : Kc B A C := h.mono fun o ho => by
  rw [Bool.and_eq_true] at ho
  exact ho.2
theorem box_at {W : World} {B : Nat} {t : TypeId} {v : Value} (hB : B = W.heap.size) : Boxed (W.alloc (.cells #[v] t)) B t v := by rw [hB]; exact Boxed.new W t v
set_option maxHeartbeats 1600000 in
theorem wpIn_up {g : Operand} {ps : Array Tmp} {assign body : Code} {Q : Exit → Act → World → Prop} {a : Act} {w : World} (n bl bn n₀ M : Nat) (h3 : 3 ≤ n) (v : Value) (l : List Ty) (nm : ByteArray)
    (hg : a.eval g = .func (.func 36) #[] #[.pointer (some ⟨bl, 0, none⟩), .pointer (some ⟨bn, 0, none⟩)]) (hps : ps.size = 1)
    (hbl : Boxed w bl 22 v) (hbn : w.cell? ⟨bn, 0, none⟩ = some (.string nm)) (hn₀ : n₀ ≤ w.heap.size) (hV : ∀ W', Below n₀ w W' → TysV W' v l)
    (I Ix : List Ty → World → Prop) (hI : ∀ s A C, I s A → Qr w.heap.size A C → I s C) (hIx : ∀ s A C, Ix s A → Qr w.heap.size A C → Ix s C) (h0 : I [] w)
    (t₁ : Ty → Array Value) (ht : ∀ x, (ps.zip #[aggV x]).foldl (fun t (p, v) => t.setIfInBounds p v) a.tmps = t₁ x)
    (hM : ∀ pre x W, I pre W → wlk l (fndT l nm) pre (some x) → pre.length ≤ M)
    (hround : ∀ (L : Nat) (pre : List Ty) (x : Ty) (W : World), w.heap.size ≤ L → L < W.heap.size → I pre W → wlk l (fndT l nm) pre (some x) →
      assign.wpIn (Fence.wide.inRound L) (n - 1 - 1) Try.prog (Exit.then (fun a₁ W₁ => Kr n₀ W W₁ ∧ ∀ r r', W₁.heap[L]? = some (.loop r) → body.wpIn (Fence.wide.inRound L) (n - 1 - 1) Try.prog (upPost n₀ I Ix (pre ++ [x]) (W₁.putObj L (.loop r'))) a₁ (W₁.putObj L (.loop r'))) (fun _ _ _ => False))
        { tmps := t₁ x, defers := [] } W)
    (hdone : ∀ (D : Nat) (xs : List Ty) (W : World), w.heap.size ≤ D → wlk l (fndT l nm) xs none → I xs W → W.heap[D]? = some (.deferred (some [])) → Q .normal { a with defers := { target := .collected D, args := #[] } :: a.defers } W)
    (hstop : ∀ (D : Nat) (pre : List Ty) (o : Option Ty) (W : World), w.heap.size ≤ D → wlk l (fndT l nm) pre o → Ix pre W → W.heap[D]? = some (.deferred (some [])) → Code.ret.wpIn Fence.wide n Try.prog Q { a with defers := { target := .collected D, args := #[] } :: a.defers } W) :
    (Code.rangeFunc g ps assign body).wpIn Fence.wide n Try.prog Q a w := by
  refine wpIn_rangeFunc fun fn hfn => ?_
  rw [show Fence.wide.round = none from rfl]
  -- the loop's record, by its state and what is pending
  obtain ⟨rc, hrc⟩ : ∃ rc : LoopState → Option Code → Loop, rc = fun st pe => { state := st, pending := pe, fn, tmps := a.tmps, params := ps, assign, body, defers := w.heap.size } := ⟨_, rfl⟩
  obtain ⟨W1, hW1⟩ : ∃ W1, (w.alloc (.deferred (some []))).alloc (.loop (rc .ready none)) = W1 := ⟨_, rfl⟩
  have b1 : Below w.heap.size w W1 := by rw [← hW1]; exact ((Below.refl _ w).alloc (Nat.le_refl _) _).alloc (by simp) _
  have s1 : W1.heap.size = w.heap.size + 2 := by rw [← hW1]; simp
  have hL1 : W1.heap[w.heap.size + 1]? = some (.loop (rc .ready none)) := by
    have := heap_new (w.alloc (.deferred (some []))) (.loop (rc .ready none))
    rw [World.size_alloc] at this
    rw [← hW1]
    exact this
  have hD1 : W1.heap[w.heap.size]? = some (.deferred (some [])) := by
    have k := (Below.one (w.alloc (.deferred (some []))) (.loop (rc .ready none))).block w.heap.size (by simp)
    rw [← hW1]
    exact k.trans (heap_new w _)
  refine ⟨w.heap.size + 1, [{ target := .collected w.heap.size, args := #[] }], W1, { target := .fn (.func 36) #[.pointer (some ⟨bl, 0, none⟩), .pointer (some ⟨bn, 0, none⟩)], args := #[.func (.yield (w.heap.size + 1)) #[] #[]] }, W1, 36,
    #[.func (.yield (w.heap.size + 1)) #[] #[], .pointer (some ⟨bl, 0, none⟩), .pointer (some ⟨bn, 0, none⟩)], W1, ?_, ?_, fun _ _ => trivial, ?_, fun _ => by omega, ?_⟩
  · rw [← hW1, hrc]; exact run_enterLoop_outer _ _ _ _ _
  · simp only [resolve, hg]
    simp [go_sem]
  · have eg : ∀ args w, (callFunc 36 args).run Try.prog w = .ok (.enter 36 args) w := enters_of Try.func36 (by kernel_rfl) rfl
    simp [invoke, go_sem, eg]
  refine (up_in (n - 1) (w.heap.size + 1) bl bn n₀ M (by omega) v l nm
    (fun pre W => I pre W ∧ W.heap[w.heap.size + 1]? = some (.loop (rc .ready none)) ∧ W.heap[w.heap.size]? = some (.deferred (some [])))
    (fun pre W => Ix pre W ∧ W.heap[w.heap.size + 1]? = some (.loop (rc .done (some .ret))) ∧ W.heap[w.heap.size]? = some (.deferred (some [])))
    W1 ((b1.block _ hbl.lt).trans hbl) ((b1.cell (cell_lt hbn)).trans hbn) (by omega) (fun W' h => hV W' ((b1.mono hn₀).trans h))
    (fun s A C h k => ⟨hI s A C h.1 ((qr_mr k).lower (by omega)), k.same _ _ h.2.1 rfl, k.same _ _ h.2.2 rfl⟩)
    ?_ (fun pre x W h hw => hM pre x W h.1 hw) ⟨hI _ _ _ h0 (Ke.of_below _ b1 (Nat.le_refl _)), hL1, hD1⟩).mono ?_
  · rintro pre x W ⟨hi, hl, hd⟩ hw
    have hy := run_yield (P := Try.prog) (args := #[aggV x]) hl (by rw [hrc]; exact hps.symm)
    rw [hrc] at hy
    refine ⟨fn, _, assign, body, hy, roundIn_of_wpIn hfn ?_⟩
    clear hy
    dsimp only
    rw [ht]
    refine wpIn_mono (hround (w.heap.size + 1) pre x W (by omega) (bt_lt hl) hi hw) ?_
    intro e a₁ W₁ h
    cases e with
    | normal =>
      obtain ⟨k1, hb⟩ := h
      have hl1 := k1.same _ _ hl rfl
      have hd1 := k1.same _ _ hd rfl
      refine ⟨_, run_beginRound hl1 (by rw [hrc]), ?_⟩
      have hl2 : (W₁.putObj (w.heap.size + 1) (.loop { rc .ready none with state := .busy })).heap[w.heap.size + 1]? = some (.loop { rc .ready none with state := .busy }) := World.putObj_heap_same (bt_lt hl1)
      have hd2 : (W₁.putObj (w.heap.size + 1) (.loop { rc .ready none with state := .busy })).heap[w.heap.size]? = some (.deferred (some [])) := (World.putObj_heap_other (by omega)).trans hd1
      refine wpIn_mono (hb _ { rc .ready none with state := .busy } hl1) ?_
      have k2 : Kc n₀ W₁ (W₁.putObj (w.heap.size + 1) (.loop { rc .ready none with state := .busy })) := Ke.put _ (by omega) hl1 rfl
      generalize W₁.putObj (w.heap.size + 1) (.loop { rc .ready none with state := .busy }) = W₂ at *
      intro e a3 W3 h
      cases e with
      | normal =>
        obtain ⟨k3, hi3⟩ := h
        have hl3 := k3.same _ _ hl2 rfl
        have hd3 := k3.same _ _ hd2 rfl
        have hr := run_endRound (P := Try.prog) none hl3
        refine ⟨_, _, hr, .inl ⟨rfl, ⟨hI _ _ _ hi3 (Ke.put _ (by omega) hl3 rfl), ?_, (World.putObj_heap_other (by omega)).trans hd3⟩, (((kc_kr k1).trans k2).trans (kc_kr k3)).trans (Ke.put _ (by omega) hl3 rfl)⟩⟩
        rw [World.putObj_heap_same (bt_lt hl3), hrc]
        rfl
      | ret =>
        obtain ⟨k3, hi3⟩ := h
        have hl3 := k3.same _ _ hl2 rfl
        have hd3 := k3.same _ _ hd2 rfl
        have hr := run_endRound (P := Try.prog) (some .ret) hl3
        refine ⟨_, _, hr, .inr ⟨rfl, hIx _ _ _ hi3 (Ke.put _ (by omega) hl3 rfl), ?_, (World.putObj_heap_other (by omega)).trans hd3⟩⟩
        rw [World.putObj_heap_same (bt_lt hl3), hrc]
        rfl
      | _ => exact h.elim
    | _ => exact h.elim
  · rintro e W2 ⟨⟨u, rfl⟩, ⟨xs, hw, hi, hl, hd⟩ | ⟨pre, o, hw, hi, hl, hd⟩⟩
    · exact ⟨none, _, by have := run_endLoop (P := Try.prog) hl (by rw [hrc]; simp); rw [hrc] at this; exact this, hdone _ xs _ (Nat.le_refl _) hw (hI _ _ _ hi (Ke.put _ (by omega) hl rfl)) ((World.putObj_heap_other (by omega)).trans hd)⟩
    · exact ⟨some .ret, _, by have := run_endLoop (P := Try.prog) hl (by rw [hrc]; simp); rw [hrc] at this; exact this, hstop _ pre o _ (Nat.le_refl _) hw (hIx _ _ _ hi (Ke.put _ (by omega) hl rfl)) ((World.putObj_heap_other (by omega)).trans hd)⟩
end Go.Proofs.Ytoaoplfbnjajiaa
