/- slices.DeleteFunc of texts, by the closure of the landed Needs; two rows of texts and a box that grow side by side. -/
import Derived.Test.YtjjildpdelkejaaM13
import Derived.Test.YtjjildpdelkejaaM15
import Derived.Test.YtjjildpdelkejaaM12
import Derived.Maps.AppendAt
namespace Go.Proofs.Ytjjildpdelkejaa
open Go.RowKit Go.Sort Go.Lib

set_option maxHeartbeats 800000 in
theorem idx_none (a : Option Addr) (c : Nat) (f : Value) (w : World) : Calls Try.prog 57 #[.slice a 0 c, f] w fun e w' => e = .returned (.int .i64 (-1)) ∧ w = w' := by
  go_enter Try.func57, Try.ntmps57
  go_wp2
  refine wp_loop_rounds 1 ?_
  rw [rounds_succ]
  go_wp2
  go_ret
  exact ⟨rfl, rfl⟩
set_option maxHeartbeats 800000 in
theorem del_none (a : Option Addr) (c : Nat) (g : Nat) (lb : Array Value) (w : World) : Calls Try.prog 33 #[.slice a 0 c, .func (.func g) #[] lb] w fun e w' => e = .returned (.slice a 0 c) ∧ w = w' := by
  have CI := hide (idx_none a c (.func (.func g) #[] lb) w)
  go_enter Try.func33, Try.ntmps33
  go_wp2_with (go_at_call 57; refine (unhide CI).mono ?_; rintro e w2 ⟨rfl, rfl⟩)
  go_ret
  exact ⟨rfl, rfl⟩
theorem del_any (v : Value) (X : List (List UInt8)) (w : World) (bx : Nat) (vm : Value) (M : List ByteArray) (h : Hd w v X) (hM : TsV w vm M) (hb : w.cell? ⟨bx, 0, none⟩ = some vm)
    (hap : ∀ W, w.grownBy W v.ownBlock → TsV W vm M ∧ W.cell? ⟨bx, 0, none⟩ = some vm) :
    Calls Try.prog 33 #[v, .func (.func 34) #[] #[.pointer (some ⟨bx, 0, none⟩)]] w fun e w' => ∃ u, e = .returned u ∧ Hd w' u (X.filter fun x => !hasT M (unb x)) ∧ w.grownBy w' v.ownBlock := by
  obtain ⟨a, cap, rfl, hn, hc⟩ := h
  rcases Nat.eq_zero_or_pos X.length with h0 | h0
  · obtain rfl : X = [] := List.eq_nil_of_length_eq_zero h0
    refine (del_none a cap _ _ w).mono ?_
    rintro e w' ⟨rfl, rfl⟩
    exact ⟨_, rfl, ⟨a, cap, rfl, by simp, fun hi => by simp at hi⟩, World.grownBy.refl _ _⟩
  · obtain ⟨b, off, rfl, hh⟩ := hc h0
    have gives : ∀ (W : World) (x : List UInt8), TsV W vm M → W.cell? ⟨bx, 0, none⟩ = some vm → FnGives Try.prog 34 #[.pointer (some ⟨bx, 0, none⟩)] #[encStr x] (.bool (hasT M (unb x))) W := fun W x h1 h2 =>
      (need1_any bx vm M (unb x) W h2 h1).mono fun _ _ ⟨p, q⟩ => ⟨p, 0, q.symm⟩
    have hle : (X.filter fun x => !hasT M (unb x)).length ≤ X.length := List.length_filter_le _ _
    have := AnyE.slices_DeleteFunc lays21f_10 encStr (fun _ => rfl) (fun x => hasT M (unb x)) 34 #[.pointer (some ⟨bx, 0, none⟩)] need1_eg [] Try.zeroValue9 b off cap X.toArray w
      (fun W x hW => gives W x (hM.below hW) ((hW.cell (cell_lt hb)).trans hb))
      (fun n os dk x _ => by
        obtain ⟨p, q⟩ := hap _ (grown_put (w := w) (g := b) (off := off) (n := n) (os := os) dk)
        exact gives _ x p q)
      hh (by simp; omega) (by simpa using hn.1)
    refine this.mono ?_
    rintro e w' ⟨rfl, q, rfl⟩
    simp only [List.size_toArray]
    refine ⟨_, rfl, ⟨some ⟨b, off, none⟩, cap, rfl, by omega, fun _ => ⟨b, off, rfl, ?_⟩⟩, ?_⟩
    · have hp := holds_putRow encStr (Sort.ahead w q) b off X.toArray ((X.filter fun x => !hasT M (unb x)) ++ List.replicate (X.length - (X.filter fun x => !hasT M (unb x)).length) []).toArray (holds_ahead _ _ _ _ _ _ hh) (by simp; omega)
      intro j hj
      have hj' : j < (X.filter fun x => !hasT M (unb x)).length := by simpa using hj
      have := hp j (by simp; omega)
      simpa [List.getElem?_append_left hj', hj'] using this
    · have := grown_put (w := w) (g := b) (off := off) (n := q) (os := #[]) ((X.filter fun x => !hasT M (unb x)) ++ List.replicate (X.length - (X.filter fun x => !hasT M (unb x)).length) []).toArray
      rwa [grow_empty] at this
/-! Texts that lie somewhere, none maybe, on a row of the call's own: and where it lies then. -/
theorem wp_append_tx {P : Program} (w : World) {o : Oper} {a : Act} {K : Act → World → Prop} {Q : Exit → Act → World → Prop} (s x : Operand) (t : TypeId)
    (ho : o.op = .call { callee := .builtin .append, args := #[s, x], argTypes := #[t, t] })
    (base : Nat) (e : TypeId) (i : TypeInfo) (z : Value) (bytes : Nat) (ht : P.underlying t = some (.slice e)) (hi : P.info? e = some i) (hz : i.zero = some z)
    (hsize : i.size = 1) (hby : i.bytes = bytes) (hzs : z.cells.size = 1)
    (v : Value) (n : Nat) (xs : List Value) (hs : a.eval s = v) (hown : w.ownsRow base e 1 v n xs)
    (vx : Value) (L : List ByteArray) (hx : a.eval x = vx) (hL : TsV w vx L)
    (h63 : n + L.length ≤ maxLen) (hbytes : (n + L.length) * bytes ≤ 140737488355328) (hbase : base ≤ w.heap.size)
    (h : ∀ v' w', w'.ownsRow base e 1 v' (n + L.length) (xs ++ L.map Value.string) → w.grownBy w' v.ownBlock → (v'.ownBlock = v.ownBlock ∨ v'.ownBlock = some w.heap.size) → K (a.put o.dst v') w') : o.wp P a w K Q := by
  obtain ⟨ad, c, rfl, _, hc⟩ := hL
  cases ad with
  | none =>
    have h0 : L.length = 0 := by
      rcases Nat.eq_zero_or_pos L.length with h0 | h0
      · exact h0
      · obtain ⟨b, off, e, _⟩ := hc h0
        cases e
    obtain rfl : L = [] := List.eq_nil_of_length_eq_zero h0
    have hr : (Builtin.append_ #[t, t] o.type #[v, .slice none 0 c]).run P w = .ok v w := by
      rcases hown.2 with ⟨rfl, rfl⟩ | ⟨g, cap, cur, rfl, _, _, hnc, _⟩
      · simp [Builtin.append_, run_underlying ht, sizeOf, typeInfo, hi, Builtin.lenOf, Builtin.firstCells]
      · simp [Builtin.append_, run_underlying ht, sizeOf, typeInfo, hi, Builtin.lenOf, Builtin.firstCells, hnc, storeCells]
    unfold Oper.wp execOp
    simp only [ho, resolve, invoke, builtin, Sem.run_bind, Sem.run_pure, Result.andThen_ok, List.map_toArray, List.map_cons, List.map_nil, hs, hx, List.length_nil, hr]
    exact h v w (by simpa using hown) (World.grownBy.refl _ _) (.inl rfl)
  | some ad =>
    obtain ⟨v', w', hr, h2, h3, _, h5⟩ := run_append_own_at (P := P) w base t o.type e i z 1 bytes ht hi hz hsize hby hzs (by omega) v n xs hown ad L.length c (L.map Value.string) (by simp) (fun j u hu => by
      have hj : j < L.length := by
        have := (List.getElem?_eq_some_iff.1 hu).1
        simpa using this
      obtain ⟨b, off, e, hcc⟩ := hc (by omega)
      cases e
      exact news_of_cellsT hcc j u hu) (texts_one L) h63 hbytes hbase
    unfold Oper.wp execOp
    simp only [ho, resolve, invoke, builtin, Sem.run_bind, Sem.run_pure, Result.andThen_ok, List.map_toArray, List.map_cons, List.map_nil, hs, hx, hr]
    exact h v' w' h2 h3 h5
theorem wpList_append_tx {P : Program} (w : World) {ops : Array Oper} {rest : List Oper} {o : Oper} {a : Act} {Q : Exit → Act → World → Prop} (hgd : Region.wanted o (yielded ops a.tmps) = true) (s x : Operand) (t : TypeId)
    (ho : o.op = .call { callee := .builtin .append, args := #[s, x], argTypes := #[t, t] })
    (base : Nat) (e : TypeId) (i : TypeInfo) (z : Value) (bytes : Nat) (ht : P.underlying t = some (.slice e)) (hi : P.info? e = some i) (hz : i.zero = some z)
    (hsize : i.size = 1) (hby : i.bytes = bytes) (hzs : z.cells.size = 1)
    (v : Value) (n : Nat) (xs : List Value) (hs : a.eval s = v) (hown : w.ownsRow base e 1 v n xs)
    (vx : Value) (L : List ByteArray) (hx : a.eval x = vx) (hL : TsV w vx L)
    (h63 : n + L.length ≤ maxLen) (hbytes : (n + L.length) * bytes ≤ 140737488355328) (hbase : base ≤ w.heap.size)
    (h : ∀ v' w', w'.ownsRow base e 1 v' (n + L.length) (xs ++ L.map Value.string) → w.grownBy w' v.ownBlock → (v'.ownBlock = v.ownBlock ∨ v'.ownBlock = some w.heap.size) → wpList P ops Q rest (a.put o.dst v') w') : wpList P ops Q (o :: rest) a w :=
  BigFrame.wpList_want hgd fun _ hK => wp_append_tx w s x t ho base e i z bytes ht hi hz hsize hby hzs v n xs hs hown vx L hx hL h63 hbytes hbase fun v' w' h1 h2 h3 => hK _ _ (h v' w' h1 h2 h3)
/-! The box of the one row, and the other row, behind a world that they do not reach but for the box. -/
structure Nd (w2 : World) (bx : Nat) (um uy : Value) (M Y : List ByteArray) (w : World) : Prop where
  low : w2.grownBy w (some bx)
  box : w.heap[bx]? = some (.cells #[um] 32)
  m : Tx w2.heap.size um M w
  y : Tx w2.heap.size uy Y w
  ap : ∀ g, um.ownBlock = some g → uy.ownBlock ≠ some g
  lt : bx < w2.heap.size
theorem tx_far {B : Nat} {v : Value} {L : List ByteArray} {w : World} (h : Tx B v L w) : ∀ g, v.ownBlock = some g → B ≤ g ∧ g < w.heap.size := World.ownsRow.lt h
theorem Nd.below {w2 w w' : World} {bx : Nat} {um uy : Value} {M Y : List ByteArray} (h : Nd w2 bx um uy M Y w) (hb : Below w.heap.size w w') : Nd w2 bx um uy M Y w' := by
  have hl : bx < w.heap.size := Nat.lt_of_lt_of_le h.lt h.low.size
  refine ⟨h.low.andThen (row' := none) ⟨hb.os, hb.tape, hb.output, hb.size, fun k hk _ => hb.block k hk⟩ (fun j e => by cases e), (hb.block _ hl).trans h.box, h.m.below hb, h.y.below hb, h.ap, h.lt⟩
theorem Nd.cell {w2 w : World} {bx : Nat} {um uy : Value} {M Y : List ByteArray} (h : Nd w2 bx um uy M Y w) : w.cell? ⟨bx, 0, none⟩ = some um ∧ w.frozen? ⟨bx, 0, none⟩ = false := by
  constructor
  · unfold World.cell?
    rw [show w.heap[(⟨bx, 0, none⟩ : Addr).block]? = w.heap[bx]? from rfl, h.box]
    rfl
  · unfold World.frozen?
    rw [show w.heap[(⟨bx, 0, none⟩ : Addr).block]? = w.heap[bx]? from rfl, h.box]
    simp
/-- One row grows; then its box is set. -/
theorem Nd.must {w2 w w1 : World} {bx : Nat} {um uy u : Value} {M Y L : List ByteArray} (h : Nd w2 bx um uy M Y w) (ho : Tx w2.heap.size u L w1) (hg : w.grownBy w1 um.ownBlock) (hat : u.ownBlock = um.ownBlock ∨ u.ownBlock = some w.heap.size) : Nd w2 bx u uy L Y (w1.setCell ⟨bx, 0, none⟩ u) := by
  have hl : bx < w.heap.size := Nat.lt_of_lt_of_le h.lt h.low.size
  have hne : some bx ≠ um.ownBlock := fun e => by have := (tx_far h.m _ e.symm).1; have := h.lt; omega
  have hb1 : w1.heap[bx]? = some (.cells #[um] 32) := (hg.block bx hl hne).trans h.box
  have hset : w1.grownBy (w1.setCell ⟨bx, 0, none⟩ u) (some bx) := ⟨rfl, rfl, rfl, by simp, fun k _ hk => heap_setCell_other w1 ⟨bx, 0, none⟩ k u fun e => hk (by rw [e])⟩
  have ky : uy.ownBlock = none ∨ uy.ownBlock ≠ um.ownBlock := by
    cases hq : um.ownBlock with
    | none => cases hr : uy.ownBlock <;> simp
    | some g => exact .inr (h.ap g hq)
  have ny : ∀ {W : World} {v : Value} {X : List ByteArray}, Tx w2.heap.size v X W → v.ownBlock ≠ some bx := fun hW e => by have := (tx_far hW _ e).1; have := h.lt; omega
  refine ⟨(h.low.andThen hg fun j e => .inl (tx_far h.m j e).1).trans hset, heap_setCell_same w1 bx 0 _ _ u hb1, World.ownsRow.kept ho hset (.inr (ny ho)), World.ownsRow.kept (World.ownsRow.kept h.y hg ky) hset (.inr (ny h.y)), fun g hgq e => ?_, h.lt⟩
  rcases hat with q | q
  · rw [q] at hgq
    exact h.ap g hgq e
  · rw [q] at hgq
    have := (tx_far h.y _ e).2
    have : w.heap.size = g := Option.some.inj hgq
    omega
/-- The other row grows. -/
theorem Nd.may {w2 w w1 : World} {bx : Nat} {um uy u : Value} {M Y L : List ByteArray} (h : Nd w2 bx um uy M Y w) (ho : Tx w2.heap.size u L w1) (hg : w.grownBy w1 uy.ownBlock) (hat : u.ownBlock = uy.ownBlock ∨ u.ownBlock = some w.heap.size) : Nd w2 bx um u M L w1 := by
  have hl : bx < w.heap.size := Nat.lt_of_lt_of_le h.lt h.low.size
  have hne : some bx ≠ uy.ownBlock := fun e => by have := (tx_far h.y _ e.symm).1; have := h.lt; omega
  have ky : um.ownBlock = none ∨ um.ownBlock ≠ uy.ownBlock := by
    cases hq : um.ownBlock with
    | none => exact .inl rfl
    | some g => exact .inr fun e => h.ap g hq e.symm
  refine ⟨h.low.andThen hg fun j e => .inl (tx_far h.y j e).1, (hg.block bx hl hne).trans h.box, World.ownsRow.kept h.m hg ky, ho, fun g hgq e => ?_, h.lt⟩
  rcases hat with q | q
  · rw [q] at e
    exact h.ap g hgq e
  · rw [q] at e
    have := (tx_far h.m _ hgq).2
    have : w.heap.size = g := Option.some.inj e
    omega
end Go.Proofs.Ytjjildpdelkejaa
