/- Attribute types in memory. -/
import Derived.Test.YtefobkgifigclaaGreatDoorM36
import Derived.Lib.Strings
import Derived.Lib.IndexBytes
import Derived.Deep.AppendLies
import Derived.OwnWalk
import Derived.Laws.Rows
import Derived.Deep.LoopGhost
namespace Go.Proofs.YtefobkgifigclaaGreatDoor.S20
set_option maxRecDepth 100000
open Go.RowKit

/-- The six cells of a type. -/
def CellsT (w : World) (b o : Nat) (t : Ty) : Prop :=
  w.cell? ⟨b, o, none⟩ = some (.string t.nam) ∧ w.cell? ⟨b, o + 1, none⟩ = some (.string t.abv) ∧ w.cell? ⟨b, o + 2, none⟩ = some (.int .i64 t.syn) ∧ w.cell? ⟨b, o + 3, none⟩ = some (.int .i64 t.rul) ∧ w.cell? ⟨b, o + 4, none⟩ = some (.bool t.sgl) ∧ w.cell? ⟨b, o + 5, none⟩ = some (.bool t.cls)
theorem CellsT.below {w w2 : World} {b o : Nat} {t : Ty} (h : CellsT w b o t) (hb : Below w.heap.size w w2) : CellsT w2 b o t := by
  obtain ⟨h0, h1, h2, h3, h4, h5⟩ := h
  exact ⟨(hb.cell (cell_lt h0)).trans h0, (hb.cell (cell_lt h1)).trans h1, (hb.cell (cell_lt h2)).trans h2, (hb.cell (cell_lt h3)).trans h3, (hb.cell (cell_lt h4)).trans h4, (hb.cell (cell_lt h5)).trans h5⟩
/-- A slice that holds the types l. -/
def TysV (w : World) (v : Value) (l : List Ty) : Prop :=
  ∃ a cap, v = .slice a l.length cap ∧ (l.length ≤ cap ∧ l.length ≤ 9223372036854775807) ∧ (0 < l.length → ∃ b off, a = some ⟨b, off, none⟩ ∧ ∀ j, j < l.length → CellsT w b (off + j * 6) (l.getD j ty0))
theorem TysV.below {w w2 : World} {v : Value} {l : List Ty} (h : TysV w v l) (hb : Below w.heap.size w w2) : TysV w2 v l := by
  obtain ⟨a, cap, rfl, hn, hc⟩ := h
  refine ⟨a, cap, rfl, hn, fun i => ?_⟩
  obtain ⟨b, off, rfl, hcc⟩ := hc i
  exact ⟨b, off, rfl, fun j hj => (hcc j hj).below hb⟩
theorem TysV.shape {w : World} {v : Value} {l : List Ty} (h : TysV w v l) : ∃ a c, v = .slice a l.length c := by
  obtain ⟨a, c, h, _⟩ := h
  exact ⟨a, c, h⟩
/-- A box of a type. -/
def cellsOfT (a : Ty) : Array Value := #[.string a.nam, .string a.abv, .int .i64 a.syn, .int .i64 a.rul, .bool a.sgl, .bool a.cls]
def aggT (a : Ty) : Value := .agg (cellsOfT a)
def Bt (b : Nat) (a : Ty) (w : World) : Prop := w.heap[b]? = some (.cells #[.string a.nam, .string a.abv, .int .i64 a.syn, .int .i64 a.rul, .bool a.sgl, .bool a.cls] 67)
theorem bt_lt {w : World} {b : Nat} {o : Obj} (h : w.heap[b]? = some o) : b < w.heap.size := (Array.getElem?_eq_some_iff.1 h).1
theorem Bt.keep {b : Nat} {a : Ty} {w w2 : World} (h : Bt b a w) (hb : Below w.heap.size w w2) : Bt b a w2 := (hb.block _ (bt_lt h)).trans h
theorem Bt.free {b : Nat} {a : Ty} {w : World} (h : Bt b a w) (o : Nat) : w.frozen? ⟨b, o, none⟩ = false := by
  unfold World.frozen?
  rw [show w.heap[(⟨b, o, none⟩ : Addr).block]? = w.heap[b]? from rfl, h]
  simp
theorem Bt.cells {b : Nat} {a : Ty} {w : World} (h : Bt b a w) : CellsT w b 0 a := by
  have hc : ∀ o, w.cell? ⟨b, o, none⟩ = (#[Value.string a.nam, .string a.abv, .int .i64 a.syn, .int .i64 a.rul, .bool a.sgl, .bool a.cls] : Array Value)[o]? := fun o => by
    unfold World.cell?
    rw [show w.heap[(⟨b, o, none⟩ : Addr).block]? = w.heap[b]? from rfl, h]
    rfl
  exact ⟨hc 0, hc 1, hc 2, hc 3, hc 4, hc 5⟩
/-- A box that is written over. -/
def putT (w : World) (b : Nat) (a : Ty) : World := (((((w.setCell ⟨b, 0, none⟩ (.string a.nam)).setCell ⟨b, 1, none⟩ (.string a.abv)).setCell ⟨b, 2, none⟩ (.int .i64 a.syn)).setCell ⟨b, 3, none⟩ (.int .i64 a.rul)).setCell ⟨b, 4, none⟩ (.bool a.sgl)).setCell ⟨b, 5, none⟩ (.bool a.cls)
theorem Bt.put {b : Nat} {x : Ty} {w : World} (h : Bt b x w) (a : Ty) : Bt b a (putT w b a) := by
  unfold Bt putT at *
  have h1 := heap_setCell_same w b 0 _ _ (.string a.nam) h
  have h2 := heap_setCell_same _ b 1 _ _ (.string a.abv) h1
  have h3 := heap_setCell_same _ b 2 _ _ (.int .i64 a.syn) h2
  have h4 := heap_setCell_same _ b 3 _ _ (.int .i64 a.rul) h3
  have h5 := heap_setCell_same _ b 4 _ _ (.bool a.sgl) h4
  have h6 := heap_setCell_same _ b 5 _ _ (.bool a.cls) h5
  rw [h6]
  rfl
theorem put_below {B b : Nat} {w w2 : World} (h : Below B w w2) (hb : B ≤ b) (a : Ty) : Below B w (putT w2 b a) :=
  (((((h.setCell hb _).setCell hb _).setCell hb _).setCell hb _).setCell hb _).setCell hb _
/-- The place of a name. -/
def ixF (n : ByteArray) : List Ty → Nat → Int
  | [], _ => -1
  | x :: t, k => if x.nam = n then (k : Int) else ixF n t (k + 1)
def ixT (l : List Ty) (n : ByteArray) : Int := ixF n l 0
theorem drop_consT (l : List Ty) (i : Nat) (h : i < l.length) : l.drop i = l.getD i ty0 :: l.drop (i + 1) := by
  rw [List.drop_eq_getElem_cons h]
  simp [List.getD, h]
theorem ixF_fnd (n : ByteArray) : ∀ (l : List Ty) (k : Nat), (fndT l n = none ∧ ixF n l k = -1) ∨ ∃ j : Nat, j < l.length ∧ ixF n l k = ((k + j : Nat) : Int) ∧ fndT l n = some (l.getD j ty0)
  | [], k => .inl ⟨rfl, rfl⟩
  | x :: t, k => by
    unfold fndT ixF
    by_cases h : x.nam = n
    · right
      refine ⟨0, by simp, by rw [if_pos h]; simp, ?_⟩
      rw [List.find?_cons_of_pos (by simpa using h)]
      rfl
    · rw [List.find?_cons_of_neg (by simpa using h), if_neg h]
      rcases ixF_fnd n t (k + 1) with ⟨h1, h2⟩ | ⟨j, h1, h2, h3⟩
      · exact .inl ⟨h1, h2⟩
      · refine .inr ⟨j + 1, by simp; omega, by rw [h2]; omega, ?_⟩
        have := h3
        unfold fndT at this
        rw [this]
        simp
theorem ixT_fnd (l : List Ty) (n : ByteArray) : (fndT l n = none ∧ ixT l n = -1) ∨ ∃ j : Nat, j < l.length ∧ ixT l n = (j : Int) ∧ fndT l n = some (l.getD j ty0) := by
  rcases ixF_fnd n l 0 with h | ⟨j, h1, h2, h3⟩
  · exact .inl h
  · exact .inr ⟨j, h1, by unfold ixT; rw [h2]; simp, h3⟩
theorem txt_beq (a b : ByteArray) : (a.toList == b.toList) = decide (a = b) := by
  rw [Lib.toList_data, Lib.toList_data]
  by_cases h : a = b
  · rw [decide_eq_true h, h]; simp
  · rw [decide_eq_false h, beq_eq_false_iff_ne]
    intro e
    apply h
    cases a with | mk x => cases b with | mk y =>
    simp only at e
    rw [Array.toList_inj.1 e]
end Go.Proofs.YtefobkgifigclaaGreatDoor.S20
/- Names in memory: slices of pairs, slices of parts. -/
namespace Go.Proofs.YtefobkgifigclaaGreatDoor.S20
set_option maxRecDepth 100000
open Go.RowKit

/-- A slice that holds the pairs l. -/
def PsV (w : World) (v : Value) (l : List Pr) : Prop :=
  ∃ a cap, v = .slice a l.length cap ∧ l.length ≤ 9223372036854775807 ∧ (0 < l.length → ∃ b off, a = some ⟨b, off, none⟩ ∧ ∀ j, j < l.length →
    w.cell? ⟨b, off + j * 2, none⟩ = some (.string (l.getD j pr0).nam) ∧ w.cell? ⟨b, off + j * 2 + 1, none⟩ = some (.string (l.getD j pr0).val))
theorem PsV.below {w w2 : World} {v : Value} {l : List Pr} (h : PsV w v l) (hb : Below w.heap.size w w2) : PsV w2 v l := by
  obtain ⟨a, cap, rfl, hn, hc⟩ := h
  refine ⟨a, cap, rfl, hn, fun i => ?_⟩
  obtain ⟨b, off, rfl, hcc⟩ := hc i
  refine ⟨b, off, rfl, fun j hj => ?_⟩
  obtain ⟨h1, h2⟩ := hcc j hj
  exact ⟨(hb.cell (p := ⟨b, off + j * 2, none⟩) (cell_lt h1)).trans h1, (hb.cell (p := ⟨b, off + j * 2 + 1, none⟩) (cell_lt h2)).trans h2⟩
theorem PsV.nil (w : World) (a : Option Addr) (c : Nat) : PsV w (.slice a 0 c) [] := ⟨a, c, rfl, by simp, fun h => absurd h (Nat.lt_irrefl _)⟩
theorem PsV.shape {w : World} {v : Value} {l : List Pr} (h : PsV w v l) : ∃ a c, v = .slice a l.length c := by
  obtain ⟨a, c, h, _⟩ := h
  exact ⟨a, c, h⟩
/-- A slice that holds the parts n. -/
def NmV (w : World) (v : Value) (n : List (List Pr)) : Prop :=
  ∃ a cap, v = .slice a n.length cap ∧ n.length ≤ cap ∧ n.length ≤ 9223372036854775807 ∧ (0 < n.length → ∃ b off, a = some ⟨b, off, none⟩ ∧ ∀ j, j < n.length → ∃ rv, w.cell? ⟨b, off + j, none⟩ = some rv ∧ PsV w rv (n.getD j []))
theorem NmV.below {w w2 : World} {v : Value} {n : List (List Pr)} (h : NmV w v n) (hb : Below w.heap.size w w2) : NmV w2 v n := by
  obtain ⟨a, cap, rfl, hn, hm, hc⟩ := h
  refine ⟨a, cap, rfl, hn, hm, fun i => ?_⟩
  obtain ⟨b, off, rfl, hcc⟩ := hc i
  refine ⟨b, off, rfl, fun j hj => ?_⟩
  obtain ⟨rv, h1, h2⟩ := hcc j hj
  exact ⟨rv, (hb.cell (p := ⟨b, off + j, none⟩) (cell_lt h1)).trans h1, h2.below hb⟩
theorem NmV.nil (w : World) (a : Option Addr) (c : Nat) : NmV w (.slice a 0 c) [] := ⟨a, c, rfl, Nat.zero_le _, by simp, fun h => absurd h (Nat.lt_irrefl _)⟩
theorem NmV.shape {w : World} {v : Value} {n : List (List Pr)} (h : NmV w v n) : ∃ a c, v = .slice a n.length c := by
  obtain ⟨a, c, h, _⟩ := h
  exact ⟨a, c, h⟩
theorem getD_memR (n : List (List Pr)) (k : Nat) (h : k < n.length) : n.getD k [] ∈ n := by simp [List.getD, h]
theorem getD_memP (n : List Pr) (k : Nat) (h : k < n.length) : n.getD k pr0 ∈ n := by simp [List.getD, h]
theorem drop_consR (l : List (List Pr)) (i : Nat) (h : i < l.length) : l.drop i = l.getD i [] :: l.drop (i + 1) := by
  rw [List.drop_eq_getElem_cons h]
  simp [List.getD, h]
theorem drop_consP (l : List Pr) (i : Nat) (h : i < l.length) : l.drop i = l.getD i pr0 :: l.drop (i + 1) := by
  rw [List.drop_eq_getElem_cons h]
  simp [List.getD, h]
theorem drop_consI (l : List Int) (i : Nat) (h : i < l.length) : l.drop i = l.getD i 0 :: l.drop (i + 1) := by
  rw [List.drop_eq_getElem_cons h]
  simp [List.getD, h]
/-- All in a list are so, told place by place. -/
theorem all_of {α : Type} (p : α → Bool) (d : α) (l : List α) (h : ∀ k, k < l.length → p (l.getD k d) = true) : l.all p = true := by
  rw [List.all_eq_true]
  intro x hx
  obtain ⟨k, hk, rfl⟩ := List.getElem_of_mem hx
  have := h k hk
  simpa [List.getD, hk] using this
theorem all_at {α : Type} {p : α → Bool} {d : α} {l : List α} (h : l.all p = true) (k : Nat) (hk : k < l.length) : p (l.getD k d) = true := by
  rw [List.all_eq_true] at h
  exact h _ (by simp [List.getD, hk])
theorem chk_yes {n : List (List Pr)} (h : okN n = true) : chkN n = 0 := by unfold chkN; rw [if_pos h]
theorem chk_no {n : List (List Pr)} (h : okN n = false) : chkN n = 220 := by unfold chkN; rw [h]; rfl
end Go.Proofs.YtefobkgifigclaaGreatDoor.S20
/- The document's Word and Check of layer 18. -/
namespace Go.Proofs.YtefobkgifigclaaGreatDoor.S20
set_option maxRecDepth 100000
open Go.RowKit

theorem wrd_long {l : List Int} (h : l.length < 1 ∨ 16 < l.length) : wrdB l = false := by
  unfold wrdB
  rw [decide_eq_false (by omega)]
  rfl
/-- A word, told byte by byte. -/
def wrdK (l : List Int) (k : Nat) : Bool := wrdC (l.getD k 0) && (decide (k ≠ 0) || lowB (l.getD k 0))
theorem wrd_yes {l : List Int} (h1 : 1 ≤ l.length) (h2 : l.length ≤ 16) (h : ∀ k, k < l.length → wrdK l k = true) : wrdB l = true := by
  unfold wrdB
  rw [decide_eq_true ⟨h1, h2⟩, all_of wrdC 0 l (fun k hk => by have := h k hk; unfold wrdK at this; simp only [Bool.and_eq_true] at this; exact this.1)]
  have := h 0 (by omega)
  unfold wrdK at this
  simp at this
  simp [this.2]
theorem wrd_no {l : List Int} {k : Nat} (hk : k < l.length) (h : wrdK l k = false) : wrdB l = false := by
  cases hw : wrdB l
  · rfl
  · exfalso
    unfold wrdB at hw
    simp only [Bool.and_eq_true] at hw
    have ha := all_at (d := 0) hw.2.2 k hk
    unfold wrdK at h
    rw [ha, Bool.true_and, Bool.or_eq_false_iff, decide_eq_false_iff_not] at h
    obtain ⟨h1, h2⟩ := h
    have e : k = 0 := by omega
    subst e
    rw [hw.2.1] at h2
    cases h2
theorem wrdK_eq (l : List Int) (k : Nat) (c : Int) (hc : l.getD k 0 = c) : wrdK l k = ((decide (97 ≤ c) && decide (c ≤ 122)) || (decide (k ≠ 0) && ((decide (48 ≤ c) && decide (c ≤ 57)) || decide (c = 45)))) := by
  unfold wrdK wrdC lowB digB
  rw [hc, Bool.eq_iff_iff]
  simp
  omega
theorem okP_no {p : Pr} (h : wrdB (nums p.nam) = false ∨ p.val.size = 0 ∨ 400 < p.val.size) : okP p = false := by
  unfold okP
  rcases h with h | h
  · rw [h]; rfl
  · rw [decide_eq_false (by omega), Bool.and_false]
theorem okP_yes {p : Pr} (h : wrdB (nums p.nam) = true) (h1 : p.val.size ≠ 0) (h2 : ¬ 400 < p.val.size) : okP p = true := by
  unfold okP
  rw [h, decide_eq_true (by omega)]
  rfl
theorem okR_len {r : List Pr} (h : r.length = 0 ∨ 3 < r.length) : okR r = false := by
  unfold okR
  rw [decide_eq_false (by omega)]
  rfl
theorem okR_no {r : List Pr} {k : Nat} (hk : k < r.length) (h : okP (r.getD k pr0) = false) : okR r = false := by
  cases hr : okR r
  · rfl
  · have := (okR_parts hr).2 _ (getD_memP r k hk)
    rw [this] at h
    cases h
theorem okR_yes {r : List Pr} (h0 : r.length ≠ 0) (h1 : ¬ 3 < r.length) (h : ∀ k, k < r.length → okP (r.getD k pr0) = true) : okR r = true := by
  unfold okR
  rw [decide_eq_true (by omega), all_of okP pr0 r h]
  rfl
theorem okN_len {n : List (List Pr)} (h : 6 < n.length) : okN n = false := by
  unfold okN
  rw [decide_eq_false (by omega)]
  rfl
theorem okN_no {n : List (List Pr)} {k : Nat} (hk : k < n.length) (h : okR (n.getD k []) = false) : okN n = false := by
  cases hr : okN n
  · rfl
  · have := (okN_parts hr).2 _ (getD_memR n k hk)
    rw [this] at h
    cases h
theorem okN_yes {n : List (List Pr)} (h1 : ¬ 6 < n.length) (h : ∀ k, k < n.length → okR (n.getD k []) = true) : okN n = true := by
  unfold okN
  rw [decide_eq_true (by omega), all_of okR [] n h]
  rfl
theorem ok_next {α : Type} {p : α → Bool} {d : α} {l : List α} {k : Nat} (h : ∀ j, j < k → p (l.getD j d) = true) (h1 : p (l.getD k d) = true) : ∀ j, j < k + 1 → p (l.getD j d) = true := fun j hj => by
  by_cases e : j = k
  · rw [e]; exact h1
  · exact h j (by omega)
end Go.Proofs.YtefobkgifigclaaGreatDoor.S20
/- The document's at, fits, one of layer 20. -/
namespace Go.Proofs.YtefobkgifigclaaGreatDoor.S20
set_option maxRecDepth 100000
open Go.RowKit

end Go.Proofs.YtefobkgifigclaaGreatDoor.S20
/- A region that draws, whose own operations only read, and whose callees leave all that lay as it lay: one walk. -/
namespace Go.Proofs.YtefobkgifigclaaGreatDoor.S20
set_option maxRecDepth 100000
open Go.RowKit

/-- A world in which all that lay in w lies as it lay. -/
structure BB (w : World) where
  W : World
  b : Below w.heap.size w W
theorem wp_region_below {P : Program} {id : Nat} {Q : Exit → Act → World → Prop} {a : Act} {w : World} {l : List Oper} (hm : P.follows .mixedOrders = true) (hB : Region.lexB .any l.toArray = true)
    (h : Nonempty (BB w) → wpQuiet P l.toArray (fun w' => ∃ p : BB w, w' = p.W) (fun a' => ∀ w', (∃ p : BB w, w' = p.W) → Q .normal a' w') l a) : (Code.region id l.toArray true).wp P Q a w :=
  wp_region_quiet (C := fun w' => ∃ p : BB w, w' = p.W) hm hB ⟨⟨w.drewN 1, ((Gr.refl w).drewN 1).below⟩, rfl⟩ (by simpa using h ⟨⟨w, Below.refl _ _⟩⟩)
theorem callsBB {P : Program} {f : FuncId} {args : Array Value} {w : World} {p : BB w} {v : Value} (h : Calls P f args p.W fun e w' => e = .returned v ∧ Below p.W.heap.size p.W w') : Calls P f args p.W fun e w'' => e = .returned v ∧ ∃ q : BB w, w'' = q.W :=
  h.mono fun _ w' ⟨he, hb⟩ => ⟨he, ⟨w', p.b.trans (hb.mono p.b.size)⟩, rfl⟩
theorem cell_bb {w : World} {a : Addr} {v : Value} (h : w.cell? a = some v) (p : BB w) : p.W.cell? a = some v := (p.b.cell (cell_lt h)).trans h
end Go.Proofs.YtefobkgifigclaaGreatDoor.S20
/- The document's one of layer 20. -/
namespace Go.Proofs.YtefobkgifigclaaGreatDoor.S20
set_option maxRecDepth 100000
open Go.RowKit

theorem up_stop {l : List Ty} {x : Ty} (h : x.abv = te) : ∀ m, upT l m x = true
  | 0 => decide_eq_true h
  | m + 1 => by rw [upT, if_pos h]
theorem up_none {l : List Ty} {x : Ty} (h : ¬ x.abv = te) (hf : fndT l x.abv = none) : ∀ m, upT l m x = false
  | 0 => decide_eq_false h
  | m + 1 => by rw [upT, if_neg h, hf]
theorem up_syn {l : List Ty} {x y : Ty} (h : ¬ x.abv = te) (hf : fndT l x.abv = some y) (hs : ¬ y.syn = x.syn) : ∀ m, upT l m x = false
  | 0 => decide_eq_false h
  | m + 1 => by rw [upT, if_neg h, hf]; simp only; rw [if_neg hs]
theorem up_more {l : List Ty} {x y : Ty} (h : ¬ x.abv = te) (hf : fndT l x.abv = some y) (hs : y.syn = x.syn) (m : Nat) : upT l (m + 1) x = upT l m y := by
  rw [upT, if_neg h, hf]; simp only; rw [if_pos hs]
theorem emp_iff (s : ByteArray) : s.toList.isEmpty = decide (s = te) := by
  rw [Lib.toList_data]
  cases s with | mk a =>
  cases a with | mk l =>
  cases l with
  | nil => rfl
  | cons x t =>
    rw [decide_eq_false (fun h => by unfold te at h; injection h with h; injection h with h; cases h)]
    rfl
end Go.Proofs.YtefobkgifigclaaGreatDoor.S20
/- The document's Check of layer 20. -/
namespace Go.Proofs.YtefobkgifigclaaGreatDoor.S20
set_option maxRecDepth 100000
open Go.RowKit

theorem chkT_long {l : List Ty} (h : 24 < l.length) : chkT l = 190 := by
  unfold chkT okT
  rw [decide_eq_false (by omega)]
  rfl
theorem chkT_no {l : List Ty} {k : Nat} (hk : k < l.length) (h : okAt20 l k = false) : chkT l = 190 := by
  unfold chkT okT
  rw [okTo20_bad hk h, Bool.and_false]
  rfl
theorem chkT_yes {l : List Ty} (h1 : ¬ 24 < l.length) (h : okTo20 l l.length = true) : chkT l = 0 := by
  unfold chkT okT
  rw [h, decide_eq_true (show l.length ≤ 24 by omega)]
  rfl
end Go.Proofs.YtefobkgifigclaaGreatDoor.S20
/- The document's Find, Line, Is of layer 20. -/
namespace Go.Proofs.YtefobkgifigclaaGreatDoor.S20
set_option maxRecDepth 100000
open Go.RowKit

/-- A row of texts of the call's own; of texts that came in. -/
def Tx (B : Nat) (v : Value) (ps : List ByteArray) (w : World) : Prop := w.ownsRow B 9 1 v ps.length (ps.map Value.string)
theorem Tx.nil (B : Nat) (w : World) : Tx B (.slice none 0 0) [] w := ⟨rfl, .inl ⟨rfl, rfl⟩⟩
theorem Tx.below {w w2 : World} {B : Nat} {v : Value} {ps : List ByteArray} (h : Tx B v ps w) (hb : Below w.heap.size w w2) : Tx B v ps w2 := own_below h hb
theorem Tx.own {w : World} {B N : Nat} {v : Value} {ps : List ByteArray} (hN : N = ps.length) (h : Tx B v ps w) : w.ownsRow B 9 1 v N (ps.map Value.string) := by subst hN; exact h
theorem Tx.push {w : World} {B N : Nat} {v : Value} {ps : List ByteArray} {p : ByteArray} (hN : N = ps.length) (h : w.ownsRow B 9 1 v (N + 1) (ps.map Value.string ++ [.string p])) : Tx B v (ps ++ [p]) w := by
  subst hN
  unfold Tx
  rw [List.length_append, List.map_append]
  exact h
/-- A slice that holds texts. -/
def TsV (w : World) (v : Value) (l : List ByteArray) : Prop :=
  ∃ a cap, v = .slice a l.length cap ∧ (l.length ≤ cap ∧ l.length ≤ 9223372036854775807) ∧ (0 < l.length → ∃ b off, a = some ⟨b, off, none⟩ ∧ ∀ j, j < l.length → w.cell? ⟨b, off + j, none⟩ = some (.string (l.getD j te)))
theorem TsV.below {w w2 : World} {v : Value} {l : List ByteArray} (h : TsV w v l) (hb : Below w.heap.size w w2) : TsV w2 v l := by
  obtain ⟨a, cap, rfl, hn, hc⟩ := h
  refine ⟨a, cap, rfl, hn, fun i => ?_⟩
  obtain ⟨b, off, rfl, hcc⟩ := hc i
  exact ⟨b, off, rfl, fun j hj => (hb.cell (cell_lt (hcc j hj))).trans (hcc j hj)⟩
theorem Tx.ts {w : World} {B : Nat} {v : Value} {ps : List ByteArray} (h : Tx B v ps w) (hl : ps.length ≤ 9223372036854775807) : TsV w v ps := by
  rcases h.2 with ⟨hv, h0⟩ | ⟨g, cap, cur, hv, _, _, hcap, _⟩
  · exact ⟨none, 0, by rw [hv, h0], ⟨by omega, hl⟩, fun hi => by omega⟩
  · refine ⟨some ⟨g, 0, none⟩, cap, hv, ⟨hcap, hl⟩, fun hi => ⟨g, 0, rfl, fun j hj => ?_⟩⟩
    have := World.ownsRow.cells h (g := g) (by rw [hv]; rfl) j (.string (ps.getD j te)) (by simp [List.getD, hj])
    rw [add_zero3] at this
    rw [Nat.zero_add]
    exact this
theorem str_info : (Tryz.prog.info? 9).map (fun i => (i.zero, i.size, i.bytes)) = some (some (.string ⟨#[]⟩), 1, 16) := by kernel_rfl
theorem grown_one {w w2 : World} {row : Option Nat} {o : Obj} (h : (w.alloc o).grownBy w2 row) : w.grownBy w2 row := (World.grownBy_alloc w o row).trans h
theorem res_cell2 {fn : Func} {p q : Tmp} (h : fn.results = #[.cell p 67, .tmp q]) (tmps : Array Value) (w : World) (g : Nat) (a : Ty) (hp : tmps.getD p undef = .pointer (some ⟨g, 0, none⟩)) (hg : Bt g a w) :
    (results fn tmps).run Tryz.prog w = .ok (.tuple #[.agg #[.string a.nam, .string a.abv, .int .i64 a.syn, .int .i64 a.rul, .bool a.sgl, .bool a.cls], tmps.getD q undef]) w := by
  have hp' : tmps[p]?.getD undef = .pointer (some ⟨g, 0, none⟩) := by simpa using hp
  have hl := run_loadVar_row (P := Tryz.prog) w g 67 67 #[.string a.nam, .string a.abv, .int .i64 a.syn, .int .i64 a.rul, .bool a.sgl, .bool a.cls] (0, 0) _ hg Tryz.underlying67 rfl (by kernel_rfl)
  simp [results, h, hp', asAddr, hl]
/-- What Find tells. -/
def fndA (l : List Ty) (n : ByteArray) : Ty := (findT l n).getD ty0
def fndB (l : List Ty) (n : ByteArray) : Bool := (findT l n).isSome
def aggV (a : Ty) : Value := .agg #[.string a.nam, .string a.abv, .int .i64 a.syn, .int .i64 a.rul, .bool a.sgl, .bool a.cls]
theorem chk_ok {l : List Ty} (h : okT l = true) : chkT l = 0 := by unfold chkT; rw [if_pos h]
theorem chk_bad {l : List Ty} (h : okT l = false) : chkT l = 190 := by unfold chkT; rw [h]; rfl
theorem ret_av {a b : Ty} {p q : Bool} (h : a = b) (h' : p = q) : Ending.returned (.tuple #[.agg #[.string a.nam, .string a.abv, .int .i64 a.syn, .int .i64 a.rul, .bool a.sgl, .bool a.cls], .bool p]) = .returned (.tuple #[aggV b, .bool q]) := by rw [h, h']; rfl
theorem fnd_not {l : List Ty} {n : ByteArray} (h : findT l n = none) : fndA l n = ty0 ∧ fndB l n = false := by unfold fndA fndB; rw [h]; exact ⟨rfl, rfl⟩
theorem fnd_yes {l : List Ty} {n : ByteArray} {a : Ty} (h : findT l n = some a) : fndA l n = a ∧ fndB l n = true := by unfold fndA fndB; rw [h]; exact ⟨rfl, rfl⟩
theorem find_bad {l : List Ty} (h : okT l = false) (n : ByteArray) : findT l n = none := by unfold findT; rw [h]; rfl
theorem find_ok {l : List Ty} (h : okT l = true) (n : ByteArray) : findT l n = fndT l n := by unfold findT; rw [if_pos h]
end Go.Proofs.YtefobkgifigclaaGreatDoor.S20
/- The document's Line and Is of layer 20. -/
namespace Go.Proofs.YtefobkgifigclaaGreatDoor.S20
set_option maxRecDepth 100000
open Go.RowKit

theorem line_bad {l : List Ty} (h : okT l = false) (n : ByteArray) : lineT l n = [] := by unfold lineT; rw [find_bad h]
theorem ln_stop {l : List Ty} (h : okT l = true) {a : Ty} (e : a.abv = te) : ∀ k, lnF l k a = [a.nam]
  | 0 => rfl
  | k + 1 => by rw [lnF, e, fnd_empty h]
/-- A step up a line. -/
theorem line_step {l : List Ty} (h : okT l = true) {k j : Nat} (hu : upT l k (l.getD j ty0) = true) :
    (ixT l (l.getD j ty0).abv = -1 ∧ lnF l k (l.getD j ty0) = [(l.getD j ty0).nam]) ∨ ∃ m i : Nat, k = m + 1 ∧ i < l.length ∧ ixT l (l.getD j ty0).abv = (i : Int) ∧ upT l m (l.getD i ty0) = true ∧ lnF l k (l.getD j ty0) = (l.getD j ty0).nam :: lnF l m (l.getD i ty0) := by
  generalize l.getD j ty0 = y at *
  by_cases e : y.abv = te
  · left
    refine ⟨?_, ln_stop h e k⟩
    rcases ixT_fnd l y.abv with ⟨_, hi⟩ | ⟨i, _, _, hf⟩
    · exact hi
    · rw [e, fnd_empty h] at hf
      cases hf
  · right
    cases k with
    | zero => exact absurd (of_decide_eq_true hu) e
    | succ m =>
      rcases ixT_fnd l y.abv with ⟨hf, _⟩ | ⟨i, hi, hx, hf⟩
      · rw [up_none e hf] at hu; cases hu
      · by_cases hs : (l.getD i ty0).syn = y.syn
        · rw [up_more e hf hs] at hu
          exact ⟨m, i, rfl, hi, hx, hu, by rw [lnF, hf]⟩
        · rw [up_syn e hf hs] at hu; cases hu
end Go.Proofs.YtefobkgifigclaaGreatDoor.S20
/- The document's Is and Below of layer 20. -/
namespace Go.Proofs.YtefobkgifigclaaGreatDoor.S20
set_option maxRecDepth 100000
open Go.RowKit

theorem ln_len (l : List Ty) : ∀ (k : Nat) (a : Ty), (lnF l k a).length ≤ k + 1
  | 0, _ => by simp [lnF]
  | k + 1, a => by
    rw [lnF]
    cases fndT l a.abv with
    | none => simp
    | some b =>
      have := ln_len l k b
      simp
      omega
theorem line_len (l : List Ty) (n : ByteArray) : (lineT l n).length ≤ 26 := by
  unfold lineT
  cases hf : findT l n with
  | none => simp
  | some a =>
    have hk := (find_some hf).1
    unfold okT at hk
    rw [Bool.and_eq_true] at hk
    have h1 := of_decide_eq_true hk.1
    have := ln_len l (l.length + 1) a
    simp only
    omega
theorem any_no {L : List ByteArray} {a : ByteArray} (h : ∀ i, i < L.length → L.getD i te ≠ a) : (L.any fun x => decide (x = a)) = false := by
  rw [List.any_eq_false]
  intro x hx
  obtain ⟨i, hi, rfl⟩ := List.getElem_of_mem hx
  have := h i hi
  simpa [List.getD, hi] using this
theorem any_yes {L : List ByteArray} {a : ByteArray} {i : Nat} (hi : i < L.length) (h : L.getD i te = a) : (L.any fun x => decide (x = a)) = true := by
  rw [List.any_eq_true]
  exact ⟨L.getD i te, by simp [List.getD, hi], by simpa using h⟩
/-- Is a type below one of some? -/
def bl (l : List Ty) (ns : List ByteArray) (x : Ty) : Bool := ns.any fun n => isT l x.nam n
def belTo (l : List Ty) (ns : List ByteArray) (i : Nat) : List ByteArray := ((l.take i).filter (bl l ns)).map (·.nam)
theorem belTo_next {l : List Ty} {ns : List ByteArray} {i : Nat} (h : i < l.length) : belTo l ns (i + 1) = if bl l ns (l.getD i ty0) = true then belTo l ns i ++ [(l.getD i ty0).nam] else belTo l ns i := by
  unfold belTo
  rw [List.take_succ_eq_append_getElem h, List.filter_append, List.map_append]
  have e : l.getD i ty0 = l[i] := by simp [List.getD, h]
  rw [e]
  cases hb : bl l ns l[i] <;> simp [hb]
theorem belTo_all (l : List Ty) (ns : List ByteArray) : belTo l ns l.length = belT l ns := by
  unfold belTo belT bl
  rw [List.take_length]
theorem belTo_len (l : List Ty) (ns : List ByteArray) (i : Nat) : (belTo l ns i).length ≤ i := by
  unfold belTo
  rw [List.length_map]
  exact Nat.le_trans (List.length_filter_le _ _) (by rw [List.length_take]; omega)
/-- Of the first k names. -/
def bk (l : List Ty) (ns : List ByteArray) (x : Ty) (k : Nat) : Bool := (ns.take k).any fun n => isT l x.nam n
theorem bk_next {l : List Ty} {ns : List ByteArray} {x : Ty} {k : Nat} (h : k < ns.length) : bk l ns x (k + 1) = (bk l ns x k || isT l x.nam (ns.getD k te)) := by
  unfold bk
  rw [List.take_succ_eq_append_getElem h, List.any_append]
  simp [List.getD, h]
theorem bk_all (l : List Ty) (ns : List ByteArray) (x : Ty) : bk l ns x ns.length = bl l ns x := by unfold bk bl; rw [List.take_length]
end Go.Proofs.YtefobkgifigclaaGreatDoor.S20
/- The document's Rules of layer 20; texts held against each other (layer 16); the law's Few. -/
namespace Go.Proofs.YtefobkgifigclaaGreatDoor.S20
set_option maxRecDepth 100000
open Go.RowKit

theorem row_new20 (W : World) (zs : List Int) (cs : Array Value) (T : TypeId) (hcs : cs.toList = zs.map (Value.int .i64)) : Row (W.alloc (.cells cs T)) (.slice (some ⟨W.heap.size, 0, none⟩) zs.length zs.length) zs := by
  refine ⟨_, _, rfl, fun _ => ⟨W.heap.size, 0, rfl, fun j hj => ?_⟩⟩
  rw [World.cell?_alloc_mark, Nat.zero_add]
  have : cs.toList[j]? = some (.int .i64 (zs.getD j 0)) := by rw [hcs]; simp [List.getD, hj]
  simpa using this
theorem row_of20 {W : World} {zs : List Int} {cs : Array Value} {T : TypeId} {v : Value} (hv : v = .slice (some ⟨W.heap.size, 0, none⟩) zs.length zs.length) (hcs : cs.toList = zs.map (Value.int .i64)) : Row (W.alloc (.cells cs T)) v zs := by rw [hv]; exact row_new20 W zs cs T hcs
theorem rul_len (s : Int) : (rulL s).length ≤ 3 := by
  unfold rulL
  repeat' split
  all_goals simp
theorem lists_eq {L M : List ByteArray} (hl : L.length = M.length) (h : ∀ j, j < L.length → L.getD j te = M.getD j te) : L = M := by
  apply List.ext_getElem hl
  intro i h1 h2
  have := h i h1
  simpa [List.getD, h1, h2] using this
/-- Are types so few, and their names so short? -/
def smT (t : Ty) : Bool := decide (t.nam.size ≤ 1000 ∧ t.abv.size ≤ 1000)
def fewT (l : List Ty) : Bool := decide (l.length ≤ 40) && l.all smT
theorem few_len {l : List Ty} (h : fewT l = true) : l.length ≤ 40 := by
  unfold fewT at h
  rw [Bool.and_eq_true] at h
  exact of_decide_eq_true h.1
end Go.Proofs.YtefobkgifigclaaGreatDoor.S20
