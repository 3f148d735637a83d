/- The document's rows: lower, upper, planes, Rows. -/
import Derived.Test.YtefobkgifigclaaGreatDoorM02
import Derived.Test.YtefobkgifigclaaGreatDoorM01
import Derived.Deep.AppendLies
namespace Go.Proofs.YtefobkgifigclaaGreatDoor
set_option maxRecDepth 100000
open Go.RowKit
open Go.Sort (grow)

theorem grown_trans {a b c : World} {row : Option Nat} (h : a.grownBy b row) (k : b.grownBy c row) : a.grownBy c row :=
  ⟨k.os.trans h.os, k.tape.trans h.tape, k.output.trans h.output, Nat.le_trans h.size k.size, fun i hi hne => (k.block i (Nat.lt_of_lt_of_le hi h.size) hne).trans (h.block i hi hne)⟩
theorem own_gr3 {B e size n : Nat} {v : Value} {xs : List Value} {w w2 : World} (h : w.ownsRow B e size v n xs) (hg : Gr w w2) : w2.ownsRow B e size v n xs :=
  h.kept (row := none) ⟨hg.below.os, hg.below.tape, hg.below.output, hg.size, fun k hk _ => hg.below.block k hk⟩ (by cases hv : v.ownBlock <;> simp)
def cellsL : Array Value := (spcs rowsL).toArray
def cellsU : Array Value := (spcs rowsU).toArray
def frameL : Act := { tmps := (.slice none 0 0 :: ((rowsL.map fun s => Value.agg (spc s).toArray) ++ [undef])).toArray, defers := [] }
def frameU : Act := { tmps := (.slice none 0 0 :: ((rowsU.map fun s => Value.agg (spc s).toArray) ++ [undef])).toArray, defers := [] }
def frameL' (x v : Value) : Act := { tmps := (x :: ((rowsL.map fun s => Value.agg (spc s).toArray) ++ [v])).toArray, defers := [] }
def frameU' (x v : Value) : Act := { tmps := (x :: ((rowsU.map fun s => Value.agg (spc s).toArray) ++ [v])).toArray, defers := [] }

section

end

theorem takeP (k : Nat) (h : k < 16) : rowsP.take (k + 1) = rowsP.take k ++ [lastS ((k : Int) + 1)] := by
  rw [List.take_add_one]
  have : rowsP[k]? = some (lastS ((k : Int) + 1)) := by simp [rowsP, h]
  rw [this]; rfl
theorem spcs_one (s : Sp) : spcs [s] = spc s := by simp [spcs]

theorem own_new (w : World) (e : TypeId) (cs : Array Value) (n : Nat) (hs : cs.size = n * 3) (hn : n ≤ maxLen) : (w.alloc (.cells cs e)).ownsRow w.heap.size e 3 (.slice (some ⟨w.heap.size, 0, none⟩) n n) n cs.toList :=
  ⟨by simpa using hs, .inr ⟨w.heap.size, n, cs, rfl, Nat.le_refl _, heap_new w _, Nat.le_refl _, hn, hs, List.take_of_length_le (by simp [hs])⟩⟩
theorem spcs_oneCell (l : List Sp) : ∀ u ∈ spcs l, u.oneCell' = true := by
  intro u hu
  simp only [spcs, List.mem_flatMap] at hu
  obtain ⟨s, _, hs⟩ := hu
  simp only [spc, List.mem_cons, List.not_mem_nil, or_false] at hs
  rcases hs with rfl | rfl | rfl <;> rfl
theorem sizeL : cellsL.size = 45 * 3 := by kernel_rfl
theorem sizeU : cellsU.size = 45 * 3 := by kernel_rfl
theorem lenU : (spcs rowsU).length = 45 * 3 := by kernel_rfl
theorem lenP : (spcs rowsP).length = 16 * 3 := by kernel_rfl
theorem news_own {w : World} {B e size g n cap : Nat} {xs : List Value} (h : w.ownsRow B e size (.slice (some ⟨g, 0, none⟩) n cap) n xs) : ∀ j u, xs[j]? = some u → w.cell? ((⟨g, 0, none⟩ : Addr).add j) = some u :=
  fun j u hu => World.ownsRow.cells h (g := g) rfl j u hu


end Go.Proofs.YtefobkgifigclaaGreatDoor
/- The document's ascii. -/
namespace Go.Proofs.YtefobkgifigclaaGreatDoor
set_option maxRecDepth 100000
open Go.RowKit

def asc (r : Int) : Int := if (97 ≤ r ∧ r ≤ 122) ∨ (65 ≤ r ∧ r ≤ 90) then 1 else if 48 ≤ r ∧ r ≤ 57 then 2 else if r = 32 ∨ (9 ≤ r ∧ r ≤ 13) then 5 else if r < 32 ∨ r = 127 then 6 else 4
theorem asc_all : ((List.range 128).all fun (n : Nat) => decide (kd (n : Int) = asc (n : Int))) = true := by kernel_rfl
theorem asc_kd (r : Int) (h0 : 0 ≤ r) (h1 : r < 128) : asc r = kd r := by
  have := List.all_eq_true.1 asc_all r.toNat (by simp; omega)
  rw [show ((r.toNat : Nat) : Int) = r by omega] at this
  exact (of_decide_eq_true this).symm

end Go.Proofs.YtefobkgifigclaaGreatDoor
/- The document's Kind, Is and Class. -/
namespace Go.Proofs.YtefobkgifigclaaGreatDoor
set_option maxRecDepth 100000
open Go.RowKit

theorem rowsT_len : rowsT.length = 106 := by kernel_rfl

theorem Ints.below {w w2 : World} {v : Value} {l : List Int} (h : Ints w v l) (hb : Below w.heap.size w w2) : Ints w2 v l := by
  obtain ⟨a, cap, rfl, hc⟩ := h
  refine ⟨a, cap, rfl, fun i => ?_⟩
  obtain ⟨b, off, rfl, hcc⟩ := hc i
  exact ⟨b, off, rfl, fun j hj => (hb.cell (p := ⟨b, off + j, none⟩) (cell_lt (hcc j hj))).trans (hcc j hj)⟩



end Go.Proofs.YtefobkgifigclaaGreatDoor
/- Rows of rows; the document's Runs. -/
namespace Go.Proofs.YtefobkgifigclaaGreatDoor
set_option maxRecDepth 100000
open Go.RowKit

/-- A slice of slices that holds the rows ls. -/
def RR (w : World) (v : Value) (ls : List (List Int)) : Prop :=
  ∃ a cap, v = .slice a ls.length cap ∧ (0 < ls.length → ∃ b off, a = some ⟨b, off, none⟩ ∧ ∀ i, i < ls.length → ∃ g o c, w.cell? ⟨b, off + i, none⟩ = some (.slice (some ⟨g, o, none⟩) (ls.getD i []).length c) ∧ ∀ j, j < (ls.getD i []).length → w.cell? ⟨g, o + j, none⟩ = some (.int .i32 ((ls.getD i []).getD j 0)))
theorem RR.below {w w2 : World} {v : Value} {ls : List (List Int)} (h : RR w v ls) (hb : Below w.heap.size w w2) : RR w2 v ls := by
  obtain ⟨a, cap, rfl, hc⟩ := h
  refine ⟨a, cap, rfl, fun hi => ?_⟩
  obtain ⟨b, off, rfl, hcc⟩ := hc hi
  refine ⟨b, off, rfl, fun i hi => ?_⟩
  obtain ⟨g, o, c, h1, h2⟩ := hcc i hi
  exact ⟨g, o, c, (hb.cell (by exact cell_lt h1)).trans h1, fun j hj => (hb.cell (by exact cell_lt (h2 j hj))).trans (h2 j hj)⟩
/-- Rows of two types lie in two blocks. -/
theorem own_apart {w : World} {B C e f s t n m : Nat} {v u : Value} {xs ys : List Value} (h1 : w.ownsRow B e s v n xs) (h2 : w.ownsRow C f t u m ys) (hne : e ≠ f) : v.ownBlock = none ∨ v.ownBlock ≠ u.ownBlock := by
  rcases h1.2 with ⟨hv, _⟩ | ⟨g, cap, cur, hv, _, hg, _⟩
  · left; rw [hv]; rfl
  · right
    rcases h2.2 with ⟨hu, _⟩ | ⟨k, cap2, cur2, hu, _, hk, _⟩
    · rw [hv, hu]; simp [Value.ownBlock]
    · rw [hv, hu]
      intro e
      simp only [Value.ownBlock, Option.some.injEq] at e
      subst e
      rw [hg] at hk
      simp only [Option.some.injEq, Obj.cells.injEq] at hk
      exact hne hk.2.1
/-- A value owns one row. -/
theorem own_same {w : World} {B C e s n : Nat} {v : Value} {xs ys : List Value} (h1 : w.ownsRow B e s v n xs) (h2 : w.ownsRow C e s v n ys) : xs = ys := by
  rcases h1.2 with ⟨hv, h0⟩ | ⟨g, cap, cur, hv, _, hg, _, _, _, ht⟩
  · have a := h1.1
    have b := h2.1
    rw [h0, Nat.zero_mul] at a b
    rw [List.length_eq_zero_iff.1 a, List.length_eq_zero_iff.1 b]
  · rcases h2.2 with ⟨hu, _⟩ | ⟨k, cap2, cur2, hu, _, hk, _, _, _, hs⟩
    · rw [hv] at hu; cases hu
    · rw [hv] at hu
      cases hu
      rw [hg] at hk
      cases hk
      rw [← ht, ← hs]
/-- How Runs stands: what is done, and the run that is made. -/
def Stt (B : Nat) (v3 v4 : Value) (out : List (List Int)) (now : List Int) (w : World) : Prop :=
  ∃ vs : List Value, vs.length = out.length ∧ w.ownsRow B 131 1 v3 out.length vs ∧ Rn B v4 now w ∧ ∀ i, i < out.length → ∃ g c, vs[i]? = some (.slice (some ⟨g, 0, none⟩) (out.getD i []).length c) ∧ Rn B (.slice (some ⟨g, 0, none⟩) (out.getD i []).length c) (out.getD i []) w ∧ v4.ownBlock ≠ some g
theorem Stt.nil (B : Nat) (w : World) : Stt B (.slice none 0 0) (.slice none 0 0) [] [] w := ⟨[], rfl, ⟨rfl, .inl ⟨rfl, rfl⟩⟩, Rn.nil B w, fun i hi => by simp at hi⟩
theorem Stt.below {B : Nat} {v3 v4 : Value} {out : List (List Int)} {now : List Int} {w w2 : World} (h : Stt B v3 v4 out now w) (hb : Below w.heap.size w w2) : Stt B v3 v4 out now w2 := by
  obtain ⟨vs, h1, h2, h3, h4⟩ := h
  refine ⟨vs, h1, own_below h2 hb, h3.below hb, fun i hi => ?_⟩
  obtain ⟨g, c, k1, k2, k3⟩ := h4 i hi
  exact ⟨g, c, k1, k2.below hb, k3⟩
theorem Stt.more {B g9 cap9 N : Nat} {v3 v4 : Value} {out : List (List Int)} {now : List Int} {x : Int} {w w9 : World} (h : Stt B v3 v4 out now w) (hN : N = now.length)
    (hown9 : w9.ownsRow B 21 1 (.slice (some ⟨g9, 0, none⟩) (N + 1) cap9) (N + 1) (now.map (Value.int .i32) ++ [.int .i32 x])) (hgrow9 : w.grownBy w9 v4.ownBlock) (hat9 : v4.ownBlock = some g9 ∨ w.heap.size ≤ g9) :
    Stt B v3 (.slice (some ⟨g9, 0, none⟩) (N + 1) cap9) out (now ++ [x]) w9 := by
  obtain ⟨vs, h1, h2, h3, h4⟩ := h
  refine ⟨vs, h1, h2.kept hgrow9 (own_apart h2 h3 (by decide)), Rn.push hN hown9, fun i hi => ?_⟩
  obtain ⟨g, c, k1, k2, k3⟩ := h4 i hi
  refine ⟨g, c, k1, World.ownsRow.kept k2 hgrow9 (.inr (fun e => k3 e.symm)), ?_⟩
  intro e
  simp only [Value.ownBlock, Option.some.injEq] at e
  rcases hat9 with h | h
  · exact k3 (by rw [h, e])
  · have := (World.ownsRow.lt k2 g rfl).2
    omega
theorem Stt.push {B g9 cap9 : Nat} {v3 : Value} {g4 c4 N M : Nat} {out : List (List Int)} {now : List Int} {w w9 : World} (h : Stt B v3 (.slice (some ⟨g4, 0, none⟩) N c4) out now w) (hN : N = now.length) (hM : M = out.length)
    (vs : List Value) (hvs : w.ownsRow B 131 1 v3 M vs) (hown9 : w9.ownsRow B 131 1 (.slice (some ⟨g9, 0, none⟩) (M + 1) cap9) (M + 1) (vs ++ [.slice (some ⟨g4, 0, none⟩) N c4])) (hgrow9 : w.grownBy w9 v3.ownBlock) :
    Stt B (.slice (some ⟨g9, 0, none⟩) (M + 1) cap9) (.slice none 0 0) (out ++ [now]) [] w9 := by
  obtain ⟨us, h1, h2, h3, h4⟩ := h
  subst hN hM
  obtain rfl := own_same h2 hvs
  refine ⟨us ++ [.slice (some ⟨g4, 0, none⟩) now.length c4], by simp [h1], by simpa using hown9, Rn.nil B w9, fun i hi => ?_⟩
  by_cases hl : i < out.length
  · obtain ⟨g, c, k1, k2, k3⟩ := h4 i hl
    have e : (out ++ [now]).getD i [] = out.getD i [] := by simp [List.getD, List.getElem?_append_left hl]
    rw [e]
    exact ⟨g, c, by rw [List.getElem?_append_left (by omega)]; exact k1, World.ownsRow.kept k2 hgrow9 (own_apart k2 h2 (by decide)), by simp [Value.ownBlock]⟩
  · have hi' : i = out.length := by simp at hi; omega
    subst hi'
    have e : (out ++ [now]).getD out.length [] = now := by simp [List.getD]
    rw [e]
    exact ⟨g4, c4, by rw [← h1]; simp, World.ownsRow.kept h3 hgrow9 (own_apart h3 h2 (by decide)), by simp [Value.ownBlock]⟩
theorem Stt.rr {B : Nat} {v3 v4 : Value} {out : List (List Int)} {now : List Int} {w : World} (h : Stt B v3 v4 out now w) : RR w v3 out := by
  obtain ⟨vs, h1, h2, h3, h4⟩ := h
  rcases h2.2 with ⟨hv, h0⟩ | ⟨g, cap, cur, hv, _⟩
  · exact ⟨none, 0, by rw [hv, h0], fun hi => by omega⟩
  · refine ⟨some ⟨g, 0, none⟩, cap, hv, fun _ => ⟨g, 0, rfl, fun i hi => ?_⟩⟩
    obtain ⟨g', c, k1, k2, _⟩ := h4 i hi
    have e1 := World.ownsRow.cells h2 (g := g) (by rw [hv]; rfl) i _ k1
    rw [add_zero3] at e1
    refine ⟨g', 0, c, by rw [Nat.zero_add]; exact e1, fun j hj => ?_⟩
    have e2 := World.ownsRow.cells k2 (g := g') rfl j (.int .i32 (((out.getD i [])).getD j 0)) (by
      generalize out.getD i [] = m at hj
      simp [List.getD, hj])
    rw [add_zero3] at e2
    rw [Nat.zero_add]
    exact e2
theorem Stt.shape3 {B : Nat} {v3 v4 : Value} {out : List (List Int)} {now : List Int} {w : World} (h : Stt B v3 v4 out now w) : ∃ a c, v3 = .slice a out.length c := by
  obtain ⟨vs, h1, h2, _⟩ := h
  rcases h2.2 with ⟨hv, h0⟩ | ⟨g, cap, cur, hv, _⟩
  · exact ⟨none, 0, by rw [hv, h0]⟩
  · exact ⟨_, cap, hv⟩
theorem Stt.rn {B : Nat} {v3 v4 : Value} {out : List (List Int)} {now : List Int} {w : World} (h : Stt B v3 v4 out now w) : Rn B v4 now w := by
  obtain ⟨_, _, _, h3, _⟩ := h
  exact h3
theorem Stt.own {B : Nat} {v3 v4 : Value} {out : List (List Int)} {now : List Int} {w : World} (h : Stt B v3 v4 out now w) : ∃ vs, w.ownsRow B 131 1 v3 out.length vs := by
  obtain ⟨vs, _, h2, _⟩ := h
  exact ⟨vs, h2⟩
theorem elem_info2 : (Tryz.prog.info? 131).map (fun i => (i.zero, i.size, i.bytes)) = some (some (.slice none 0 0), 1, 24) := by kernel_rfl
theorem rfold_len (c : Int → Int) (l : List Int) : (rfold c l).1.length + (rfold c l).2.length ≤ l.length := by
  have h := (rfold_inv (c := c) l).1
  have hr := (rfold_inv (c := c) l).2.1.1
  have h2 : (rfold c l).1.length ≤ (rfold c l).1.flatten.length := by
    have hne : ∀ r, r ∈ (rfold c l).1 → r ≠ [] := fun r hr' => (hr r (by unfold rfin; split <;> simp [hr'])).1
    generalize (rfold c l).1 = rs at hne
    induction rs with
    | nil => simp
    | cons r rs ih =>
      have := ih fun q hq => hne q (by simp [hq])
      have h1 : 0 < r.length := List.length_pos_iff.2 (hne r (by simp))
      simp only [List.length_cons, List.flatten_cons, List.length_append]
      omega
  have := congrArg List.length h
  rw [List.length_append] at this
  omega
theorem rfold_take (c : Int → Int) (l : List Int) (k : Nat) (h : k < l.length) : rfold c (l.take (k + 1)) = rstep c (rfold c (l.take k)) (l.getD k 0) := by rw [take_snoc l k h, rfold_snoc]

end Go.Proofs.YtefobkgifigclaaGreatDoor
/- The document's Ordered and Order. -/
namespace Go.Proofs.YtefobkgifigclaaGreatDoor
set_option maxRecDepth 100000
open Go.RowKit

def Kls : List Int := [0, 8, 202, 220, 230]
theorem Kls_rise : Kls.Pairwise (· < ·) := by decide
theorem Kls_zero : ∃ K', Kls = 0 :: K' := ⟨[8, 202, 220, 230], rfl⟩
theorem cls_in (x : Int) : cls x ∈ Kls := by
  unfold cls cl Kls
  split
  · split
    · simp
    · split
      · simp
      · split <;> simp
  · simp
theorem cls_nn (x : Int) : 0 ≤ cls x := by
  have := cls_in x
  unfold Kls at this
  simp at this
  omega
theorem ordered_two (c : Int → Int) : ∀ (a : List Int) (y x : Int), ordered c (a ++ [y, x]) = (ordered c (a ++ [y]) && nxt c y x)
  | [], y, x => by simp [ordered]
  | [z], y, x => by simp [ordered]
  | z :: z2 :: a, y, x => by
    have := ordered_two c (z2 :: a) y x
    simp only [List.cons_append, ordered] at this ⊢
    rw [this, Bool.and_assoc]
theorem ordered_take (c : Int → Int) (l : List Int) (k : Nat) (h0 : 0 < k) (h : k < l.length) : ordered c (l.take (k + 1)) = (ordered c (l.take k) && nxt c (l.getD (k - 1) 0) (l.getD k 0)) := by
  obtain ⟨j, rfl⟩ : ∃ j, k = j + 1 := ⟨k - 1, by omega⟩
  rw [take_snoc l (j + 1) h, take_snoc l j (by omega), Nat.add_sub_cancel, List.append_assoc]
  exact ordered_two c (l.take j) _ _
theorem ordered_bad (c : Int → Int) (l : List Int) (k : Nat) (h : ordered c (l.take k) = false) : ordered c l = false := by
  cases ho : ordered c l
  · rfl
  · have := ordered_left (l.take k) (l.drop k) (by rw [List.take_append_drop]; exact ho)
    rw [h] at this; cases this

end Go.Proofs.YtefobkgifigclaaGreatDoor
/- The document's Order. -/
namespace Go.Proofs.YtefobkgifigclaaGreatDoor
set_option maxRecDepth 100000
open Go.RowKit

/-- The classes one behind the other, and one beyond. -/
def kAt (t : Nat) : Int := if t = 0 then 0 else if t = 1 then 8 else if t = 2 then 202 else if t = 3 then 220 else if t = 4 then 230 else 231
def kStep (t : Nat) : Int := if t = 0 then 8 else if t = 1 then 194 else if t = 2 then 18 else if t = 3 then 10 else 1
theorem k_next (t : Nat) (h : t < 5) : kAt t + kStep t = kAt (t + 1) := by
  match t, h with
  | 0, _ => rfl
  | 1, _ => rfl
  | 2, _ => rfl
  | 3, _ => rfl
  | 4, _ => rfl
theorem k_le (t : Nat) (h : t < 5) : kAt t ≤ 230 ∧ 0 ≤ kAt t := by
  match t, h with
  | 0, _ => decide
  | 1, _ => decide
  | 2, _ => decide
  | 3, _ => decide
  | 4, _ => decide
theorem k_take (t : Nat) (h : t < 5) : Kls.take (t + 1) = Kls.take t ++ [kAt t] := by
  match t, h with
  | 0, _ => rfl
  | 1, _ => rfl
  | 2, _ => rfl
  | 3, _ => rfl
  | 4, _ => rfl
theorem ofK_len (c : Int → Int) (k : Int) (r : List Int) : (ofK c k r).length ≤ r.length := List.length_filter_le _ _
theorem ofK_take (c : Int → Int) (k : Int) (r : List Int) (j : Nat) (h : j < r.length) : ofK c k (r.take (j + 1)) = ofK c k (r.take j) ++ if c (r.getD j 0) = k then [r.getD j 0] else [] := by
  rw [take_snoc r j h, ofK_append]
  congr 1
  generalize r.getD j 0 = x
  by_cases e : c x = k
  · rw [if_pos e]; simp [ofK, e]
  · rw [if_neg e]; simp [ofK, e]
/-- What the first t classes give of a run. -/
def prt (t : Nat) (r : List Int) : List Int := (Kls.take t).flatMap fun k => ofK cls k r
theorem prt_next (t : Nat) (h : t < 5) (r : List Int) : prt (t + 1) r = prt t r ++ ofK cls (kAt t) r := by
  unfold prt
  rw [k_take t h, List.flatMap_append]
  simp
theorem prt_all (r : List Int) : prt 5 r = srt cls Kls r := rfl
theorem part_len (t : Nat) (r : List Int) : (prt t r).length ≤ 5 * r.length := by
  unfold prt
  have : ∀ M : List Int, (M.flatMap fun k => ofK cls k r).length ≤ M.length * r.length := by
    intro M
    induction M with
    | nil => simp
    | cons k M ih =>
      have := ofK_len cls k r
      rw [List.flatMap_cons, List.length_append, List.length_cons, Nat.add_mul]
      omega
  refine Nat.le_trans (this _) (Nat.mul_le_mul_right _ ?_)
  rw [List.length_take]
  exact Nat.min_le_right _ _
theorem flat_len (r : List Int) (rs : List (List Int)) (h : r ∈ rs) : r.length ≤ rs.flatten.length := by
  induction rs with
  | nil => simp at h
  | cons q rs ih =>
    rw [List.flatten_cons, List.length_append]
    rcases List.mem_cons.1 h with rfl | h
    · omega
    · have := ih h; omega
theorem runs_getD_len (l : List Int) (i : Nat) : ((runsL cls l).getD i []).length ≤ l.length := by
  by_cases h : i < (runsL cls l).length
  · have hf := congrArg List.length (runs_flat (c := cls) l)
    have hm : (runsL cls l).getD i [] ∈ runsL cls l := by simp [List.getD, h]
    have := flat_len _ _ hm
    omega
  · have : (runsL cls l).getD i [] = [] := by simp [List.getD, Nat.not_lt.1 h]
    rw [this]; simp
theorem runs_len (l : List Int) : (runsL cls l).length ≤ l.length := by
  have hf := congrArg List.length (runs_flat (c := cls) l)
  have hne := (runs_runny (c := cls) l).1
  generalize runsL cls l = rs at hf hne
  rw [← hf]
  clear hf
  induction rs with
  | nil => simp
  | cons r rs ih =>
    have := ih fun q hq => hne q (by simp [hq])
    have h1 : 0 < r.length := List.length_pos_iff.2 (hne r (by simp)).1
    simp only [List.length_cons, List.flatten_cons, List.length_append]
    omega
theorem done_len (l : List Int) (i : Nat) : (((runsL cls l).take i).flatMap (srt cls Kls)).length ≤ l.length := by
  have h1 : ∀ rs : List (List Int), (rs.flatMap (srt cls Kls)).length = rs.flatten.length := by
    intro rs
    induction rs with
    | nil => rfl
    | cons r rs ih => rw [List.flatMap_cons, List.flatten_cons, List.length_append, List.length_append, ih, srt_len Kls_rise r fun x _ => cls_in x]
  rw [h1]
  have h2 := congrArg List.length (runs_flat (c := cls) l)
  rw [← List.take_append_drop i (runsL cls l), List.flatten_append, List.length_append] at h2
  omega
theorem done_take (l : List Int) (i : Nat) (h : i < (runsL cls l).length) : ((runsL cls l).take (i + 1)).flatMap (srt cls Kls) = ((runsL cls l).take i).flatMap (srt cls Kls) ++ srt cls Kls ((runsL cls l).getD i []) := by
  have e : (runsL cls l).take (i + 1) = (runsL cls l).take i ++ [(runsL cls l).getD i []] := by
    rw [List.take_succ_eq_append_getElem h]; simp [List.getD, h]
  rw [e, List.flatMap_append]
  simp

end Go.Proofs.YtefobkgifigclaaGreatDoor
/- Ordered; the marks of a run. -/
namespace Go.Proofs.YtefobkgifigclaaGreatDoor
set_option maxRecDepth 100000
open Go.RowKit

set_option maxHeartbeats 800000 in
theorem aordd_empty (a : Option Addr) (cap : Nat) (w : World) :
    Calls Tryz.prog 222 #[.slice a 0 cap] w fun e w' => e = .returned (.bool true) ∧ Gr w w' := by
  go_enter Tryz.func222, Tryz.ntmps222
  go_wp2
  refine wp_loop_rounds 1 ?_
  rw [rounds_succ]
  go_wp2
  go_ret
  exact ⟨rfl, Gr.refl _⟩
/-- The class of the one ahead. -/
def prevC (l : List Int) (k : Nat) : Int := if k = 0 then 0 else cls (l.getD (k - 1) 0)
theorem ord_next (l : List Int) (k : Nat) (h : k < l.length) (ho : ordered cls (l.take k) = true) : ordered cls (l.take (k + 1)) = !(decide (0 < cls (l.getD k 0)) && decide (cls (l.getD k 0) < prevC l k)) := by
  have hn := cls_nn (l.getD k 0)
  unfold prevC
  by_cases h0 : k = 0
  · subst h0
    obtain ⟨y, t, rfl⟩ := List.exists_cons_of_ne_nil (List.length_pos_iff.1 h)
    have e : ordered cls ((y :: t).take (0 + 1)) = true := rfl
    rw [e]
    simp at hn ⊢
    omega
  · rw [ordered_take cls l k (by omega) h, ho, if_neg h0]
    unfold nxt
    generalize cls (l.getD k 0) = p at *
    generalize cls (l.getD (k - 1) 0) = q at *
    by_cases h1 : p = 0
    · simp [h1]
    · by_cases h2 : p < q
      · have h3 : ¬ q ≤ p := by omega
        have h4 : 0 < p := by omega
        simp [h1, h2, h3, h4]
      · have h3 : q ≤ p := by omega
        simp [h1, h2, h3]
set_option maxHeartbeats 3200000 in
theorem aordd_some (b off cap : Nat) (l : List Int) (w : World) (hlen : l.length ≤ 20000) (h0 : 0 < l.length)
    (hcell : ∀ i, i < l.length → w.cell? ⟨b, off + i, none⟩ = some (.int .i32 (l.getD i 0))) :
    Calls Tryz.prog 222 #[.slice (some ⟨b, off, none⟩) l.length cap] w fun e w' => e = .returned (.bool (ordered cls l)) ∧ Gr w w' := by
  have HC := hide hcell
  have HCL := hide class_any
  clear hcell
  go_enter Tryz.func222, Tryz.ntmps222
  go_wp2
  go_loopw [3, 9] (fun p i wr => ∃ k : Nat, k ≤ l.length ∧ p = .int .i64 (prevC l k) ∧ i = .int .i64 (k : Int) ∧ Hid (ordered cls (l.take k) = true) ∧ Gr w wr) (fun _ i _ => l.length - (intOf i).toNat)
  case atStart => exact ⟨0, Nat.zero_le _, rfl, rfl, by show _ = _; rfl, Gr.refl _⟩
  case round =>
    obtain ⟨k, hk, rfl, rfl, HO, hg⟩ := hrel
    by_cases hlt : k < l.length
    · have hzl : (k : Int) < (l.length : Int) := by omega
      have hz0 : (0 : Int) ≤ (k : Int) := by omega
      have k1 := hg.cell (unhide HC k hlt)
      have HS := hide (ord_next l k hlt (unhide HO))
      have HBD := hide (ordered_bad cls l (k + 1))
      have HP : Hid (prevC l (k + 1) = cls (l.getD k 0)) := by show _ = _; unfold prevC; simp
      have HX := hide (unhide HCL (l.getD k 0))
      generalize l.getD k 0 = x at *
      generalize prevC l k = q at *
      generalize cls x = p at *
      by_cases h1 : 0 < p
      · by_cases h2 : p < q
        · have HB : Hid (ordered cls l = false) := unhide HBD (by rw [unhide HS]; simp [h1, h2])
          go_wp2_with (go_at_call 196; refine (unhide HX _).mono ?_; rintro e w2 ⟨rfl, g2⟩)
          go_ret
          exact ⟨ret_bool (unhide HB).symm, hg.trans g2⟩
        · have HB : Hid (ordered cls (l.take (k + 1)) = true) := by show _ = _; rw [unhide HS]; simp [h2]
          go_wp2_with (go_at_call 196; refine (unhide HX _).mono ?_; rintro e w2 ⟨rfl, g2⟩)
          go_roundw
          case rel => exact ⟨k + 1, by omega, by rw [unhide HP], by go_num, HB, hg.trans g2⟩
          case measure => simp [intOf]; omega
      · have HB : Hid (ordered cls (l.take (k + 1)) = true) := by show _ = _; rw [unhide HS]; simp [h1]
        go_wp2_with (go_at_call 196; refine (unhide HX _).mono ?_; rintro e w2 ⟨rfl, g2⟩)
        go_roundw
        case rel => exact ⟨k + 1, by omega, by rw [unhide HP], by go_num, HB, hg.trans g2⟩
        case measure => simp [intOf]; omega
    · have hzl : ¬ (k : Int) < (l.length : Int) := by omega
      obtain rfl : k = l.length := by omega
      rw [List.take_length] at HO
      go_wp2
      go_ret
      exact ⟨ret_bool (unhide HO).symm, hg⟩
theorem aordd_gr (v : Value) (l : List Int) (w : World) (hlen : l.length ≤ 20000) (hR : Row w v l) : Calls Tryz.prog 222 #[v] w fun e w' => e = .returned (.bool (ordered cls l)) ∧ Gr w w' := by
  obtain ⟨a, cap, rfl, hc⟩ := hR
  by_cases h0 : 0 < l.length
  · obtain ⟨b, off, rfl, hcc⟩ := hc h0
    exact aordd_some b off cap l w hlen h0 hcc
  · obtain rfl : l = [] := List.length_eq_zero_iff.1 (by omega)
    exact aordd_empty a cap w

theorem mark_info : (Tryz.prog.info? 264).map (fun i => (i.zero, i.size, i.bytes)) = some (some (.agg #[.int .i32 0, .int .i64 0, .int .i64 0]), 3, 24) := by kernel_rfl
theorem made_flat (n : Nat) : (madeCells (Value.agg #[.int .i32 0, .int .i64 0, .int .i64 0]).cells (n * 3)).toList = mflat (List.replicate n mk0) := by
  apply List.ext_getElem?
  intro j
  by_cases hj : j < n * 3
  · obtain ⟨h1, h2, h3⟩ := mflat_get (List.replicate n mk0) (j / 3) (by simp; omega)
    have e0 : (List.replicate n mk0).getD (j / 3) mk0 = mk0 := by simp only [List.getD, List.getElem?_replicate]; split <;> rfl
    rw [e0] at h1 h2 h3
    have e : (madeCells (Value.agg #[.int .i32 0, .int .i64 0, .int .i64 0]).cells (n * 3)).toList[j]? = some ((#[Value.int .i32 0, .int .i64 0, .int .i64 0] : Array Value)[j % 3]!) := by
      unfold madeCells
      simp [Value.cells, hj]
    rw [e]
    have hm : j % 3 < 3 := Nat.mod_lt _ (by decide)
    rcases (by omega : j % 3 = 0 ∨ j % 3 = 1 ∨ j % 3 = 2) with hq | hq | hq
    · have ej : j = j / 3 * 3 := by omega
      rw [hq]; conv => rhs; rw [ej]
      exact h1.symm
    · have ej : j = j / 3 * 3 + 1 := by omega
      rw [hq]; conv => rhs; rw [ej]
      exact h2.symm
    · have ej : j = j / 3 * 3 + 2 := by omega
      rw [hq]; conv => rhs; rw [ej]
      exact h3.symm
  · rw [List.getElem?_eq_none (by simp [size_madeCells]; omega), List.getElem?_eq_none (by rw [mflat_len]; simp; omega)]

set_option maxHeartbeats 3200000 in
theorem marks_any (b off c : Nat) (l : List Int) (w : World) (hlen : l.length ≤ 1000) (h0 : 0 < l.length) (hcell : ∀ i, i < l.length → w.cell? ⟨b, off + i, none⟩ = some (.int .i32 (l.getD i 0))) :
    Calls Tryz.prog 223 #[.slice (some ⟨b, off, none⟩) l.length c] w fun e w' => ∃ g cap, e = .returned (.slice (some ⟨g, 0, none⟩) l.length cap) ∧ Mr w.heap.size (.slice (some ⟨g, 0, none⟩) l.length cap) (mks cls 0 l) w' ∧ Below w.heap.size w w' := by
  obtain ⟨i0, hi, hz0, hz1, hz2⟩ := info_parts mark_info
  have HC := hide hcell
  have HCL := hide class_any
  have HMG := hide (mks_getD (c := cls) l 0)
  have HML := hide (mks_len (c := cls) l 0)
  clear hcell
  generalize mks cls 0 l = M at *
  obtain ⟨n, hn⟩ : ∃ n, n = l.length := ⟨_, rfl⟩
  rw [← hn] at hlen h0 HC HMG HML ⊢
  clear hn
  have hml : n ≤ maxLen := by unfold maxLen; omega
  go_enter Tryz.func223, Tryz.ntmps223
  go_wp2_with (refine wpList_make_full _ rfl _ _ 260 rfl w.heap.size 264 i0 _ 3 Tryz.underlying260 hi hz0 hz1 .i64 .i64 _ _ n rfl rfl rfl rfl (by rw [hz2]; omega) hml (Nat.le_refl _) ?_; intro w1 hown1 hgrow1; rw [made_flat] at hown1; have HM1 : Hid (Mr w.heap.size (.slice (some ⟨w.heap.size, 0, none⟩) n n) (List.replicate n mk0) w1) := (by show Mr _ _ _ _; unfold Mr; rw [List.length_replicate]; exact hown1); have HB1 := hide (below_own hgrow1 (Nat.le_refl _) (fun g h => by cases h)); clear hown1 hgrow1)
  have hs1 := (unhide HB1).size
  go_loopw [11] (fun i wr => ∃ (k : Nat) (dk : List Mk), k ≤ n ∧ i = .int .i64 (k : Int) ∧ Hid (Mr w.heap.size (.slice (some ⟨w.heap.size, 0, none⟩) n n) dk wr) ∧ Hid (n = dk.length) ∧ Hid (∀ j, j < k → dk.getD j mk0 = M.getD j mk0) ∧ Below w.heap.size w wr) (fun i _ => n - (intOf i).toNat)
  case atStart => exact ⟨0, _, Nat.zero_le _, rfl, HM1, by show _ = _; simp, fun j hj => absurd hj (Nat.not_lt_zero _), unhide HB1⟩
  case round =>
    obtain ⟨k, dk, hk, rfl, MK, DL, DG, hb⟩ := hrel
    by_cases hlt : k < n
    · have hzl : (k : Int) < (n : Int) := by omega
      have hz0' : (0 : Int) ≤ (k : Int) := by omega
      have k1 := (hb.cell (by exact cell_lt (unhide HC k hlt))).trans (unhide HC k hlt)
      have HG := hide (unhide HMG k hlt)
      rw [Nat.zero_add] at HG
      have HX := hide (unhide HCL (l.getD k 0))
      generalize l.getD k 0 = x at *
      generalize cls x = q at *
      go_wp2_with (go_at_call 196; refine (unhide HX _).mono ?_; rintro e w2 ⟨rfl, g2⟩; have MK2 := hide ((unhide MK).below g2.below); have hb2 := hb.trans (g2.below.mono hb.size); obtain ⟨c1, c2, c3⟩ := (unhide MK2).cell (unhide DL) k hlt; have f1 := (unhide MK2).free (unhide DL) (k * 3); have f2 := (unhide MK2).free (unhide DL) (k * 3 + 1); have f3 := (unhide MK2).free (unhide DL) (k * 3 + 2))
      go_roundw
      case rel =>
        have hp := (unhide MK2).put (unhide DL) k hlt ⟨x, q, k⟩
        refine ⟨k + 1, dk.set k ⟨x, q, k⟩, by omega, by go_num, hp.1, by show _ = _; rw [List.length_set]; exact unhide DL, fun j hj => ?_, hb2.trans (below_own hp.2 hb2.size (fun g h => by cases h; exact Nat.le_refl _))⟩
        have dl := unhide DL
        by_cases hjk : j = k
        · subst hjk
          rw [unhide HG]
          simp [List.getD, List.getElem?_set_self (show j < dk.length by omega)]
        · rw [← unhide DG j (by omega)]
          simp [List.getD, List.getElem?_set_ne (show k ≠ j by omega)]
      case measure => simp [intOf]; omega
    · have hzl : ¬ (k : Int) < (n : Int) := by omega
      obtain rfl : k = n := by omega
      have HE : Hid (dk = M) := by
        have dl := unhide DL
        have ml := unhide HML
        refine List.ext_getElem (by omega) fun j h1 h2 => ?_
        have := unhide DG j (by omega)
        simpa [List.getD, h1, h2] using this
      rw [unhide HE] at MK
      go_wp2
      go_ret
      exact ⟨w.heap.size, k, rfl, unhide MK, hb⟩
end Go.Proofs.YtefobkgifigclaaGreatDoor
/- The document's Same of layer 1, of two lists that are the same. -/
namespace Go.Proofs.YtefobkgifigclaaGreatDoor
set_option maxRecDepth 100000
open Go.RowKit

end Go.Proofs.YtefobkgifigclaaGreatDoor
/- The document's Same of runes, of any two rows. -/
namespace Go.Proofs.YtefobkgifigclaaGreatDoor
set_option maxRecDepth 100000
open Go.RowKit

theorem ilist_ext (l1 l2 : List Int) (hl : l1.length = l2.length) (h : ∀ j, j < l1.length → l1.getD j 0 = l2.getD j 0) : l1 = l2 := by
  apply List.ext_getElem hl
  intro i h1 h2
  have := h i h1
  simpa [List.getD, h1, h2] using this

end Go.Proofs.YtefobkgifigclaaGreatDoor
