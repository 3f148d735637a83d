/- What characters are folded to, plainly. -/
import Derived.KernelRfl
import Derived.Test.YtefobkgifigclaaGreatDoorM01
import Derived.Test.YtefobkgifigclaaGreatDoorM02
import Derived.Test.YtefobkgifigclaaGreatDoorM03
namespace Go.Proofs.YtefobkgifigclaaGreatDoor
set_option maxRecDepth 100000

/-- A row: from, to, step, how far above. -/
structure Fo where
  f : Int
  t : Int
  s : Int
  u : Int
def fo0 : Fo := ⟨0, 0, 1, 0⟩
def rows9 : List Fo := [
  ⟨65, 90, 1, 32⟩, ⟨192, 214, 1, 32⟩, ⟨216, 222, 1, 32⟩, ⟨256, 302, 2, 1⟩, ⟨306, 310, 2, 1⟩, ⟨313, 327, 2, 1⟩,
  ⟨330, 374, 2, 1⟩, ⟨376, 376, 1, -121⟩, ⟨377, 381, 2, 1⟩, ⟨902, 902, 1, 38⟩, ⟨904, 906, 1, 37⟩, ⟨908, 908, 1, 64⟩,
  ⟨910, 911, 1, 63⟩, ⟨913, 929, 1, 32⟩, ⟨931, 939, 1, 32⟩, ⟨962, 962, 1, 1⟩, ⟨1025, 1025, 1, 80⟩, ⟨1040, 1071, 1, 32⟩,
  ⟨181, 181, 1, 775⟩, ⟨383, 383, 1, -268⟩, ⟨8486, 8486, 1, -7517⟩, ⟨8490, 8490, 1, -8383⟩, ⟨8491, 8491, 1, -8262⟩, ⟨8544, 8555, 1, 16⟩,
  ⟨65313, 65338, 1, 32⟩]
def spec9 (r : Int) : Option (List Int) :=
  if r = 223 then some [115, 115]
  else if r = 304 then some [105, 775]
  else if r = 329 then some [700, 110]
  else if r = 64256 then some [102, 102]
  else if r = 64257 then some [102, 105]
  else if r = 64258 then some [102, 108]
  else if r = 64259 then some [102, 102, 105]
  else if r = 64260 then some [102, 102, 108]
  else if r = 64261 then some [115, 116]
  else none
def inF (o : Fo) (r : Int) : Bool := decide (o.f ≤ r ∧ r ≤ o.t ∧ (r - o.f) % o.s = 0)
def rowF (r : Int) : List Fo → List Int
  | [] => [r]
  | o :: m => if inF o r then [r + o.u] else rowF r m
/-- What r is folded to. -/
def foldL (r : Int) : List Int :=
  if 0 ≤ r ∧ r < 128 then (if 65 ≤ r ∧ r ≤ 90 then [r + 32] else [r])
  else match spec9 r with
    | some l => l
    | none => rowF r rows9
/-- Is it folded to itself alone? -/
def selfF (r : Int) : Bool := decide (foldL r = [r])
def foldedB (l : List Int) : Bool := l.all selfF
theorem rowF_step (r : Int) (n : Nat) (h : n < 25) : rowF r (rows9.drop n) = if inF (rows9.getD n fo0) r then [r + (rows9.getD n fo0).u] else rowF r (rows9.drop (n + 1)) := by
  have e : rows9.drop n = rows9.getD n fo0 :: rows9.drop (n + 1) := by
    have hl : n < rows9.length := h
    rw [List.drop_eq_getElem_cons hl]; simp [List.getD, hl]
  rw [e]; rfl
/-- What each row has: it rises, its step is one or two, what it tells fits. -/
def okF (o : Fo) : Bool := decide (0 ≤ o.f ∧ o.f ≤ o.t ∧ o.t ≤ 70000 ∧ 1 ≤ o.s ∧ o.s ≤ 2 ∧ -10000 ≤ o.u ∧ o.u ≤ 1000 ∧ 0 ≤ o.f + o.u)
theorem rows9_ok : rows9.all okF = true := by kernel_rfl
theorem row9_ok (n : Nat) (h : n < 25) : okF (rows9.getD n fo0) = true := by
  have hl : n < rows9.length := h
  exact List.all_eq_true.1 rows9_ok _ (by simp [List.getD, hl])
theorem rowF_len (r : Int) : ∀ l : List Fo, (rowF r l).length = 1
  | [] => rfl
  | o :: m => by
    unfold rowF
    cases inF o r
    · exact rowF_len r m
    · rfl
theorem spec9_len {r : Int} {l : List Int} (h : spec9 r = some l) : 1 ≤ l.length ∧ l.length ≤ 3 := by
  unfold spec9 at h
  repeat' split at h
  all_goals (cases h <;> simp)
theorem fold_len (r : Int) : 1 ≤ (foldL r).length ∧ (foldL r).length ≤ 3 := by
  unfold foldL
  split
  · split <;> simp
  · split
    · rename_i l h; exact spec9_len h
    · rw [rowF_len]; omega
end Go.Proofs.YtefobkgifigclaaGreatDoor
/- The document's rows of layer 9. -/
namespace Go.Proofs.YtefobkgifigclaaGreatDoor
set_option maxRecDepth 100000
open Go.RowKit

def foc (o : Fo) : List Value := [.int .i32 o.f, .int .i32 o.t, .int .i32 o.s, .int .i32 o.u]
def focs (l : List Fo) : List Value := l.flatMap foc
theorem focs_get (l : List Fo) (k : Nat) (h : k < l.length) : (focs l)[k * 4]? = some (.int .i32 (l.getD k fo0).f) ∧ (focs l)[k * 4 + 1]? = some (.int .i32 (l.getD k fo0).t) ∧ (focs l)[k * 4 + 2]? = some (.int .i32 (l.getD k fo0).s) ∧ (focs l)[k * 4 + 3]? = some (.int .i32 (l.getD k fo0).u) := by
  induction l generalizing k with
  | nil => simp at h
  | cons s l ih =>
    cases k with
    | zero => simp [focs, foc]
    | succ k =>
      have := ih k (by simpa using h)
      have e : focs (s :: l) = foc s ++ focs l := by simp [focs]
      rw [e, show (k + 1) * 4 = 4 + k * 4 by omega, show 4 + k * 4 + 1 = 4 + (k * 4 + 1) by omega, show 4 + k * 4 + 2 = 4 + (k * 4 + 2) by omega, show 4 + k * 4 + 3 = 4 + (k * 4 + 3) by omega]
      have hl : (foc s).length = 4 := rfl
      rw [List.getElem?_append_right (by omega), List.getElem?_append_right (by omega), List.getElem?_append_right (by omega), List.getElem?_append_right (by omega), hl]
      simpa using this
def cells9 : Array Value := (focs rows9).toArray
def frame9 : Act := { tmps := (.slice none 0 0 :: ((rows9.map fun s => Value.agg (foc s).toArray) ++ [undef])).toArray, defers := [] }
def frame9' (x v : Value) : Act := { tmps := (x :: ((rows9.map fun s => Value.agg (foc s).toArray) ++ [v])).toArray, defers := [] }

end Go.Proofs.YtefobkgifigclaaGreatDoor
/- The document's One of layer 9. -/
namespace Go.Proofs.YtefobkgifigclaaGreatDoor
set_option maxRecDepth 100000
open Go.RowKit

theorem inF_yes {f t s u r : Int} (h1 : f ≤ r) (h2 : r ≤ t) (h3 : (r - f) % s = 0) : inF ⟨f, t, s, u⟩ r = true := decide_eq_true ⟨h1, h2, h3⟩
theorem inF_no {f t s u r : Int} (h : ¬ (f ≤ r ∧ r ≤ t ∧ (r - f) % s = 0)) : inF ⟨f, t, s, u⟩ r = false := decide_eq_false h

end Go.Proofs.YtefobkgifigclaaGreatDoor
/- The document's Map and Folded of layer 9. -/
namespace Go.Proofs.YtefobkgifigclaaGreatDoor
set_option maxRecDepth 100000
open Go.RowKit

def In32' (r : Int) : Prop := -2147483648 ≤ r ∧ r ≤ 2147483647
/-- What a character is mapped to. -/
def mapO (fo : Bool) (r : Int) : List Int := if kd r = 6 then [] else if kd r = 5 then [32] else if fo then foldL r else [r]
def mapL (fo : Bool) (l : List Int) : List Int := l.flatMap (mapO fo)
theorem mapO_len (fo : Bool) (r : Int) : (mapO fo r).length ≤ 3 := by
  unfold mapO
  split
  · simp
  · split
    · simp
    · split
      · exact (fold_len r).2
      · simp
theorem mapL_len (fo : Bool) (l : List Int) : (mapL fo l).length ≤ 3 * l.length := by
  induction l with
  | nil => simp [mapL]
  | cons x l ih =>
    have := mapO_len fo x
    unfold mapL at ih ⊢
    rw [List.flatMap_cons, List.length_append, List.length_cons]
    omega
theorem mapL_take (fo : Bool) (l : List Int) (k : Nat) (h : k < l.length) : mapL fo (l.take (k + 1)) = mapL fo (l.take k) ++ mapO fo (l.getD k 0) := by
  rw [take_snoc l k h]; simp [mapL]
theorem mapL_takeLen (fo : Bool) (l : List Int) (k : Nat) : (mapL fo (l.take k)).length ≤ 3 * l.length := Nat.le_trans (mapL_len fo _) (by rw [List.length_take]; omega)

end Go.Proofs.YtefobkgifigclaaGreatDoor
/- The document's Folded of layer 9. -/
namespace Go.Proofs.YtefobkgifigclaaGreatDoor
set_option maxRecDepth 100000
open Go.RowKit

theorem Rn.cell1 {w : World} {B g N cap : Nat} {y : Int} (h : Rn B (.slice (.some ⟨g, 0, none⟩) N cap) [y] w) : w.cell? ⟨g, 0, none⟩ = some (.int .i32 y) := Rn.last (t := []) h
theorem self_len {x : Int} (h : (foldL x).length ≠ 1) : selfF x = false := decide_eq_false fun e => h (by rw [e]; rfl)
theorem self_one {x y : Int} (h : foldL x = [y]) : selfF x = decide (y = x) := by unfold selfF; rw [h]; simp
theorem folded_bad {l : List Int} {k : Nat} (hk : k < l.length) (h : selfF (l.getD k 0) = false) : foldedB l = false := by
  unfold foldedB
  rw [List.all_eq_false]
  exact ⟨l.getD k 0, by simp [List.getD, hk], by rw [h]; simp⟩
theorem folded_good {l : List Int} (h : ∀ j, j < l.length → selfF (l.getD j 0) = true) : foldedB l = true := by
  unfold foldedB
  rw [List.all_eq_true]
  intro x hx
  obtain ⟨i, hi, e⟩ := List.mem_iff_getElem.1 hx
  have := h i hi
  simp only [List.getD, hi, List.getElem?_eq_getElem, Option.getD_some] at this
  rw [← e]; exact this

end Go.Proofs.YtefobkgifigclaaGreatDoor
/- What is folded stays so; what was mapped has nothing that is left out, and no space but one: plainly. -/
namespace Go.Proofs.YtefobkgifigclaaGreatDoor
set_option maxRecDepth 100000

/-- The numbers from a on, n of them. -/
def upto (a : Int) : Nat → List Int
  | 0 => []
  | n + 1 => a :: upto (a + 1) n
theorem mem_upto : ∀ (n : Nat) (a r : Int), a ≤ r → r < a + n → r ∈ upto a n
  | 0, a, r, h1, h2 => by omega
  | n + 1, a, r, h1, h2 => by
    by_cases e : r = a
    · simp [upto, e]
    · exact List.mem_cons_of_mem _ (mem_upto n (a + 1) r (by omega) (by push_cast at h2; omega))
/-- All that may be folded to something else. -/
def touched : List Int := upto 65 26 ++ [223, 304, 329, 64256, 64257, 64258, 64259, 64260, 64261] ++ rows9.flatMap fun o => upto o.f (o.t - o.f + 1).toNat
/-- What is asked of each. -/
def ok9 (r : Int) : Bool := (foldL r).all fun y => decide (foldL y = [y]) && (decide (kd r = 5) || decide (kd r = 6) || !(decide (kd y = 5) || decide (kd y = 6)))
theorem touched_ok : touched.all ok9 = true := by kernel_rfl
theorem rowF_self (r : Int) : ∀ l : List Fo, (∀ o, o ∈ l → ¬ (o.f ≤ r ∧ r ≤ o.t)) → rowF r l = [r]
  | [], _ => rfl
  | o :: m, h => by
    unfold rowF
    have : inF o r = false := decide_eq_false fun e => h o (by simp) ⟨e.1, e.2.1⟩
    rw [this]
    exact rowF_self r m fun q hq => h q (by simp [hq])
theorem fold_touched (r : Int) : foldL r = [r] ∨ r ∈ touched := by
  unfold foldL
  by_cases h0 : 0 ≤ r ∧ r < 128
  · rw [if_pos h0]
    by_cases h1 : 65 ≤ r ∧ r ≤ 90
    · exact .inr (by unfold touched; simp only [List.mem_append]; exact .inl (.inl (mem_upto 26 65 r h1.1 (by omega))))
    · rw [if_neg h1]; exact .inl rfl
  · rw [if_neg h0]
    cases hs : spec9 r with
    | some l =>
      refine .inr ?_
      unfold touched
      simp only [List.mem_append]
      refine .inl (.inr ?_)
      unfold spec9 at hs
      repeat' split at hs
      all_goals first | (subst_vars; simp; done) | cases hs
    | none =>
      simp only
      by_cases h : ∃ o, o ∈ rows9 ∧ (o.f ≤ r ∧ r ≤ o.t)
      · obtain ⟨o, ho, h1, h2⟩ := h
        refine .inr ?_
        unfold touched
        simp only [List.mem_append]
        exact .inr (List.mem_flatMap.2 ⟨o, ho, mem_upto _ _ _ h1 (by omega)⟩)
      · exact .inl (rowF_self r rows9 fun o ho e => h ⟨o, ho, e⟩)
theorem fold_ok (r : Int) : ok9 r = true := by
  rcases fold_touched r with h | h
  · unfold ok9
    rw [h]
    simp only [List.all_cons, List.all_nil, Bool.and_true]
    rw [h]
    by_cases h5 : kd r = 5 <;> by_cases h6 : kd r = 6 <;> simp [h5, h6]
  · exact List.all_eq_true.1 touched_ok r h
theorem fold_closed {r y : Int} (h : y ∈ foldL r) : foldL y = [y] ∧ (kd r ≠ 5 → kd r ≠ 6 → kd y ≠ 5 ∧ kd y ≠ 6) := by
  have := List.all_eq_true.1 (fold_ok r) y h
  simp only [Bool.and_eq_true, decide_eq_true_eq, Bool.or_eq_true, Bool.not_eq_true', Bool.or_eq_false_iff, decide_eq_false_iff_not] at this
  refine ⟨this.1, fun h5 h6 => ?_⟩
  rcases this.2 with (h' | h') | h'
  · exact absurd h' h5
  · exact absurd h' h6
  · exact h'
theorem kd_32 : kd 32 = 5 := by kernel_rfl
theorem fold_32 : foldL 32 = [32] := by kernel_rfl
/-- What was mapped: each is told so again. -/
theorem mapO_mem {fo : Bool} {r y : Int} (h : y ∈ mapO fo r) : kd y ≠ 6 ∧ (kd y = 5 → y = 32) ∧ (fo = true → foldL y = [y]) := by
  unfold mapO at h
  by_cases h6 : kd r = 6
  · rw [if_pos h6] at h; simp at h
  · rw [if_neg h6] at h
    by_cases h5 : kd r = 5
    · rw [if_pos h5] at h
      simp only [List.mem_cons, List.not_mem_nil, or_false] at h
      subst h
      exact ⟨by rw [kd_32]; decide, fun _ => rfl, fun _ => fold_32⟩
    · rw [if_neg h5] at h
      cases fo
      · simp only [Bool.false_eq_true, if_false, List.mem_cons, List.not_mem_nil, or_false] at h
        subst h
        exact ⟨h6, fun e => absurd e h5, fun e => by cases e⟩
      · simp only [if_true] at h
        obtain ⟨h1, h2⟩ := fold_closed h
        obtain ⟨h3, h4⟩ := h2 h5 h6
        exact ⟨h4, fun e => absurd e h3, fun _ => h1⟩
theorem mapO_self {fo : Bool} {y : Int} (h6 : kd y ≠ 6) (h5 : kd y = 5 → y = 32) (hf : fo = true → foldL y = [y]) : mapO fo y = [y] := by
  unfold mapO
  rw [if_neg h6]
  by_cases e : kd y = 5
  · rw [if_pos e, h5 e]
  · rw [if_neg e]
    cases fo
    · rfl
    · simp only [if_true]; exact hf rfl
theorem mapL_mem {fo : Bool} {l : List Int} {y : Int} (h : y ∈ mapL fo l) : kd y ≠ 6 ∧ (kd y = 5 → y = 32) ∧ (fo = true → foldL y = [y]) := by
  obtain ⟨r, _, h⟩ := List.mem_flatMap.1 h
  exact mapO_mem h
theorem flat_self {f : Int → List Int} : ∀ (l : List Int), (∀ x, x ∈ l → f x = [x]) → l.flatMap f = l
  | [], _ => rfl
  | x :: l, h => by rw [List.flatMap_cons, h x (by simp), flat_self l fun y hy => h y (by simp [hy])]; rfl
theorem mapL_again (fo : Bool) (l : List Int) : mapL fo (mapL fo l) = mapL fo l :=
  flat_self _ fun _ hx => let ⟨a, b, c⟩ := mapL_mem hx; mapO_self a b c
theorem mapL_folded (l : List Int) : foldedB (mapL true l) = true := by
  unfold foldedB
  rw [List.all_eq_true]
  exact fun x hx => decide_eq_true ((mapL_mem hx).2.2 rfl)
end Go.Proofs.YtefobkgifigclaaGreatDoor
/- Those that the program names by themselves, plainly. -/
namespace Go.Proofs.YtefobkgifigclaaGreatDoor
set_option maxRecDepth 100000

/-- Those that are named by themselves. -/
def nms9 : List (Int × List Int) := [(181, [956]), (223, [115, 115]), (304, [105, 775]), (329, [700, 110]), (376, [255]), (383, [115]), (902, [940]), (908, [972]), (910, [973]), (911, [974]), (962, [963]), (1025, [1105]),
  (8486, [969]), (8490, [107]), (8491, [229]), (64256, [102, 102]), (64257, [102, 105]), (64258, [102, 108]), (64259, [102, 102, 105]), (64260, [102, 102, 108]), (64261, [115, 116])]
def namL (r : Int) : List (Int × List Int) → List Int
  | [] => [r]
  | p :: m => if r = p.1 then p.2 else namL r m
theorem namL_self (r : Int) : ∀ l : List (Int × List Int), (r ∉ l.map (·.1)) → namL r l = [r]
  | [], _ => rfl
  | p :: m, h => by
    simp only [List.map_cons, List.mem_cons, not_or] at h
    unfold namL
    rw [if_neg h.1]
    exact namL_self r m h.2
end Go.Proofs.YtefobkgifigclaaGreatDoor
/- The landed putNamed: what is named by itself is put behind a row of the call's own. -/
namespace Go.Proofs.YtefobkgifigclaaGreatDoor
set_option maxRecDepth 100000
open Go.RowKit

/-- What an append leaves. -/
theorem Rn.app {w1 : World} {B g1 cap1 N m : Nat} {es zs : List Int} (hN : N = es.length) (hm : m = zs.length) (h : w1.ownsRow B 21 1 (.slice (.some ⟨g1, 0, none⟩) (N + m) cap1) (N + m) (es.map (Value.int .i32) ++ zs.map (Value.int .i32))) : Rn B (.slice (.some ⟨g1, 0, none⟩) (N + m) cap1) (es ++ zs) w1 := by
  subst hN hm
  unfold Rn
  rw [List.length_append, List.map_append]
  exact h
set_option maxHeartbeats 1600000 in
theorem putn_181 (B : Nat) (v : Value) (T : List Int) (w : World) (hB : B ≤ w.heap.size) (h : Rn B v T w) (hT : T.length ≤ 100000) : Calls Tryz.prog 191 #[v, .int .i32 181] w fun e w' => ∃ v', e = .returned v' ∧ Rn B v' (T ++ [956]) w' ∧ Below B w w' := by
  obtain ⟨i0, hi, hz0, hz1, hz2⟩ := info_parts elem_info
  obtain ⟨xa, xc, hv⟩ := h.shape
  obtain ⟨N, hN⟩ : ∃ N, N = T.length := ⟨_, rfl⟩
  rw [← hN] at hv hT
  have HN := hide hN
  clear hN
  subst hv
  have HO := hide h
  clear h
  have hm1 : N + 1 ≤ maxLen := by unfold maxLen; omega
  have hm2 : (N + 1) * 4 ≤ 140737488355328 := by omega
  go_enter Tryz.func191, Tryz.ntmps191
  go_wp2_with (at_builtin; refine wpList_append_lies _ rfl _ _ 131 rfl B 21 i0 _ 1 4 Tryz.underlying131 hi hz0 hz1 hz2 rfl (by omega) _ N _ rfl (World.ownsRow.alloc (Rn.own (unhide HN) (unhide HO)) _) ⟨w.heap.size, 0, none⟩ 1 1 [.int .i32 956] rfl rfl (World.news_of_block (cs := #[.int .i32 956]) (t := 21) (fr := (0, 0)) (heap_new w _)) (by simp [Value.oneCell']) (by omega) hm1 hm2 (by simp; omega) (w.heap.size + 1) (by simp) ?_; intro g9 cap9 w9 hown9 hgrow9 hat9 hlt9)
  go_ret
  exact ⟨_, rfl, Rn.app (zs := [956]) (unhide HN) rfl hown9, ((Gr.one w _).below.mono hB).trans (below_own hgrow9 (by simp; omega) (own_block (Rn.own (unhide HN) (unhide HO))))⟩
set_option maxHeartbeats 1600000 in
theorem putn_223 (B : Nat) (v : Value) (T : List Int) (w : World) (hB : B ≤ w.heap.size) (h : Rn B v T w) (hT : T.length ≤ 100000) : Calls Tryz.prog 191 #[v, .int .i32 223] w fun e w' => ∃ v', e = .returned v' ∧ Rn B v' (T ++ [115, 115]) w' ∧ Below B w w' := by
  obtain ⟨i0, hi, hz0, hz1, hz2⟩ := info_parts elem_info
  obtain ⟨xa, xc, hv⟩ := h.shape
  obtain ⟨N, hN⟩ : ∃ N, N = T.length := ⟨_, rfl⟩
  rw [← hN] at hv hT
  have HN := hide hN
  clear hN
  subst hv
  have HO := hide h
  clear h
  have hm1 : N + 2 ≤ maxLen := by unfold maxLen; omega
  have hm2 : (N + 2) * 4 ≤ 140737488355328 := by omega
  go_enter Tryz.func191, Tryz.ntmps191
  go_wp2_with (at_builtin; refine wpList_append_lies _ rfl _ _ 131 rfl B 21 i0 _ 1 4 Tryz.underlying131 hi hz0 hz1 hz2 rfl (by omega) _ N _ rfl (World.ownsRow.alloc (Rn.own (unhide HN) (unhide HO)) _) ⟨w.heap.size, 0, none⟩ 2 2 [.int .i32 115, .int .i32 115] rfl rfl (World.news_of_block (cs := #[.int .i32 115, .int .i32 115]) (t := 21) (fr := (0, 0)) (heap_new w _)) (by simp [Value.oneCell']) (by omega) hm1 hm2 (by simp; omega) (w.heap.size + 1) (by simp) ?_; intro g9 cap9 w9 hown9 hgrow9 hat9 hlt9)
  go_ret
  exact ⟨_, rfl, Rn.app (zs := [115, 115]) (unhide HN) rfl hown9, ((Gr.one w _).below.mono hB).trans (below_own hgrow9 (by simp; omega) (own_block (Rn.own (unhide HN) (unhide HO))))⟩
set_option maxHeartbeats 1600000 in
theorem putn_304 (B : Nat) (v : Value) (T : List Int) (w : World) (hB : B ≤ w.heap.size) (h : Rn B v T w) (hT : T.length ≤ 100000) : Calls Tryz.prog 191 #[v, .int .i32 304] w fun e w' => ∃ v', e = .returned v' ∧ Rn B v' (T ++ [105, 775]) w' ∧ Below B w w' := by
  obtain ⟨i0, hi, hz0, hz1, hz2⟩ := info_parts elem_info
  obtain ⟨xa, xc, hv⟩ := h.shape
  obtain ⟨N, hN⟩ : ∃ N, N = T.length := ⟨_, rfl⟩
  rw [← hN] at hv hT
  have HN := hide hN
  clear hN
  subst hv
  have HO := hide h
  clear h
  have hm1 : N + 2 ≤ maxLen := by unfold maxLen; omega
  have hm2 : (N + 2) * 4 ≤ 140737488355328 := by omega
  go_enter Tryz.func191, Tryz.ntmps191
  go_wp2_with (at_builtin; refine wpList_append_lies _ rfl _ _ 131 rfl B 21 i0 _ 1 4 Tryz.underlying131 hi hz0 hz1 hz2 rfl (by omega) _ N _ rfl (World.ownsRow.alloc (Rn.own (unhide HN) (unhide HO)) _) ⟨w.heap.size, 0, none⟩ 2 2 [.int .i32 105, .int .i32 775] rfl rfl (World.news_of_block (cs := #[.int .i32 105, .int .i32 775]) (t := 21) (fr := (0, 0)) (heap_new w _)) (by simp [Value.oneCell']) (by omega) hm1 hm2 (by simp; omega) (w.heap.size + 1) (by simp) ?_; intro g9 cap9 w9 hown9 hgrow9 hat9 hlt9)
  go_ret
  exact ⟨_, rfl, Rn.app (zs := [105, 775]) (unhide HN) rfl hown9, ((Gr.one w _).below.mono hB).trans (below_own hgrow9 (by simp; omega) (own_block (Rn.own (unhide HN) (unhide HO))))⟩
set_option maxHeartbeats 1600000 in
theorem putn_329 (B : Nat) (v : Value) (T : List Int) (w : World) (hB : B ≤ w.heap.size) (h : Rn B v T w) (hT : T.length ≤ 100000) : Calls Tryz.prog 191 #[v, .int .i32 329] w fun e w' => ∃ v', e = .returned v' ∧ Rn B v' (T ++ [700, 110]) w' ∧ Below B w w' := by
  obtain ⟨i0, hi, hz0, hz1, hz2⟩ := info_parts elem_info
  obtain ⟨xa, xc, hv⟩ := h.shape
  obtain ⟨N, hN⟩ : ∃ N, N = T.length := ⟨_, rfl⟩
  rw [← hN] at hv hT
  have HN := hide hN
  clear hN
  subst hv
  have HO := hide h
  clear h
  have hm1 : N + 2 ≤ maxLen := by unfold maxLen; omega
  have hm2 : (N + 2) * 4 ≤ 140737488355328 := by omega
  go_enter Tryz.func191, Tryz.ntmps191
  go_wp2_with (at_builtin; refine wpList_append_lies _ rfl _ _ 131 rfl B 21 i0 _ 1 4 Tryz.underlying131 hi hz0 hz1 hz2 rfl (by omega) _ N _ rfl (World.ownsRow.alloc (Rn.own (unhide HN) (unhide HO)) _) ⟨w.heap.size, 0, none⟩ 2 2 [.int .i32 700, .int .i32 110] rfl rfl (World.news_of_block (cs := #[.int .i32 700, .int .i32 110]) (t := 21) (fr := (0, 0)) (heap_new w _)) (by simp [Value.oneCell']) (by omega) hm1 hm2 (by simp; omega) (w.heap.size + 1) (by simp) ?_; intro g9 cap9 w9 hown9 hgrow9 hat9 hlt9)
  go_ret
  exact ⟨_, rfl, Rn.app (zs := [700, 110]) (unhide HN) rfl hown9, ((Gr.one w _).below.mono hB).trans (below_own hgrow9 (by simp; omega) (own_block (Rn.own (unhide HN) (unhide HO))))⟩
set_option maxHeartbeats 1600000 in
theorem putn_376 (B : Nat) (v : Value) (T : List Int) (w : World) (hB : B ≤ w.heap.size) (h : Rn B v T w) (hT : T.length ≤ 100000) : Calls Tryz.prog 191 #[v, .int .i32 376] w fun e w' => ∃ v', e = .returned v' ∧ Rn B v' (T ++ [255]) w' ∧ Below B w w' := by
  obtain ⟨i0, hi, hz0, hz1, hz2⟩ := info_parts elem_info
  obtain ⟨xa, xc, hv⟩ := h.shape
  obtain ⟨N, hN⟩ : ∃ N, N = T.length := ⟨_, rfl⟩
  rw [← hN] at hv hT
  have HN := hide hN
  clear hN
  subst hv
  have HO := hide h
  clear h
  have hm1 : N + 1 ≤ maxLen := by unfold maxLen; omega
  have hm2 : (N + 1) * 4 ≤ 140737488355328 := by omega
  go_enter Tryz.func191, Tryz.ntmps191
  go_wp2_with (at_builtin; refine wpList_append_lies _ rfl _ _ 131 rfl B 21 i0 _ 1 4 Tryz.underlying131 hi hz0 hz1 hz2 rfl (by omega) _ N _ rfl (World.ownsRow.alloc (Rn.own (unhide HN) (unhide HO)) _) ⟨w.heap.size, 0, none⟩ 1 1 [.int .i32 255] rfl rfl (World.news_of_block (cs := #[.int .i32 255]) (t := 21) (fr := (0, 0)) (heap_new w _)) (by simp [Value.oneCell']) (by omega) hm1 hm2 (by simp; omega) (w.heap.size + 1) (by simp) ?_; intro g9 cap9 w9 hown9 hgrow9 hat9 hlt9)
  go_ret
  exact ⟨_, rfl, Rn.app (zs := [255]) (unhide HN) rfl hown9, ((Gr.one w _).below.mono hB).trans (below_own hgrow9 (by simp; omega) (own_block (Rn.own (unhide HN) (unhide HO))))⟩
set_option maxHeartbeats 1600000 in
theorem putn_383 (B : Nat) (v : Value) (T : List Int) (w : World) (hB : B ≤ w.heap.size) (h : Rn B v T w) (hT : T.length ≤ 100000) : Calls Tryz.prog 191 #[v, .int .i32 383] w fun e w' => ∃ v', e = .returned v' ∧ Rn B v' (T ++ [115]) w' ∧ Below B w w' := by
  obtain ⟨i0, hi, hz0, hz1, hz2⟩ := info_parts elem_info
  obtain ⟨xa, xc, hv⟩ := h.shape
  obtain ⟨N, hN⟩ : ∃ N, N = T.length := ⟨_, rfl⟩
  rw [← hN] at hv hT
  have HN := hide hN
  clear hN
  subst hv
  have HO := hide h
  clear h
  have hm1 : N + 1 ≤ maxLen := by unfold maxLen; omega
  have hm2 : (N + 1) * 4 ≤ 140737488355328 := by omega
  go_enter Tryz.func191, Tryz.ntmps191
  go_wp2_with (at_builtin; refine wpList_append_lies _ rfl _ _ 131 rfl B 21 i0 _ 1 4 Tryz.underlying131 hi hz0 hz1 hz2 rfl (by omega) _ N _ rfl (World.ownsRow.alloc (Rn.own (unhide HN) (unhide HO)) _) ⟨w.heap.size, 0, none⟩ 1 1 [.int .i32 115] rfl rfl (World.news_of_block (cs := #[.int .i32 115]) (t := 21) (fr := (0, 0)) (heap_new w _)) (by simp [Value.oneCell']) (by omega) hm1 hm2 (by simp; omega) (w.heap.size + 1) (by simp) ?_; intro g9 cap9 w9 hown9 hgrow9 hat9 hlt9)
  go_ret
  exact ⟨_, rfl, Rn.app (zs := [115]) (unhide HN) rfl hown9, ((Gr.one w _).below.mono hB).trans (below_own hgrow9 (by simp; omega) (own_block (Rn.own (unhide HN) (unhide HO))))⟩
set_option maxHeartbeats 1600000 in
theorem putn_902 (B : Nat) (v : Value) (T : List Int) (w : World) (hB : B ≤ w.heap.size) (h : Rn B v T w) (hT : T.length ≤ 100000) : Calls Tryz.prog 191 #[v, .int .i32 902] w fun e w' => ∃ v', e = .returned v' ∧ Rn B v' (T ++ [940]) w' ∧ Below B w w' := by
  obtain ⟨i0, hi, hz0, hz1, hz2⟩ := info_parts elem_info
  obtain ⟨xa, xc, hv⟩ := h.shape
  obtain ⟨N, hN⟩ : ∃ N, N = T.length := ⟨_, rfl⟩
  rw [← hN] at hv hT
  have HN := hide hN
  clear hN
  subst hv
  have HO := hide h
  clear h
  have hm1 : N + 1 ≤ maxLen := by unfold maxLen; omega
  have hm2 : (N + 1) * 4 ≤ 140737488355328 := by omega
  go_enter Tryz.func191, Tryz.ntmps191
  go_wp2_with (at_builtin; refine wpList_append_lies _ rfl _ _ 131 rfl B 21 i0 _ 1 4 Tryz.underlying131 hi hz0 hz1 hz2 rfl (by omega) _ N _ rfl (World.ownsRow.alloc (Rn.own (unhide HN) (unhide HO)) _) ⟨w.heap.size, 0, none⟩ 1 1 [.int .i32 940] rfl rfl (World.news_of_block (cs := #[.int .i32 940]) (t := 21) (fr := (0, 0)) (heap_new w _)) (by simp [Value.oneCell']) (by omega) hm1 hm2 (by simp; omega) (w.heap.size + 1) (by simp) ?_; intro g9 cap9 w9 hown9 hgrow9 hat9 hlt9)
  go_ret
  exact ⟨_, rfl, Rn.app (zs := [940]) (unhide HN) rfl hown9, ((Gr.one w _).below.mono hB).trans (below_own hgrow9 (by simp; omega) (own_block (Rn.own (unhide HN) (unhide HO))))⟩
set_option maxHeartbeats 1600000 in
theorem putn_908 (B : Nat) (v : Value) (T : List Int) (w : World) (hB : B ≤ w.heap.size) (h : Rn B v T w) (hT : T.length ≤ 100000) : Calls Tryz.prog 191 #[v, .int .i32 908] w fun e w' => ∃ v', e = .returned v' ∧ Rn B v' (T ++ [972]) w' ∧ Below B w w' := by
  obtain ⟨i0, hi, hz0, hz1, hz2⟩ := info_parts elem_info
  obtain ⟨xa, xc, hv⟩ := h.shape
  obtain ⟨N, hN⟩ : ∃ N, N = T.length := ⟨_, rfl⟩
  rw [← hN] at hv hT
  have HN := hide hN
  clear hN
  subst hv
  have HO := hide h
  clear h
  have hm1 : N + 1 ≤ maxLen := by unfold maxLen; omega
  have hm2 : (N + 1) * 4 ≤ 140737488355328 := by omega
  go_enter Tryz.func191, Tryz.ntmps191
  go_wp2_with (at_builtin; refine wpList_append_lies _ rfl _ _ 131 rfl B 21 i0 _ 1 4 Tryz.underlying131 hi hz0 hz1 hz2 rfl (by omega) _ N _ rfl (World.ownsRow.alloc (Rn.own (unhide HN) (unhide HO)) _) ⟨w.heap.size, 0, none⟩ 1 1 [.int .i32 972] rfl rfl (World.news_of_block (cs := #[.int .i32 972]) (t := 21) (fr := (0, 0)) (heap_new w _)) (by simp [Value.oneCell']) (by omega) hm1 hm2 (by simp; omega) (w.heap.size + 1) (by simp) ?_; intro g9 cap9 w9 hown9 hgrow9 hat9 hlt9)
  go_ret
  exact ⟨_, rfl, Rn.app (zs := [972]) (unhide HN) rfl hown9, ((Gr.one w _).below.mono hB).trans (below_own hgrow9 (by simp; omega) (own_block (Rn.own (unhide HN) (unhide HO))))⟩
set_option maxHeartbeats 1600000 in
theorem putn_910 (B : Nat) (v : Value) (T : List Int) (w : World) (hB : B ≤ w.heap.size) (h : Rn B v T w) (hT : T.length ≤ 100000) : Calls Tryz.prog 191 #[v, .int .i32 910] w fun e w' => ∃ v', e = .returned v' ∧ Rn B v' (T ++ [973]) w' ∧ Below B w w' := by
  obtain ⟨i0, hi, hz0, hz1, hz2⟩ := info_parts elem_info
  obtain ⟨xa, xc, hv⟩ := h.shape
  obtain ⟨N, hN⟩ : ∃ N, N = T.length := ⟨_, rfl⟩
  rw [← hN] at hv hT
  have HN := hide hN
  clear hN
  subst hv
  have HO := hide h
  clear h
  have hm1 : N + 1 ≤ maxLen := by unfold maxLen; omega
  have hm2 : (N + 1) * 4 ≤ 140737488355328 := by omega
  go_enter Tryz.func191, Tryz.ntmps191
  go_wp2_with (at_builtin; refine wpList_append_lies _ rfl _ _ 131 rfl B 21 i0 _ 1 4 Tryz.underlying131 hi hz0 hz1 hz2 rfl (by omega) _ N _ rfl (World.ownsRow.alloc (Rn.own (unhide HN) (unhide HO)) _) ⟨w.heap.size, 0, none⟩ 1 1 [.int .i32 973] rfl rfl (World.news_of_block (cs := #[.int .i32 973]) (t := 21) (fr := (0, 0)) (heap_new w _)) (by simp [Value.oneCell']) (by omega) hm1 hm2 (by simp; omega) (w.heap.size + 1) (by simp) ?_; intro g9 cap9 w9 hown9 hgrow9 hat9 hlt9)
  go_ret
  exact ⟨_, rfl, Rn.app (zs := [973]) (unhide HN) rfl hown9, ((Gr.one w _).below.mono hB).trans (below_own hgrow9 (by simp; omega) (own_block (Rn.own (unhide HN) (unhide HO))))⟩
set_option maxHeartbeats 1600000 in
theorem putn_911 (B : Nat) (v : Value) (T : List Int) (w : World) (hB : B ≤ w.heap.size) (h : Rn B v T w) (hT : T.length ≤ 100000) : Calls Tryz.prog 191 #[v, .int .i32 911] w fun e w' => ∃ v', e = .returned v' ∧ Rn B v' (T ++ [974]) w' ∧ Below B w w' := by
  obtain ⟨i0, hi, hz0, hz1, hz2⟩ := info_parts elem_info
  obtain ⟨xa, xc, hv⟩ := h.shape
  obtain ⟨N, hN⟩ : ∃ N, N = T.length := ⟨_, rfl⟩
  rw [← hN] at hv hT
  have HN := hide hN
  clear hN
  subst hv
  have HO := hide h
  clear h
  have hm1 : N + 1 ≤ maxLen := by unfold maxLen; omega
  have hm2 : (N + 1) * 4 ≤ 140737488355328 := by omega
  go_enter Tryz.func191, Tryz.ntmps191
  go_wp2_with (at_builtin; refine wpList_append_lies _ rfl _ _ 131 rfl B 21 i0 _ 1 4 Tryz.underlying131 hi hz0 hz1 hz2 rfl (by omega) _ N _ rfl (World.ownsRow.alloc (Rn.own (unhide HN) (unhide HO)) _) ⟨w.heap.size, 0, none⟩ 1 1 [.int .i32 974] rfl rfl (World.news_of_block (cs := #[.int .i32 974]) (t := 21) (fr := (0, 0)) (heap_new w _)) (by simp [Value.oneCell']) (by omega) hm1 hm2 (by simp; omega) (w.heap.size + 1) (by simp) ?_; intro g9 cap9 w9 hown9 hgrow9 hat9 hlt9)
  go_ret
  exact ⟨_, rfl, Rn.app (zs := [974]) (unhide HN) rfl hown9, ((Gr.one w _).below.mono hB).trans (below_own hgrow9 (by simp; omega) (own_block (Rn.own (unhide HN) (unhide HO))))⟩
set_option maxHeartbeats 1600000 in
theorem putn_962 (B : Nat) (v : Value) (T : List Int) (w : World) (hB : B ≤ w.heap.size) (h : Rn B v T w) (hT : T.length ≤ 100000) : Calls Tryz.prog 191 #[v, .int .i32 962] w fun e w' => ∃ v', e = .returned v' ∧ Rn B v' (T ++ [963]) w' ∧ Below B w w' := by
  obtain ⟨i0, hi, hz0, hz1, hz2⟩ := info_parts elem_info
  obtain ⟨xa, xc, hv⟩ := h.shape
  obtain ⟨N, hN⟩ : ∃ N, N = T.length := ⟨_, rfl⟩
  rw [← hN] at hv hT
  have HN := hide hN
  clear hN
  subst hv
  have HO := hide h
  clear h
  have hm1 : N + 1 ≤ maxLen := by unfold maxLen; omega
  have hm2 : (N + 1) * 4 ≤ 140737488355328 := by omega
  go_enter Tryz.func191, Tryz.ntmps191
  go_wp2_with (at_builtin; refine wpList_append_lies _ rfl _ _ 131 rfl B 21 i0 _ 1 4 Tryz.underlying131 hi hz0 hz1 hz2 rfl (by omega) _ N _ rfl (World.ownsRow.alloc (Rn.own (unhide HN) (unhide HO)) _) ⟨w.heap.size, 0, none⟩ 1 1 [.int .i32 963] rfl rfl (World.news_of_block (cs := #[.int .i32 963]) (t := 21) (fr := (0, 0)) (heap_new w _)) (by simp [Value.oneCell']) (by omega) hm1 hm2 (by simp; omega) (w.heap.size + 1) (by simp) ?_; intro g9 cap9 w9 hown9 hgrow9 hat9 hlt9)
  go_ret
  exact ⟨_, rfl, Rn.app (zs := [963]) (unhide HN) rfl hown9, ((Gr.one w _).below.mono hB).trans (below_own hgrow9 (by simp; omega) (own_block (Rn.own (unhide HN) (unhide HO))))⟩
set_option maxHeartbeats 1600000 in
theorem putn_1025 (B : Nat) (v : Value) (T : List Int) (w : World) (hB : B ≤ w.heap.size) (h : Rn B v T w) (hT : T.length ≤ 100000) : Calls Tryz.prog 191 #[v, .int .i32 1025] w fun e w' => ∃ v', e = .returned v' ∧ Rn B v' (T ++ [1105]) w' ∧ Below B w w' := by
  obtain ⟨i0, hi, hz0, hz1, hz2⟩ := info_parts elem_info
  obtain ⟨xa, xc, hv⟩ := h.shape
  obtain ⟨N, hN⟩ : ∃ N, N = T.length := ⟨_, rfl⟩
  rw [← hN] at hv hT
  have HN := hide hN
  clear hN
  subst hv
  have HO := hide h
  clear h
  have hm1 : N + 1 ≤ maxLen := by unfold maxLen; omega
  have hm2 : (N + 1) * 4 ≤ 140737488355328 := by omega
  go_enter Tryz.func191, Tryz.ntmps191
  go_wp2_with (at_builtin; refine wpList_append_lies _ rfl _ _ 131 rfl B 21 i0 _ 1 4 Tryz.underlying131 hi hz0 hz1 hz2 rfl (by omega) _ N _ rfl (World.ownsRow.alloc (Rn.own (unhide HN) (unhide HO)) _) ⟨w.heap.size, 0, none⟩ 1 1 [.int .i32 1105] rfl rfl (World.news_of_block (cs := #[.int .i32 1105]) (t := 21) (fr := (0, 0)) (heap_new w _)) (by simp [Value.oneCell']) (by omega) hm1 hm2 (by simp; omega) (w.heap.size + 1) (by simp) ?_; intro g9 cap9 w9 hown9 hgrow9 hat9 hlt9)
  go_ret
  exact ⟨_, rfl, Rn.app (zs := [1105]) (unhide HN) rfl hown9, ((Gr.one w _).below.mono hB).trans (below_own hgrow9 (by simp; omega) (own_block (Rn.own (unhide HN) (unhide HO))))⟩
set_option maxHeartbeats 1600000 in
theorem putn_8486 (B : Nat) (v : Value) (T : List Int) (w : World) (hB : B ≤ w.heap.size) (h : Rn B v T w) (hT : T.length ≤ 100000) : Calls Tryz.prog 191 #[v, .int .i32 8486] w fun e w' => ∃ v', e = .returned v' ∧ Rn B v' (T ++ [969]) w' ∧ Below B w w' := by
  obtain ⟨i0, hi, hz0, hz1, hz2⟩ := info_parts elem_info
  obtain ⟨xa, xc, hv⟩ := h.shape
  obtain ⟨N, hN⟩ : ∃ N, N = T.length := ⟨_, rfl⟩
  rw [← hN] at hv hT
  have HN := hide hN
  clear hN
  subst hv
  have HO := hide h
  clear h
  have hm1 : N + 1 ≤ maxLen := by unfold maxLen; omega
  have hm2 : (N + 1) * 4 ≤ 140737488355328 := by omega
  go_enter Tryz.func191, Tryz.ntmps191
  go_wp2_with (at_builtin; refine wpList_append_lies _ rfl _ _ 131 rfl B 21 i0 _ 1 4 Tryz.underlying131 hi hz0 hz1 hz2 rfl (by omega) _ N _ rfl (World.ownsRow.alloc (Rn.own (unhide HN) (unhide HO)) _) ⟨w.heap.size, 0, none⟩ 1 1 [.int .i32 969] rfl rfl (World.news_of_block (cs := #[.int .i32 969]) (t := 21) (fr := (0, 0)) (heap_new w _)) (by simp [Value.oneCell']) (by omega) hm1 hm2 (by simp; omega) (w.heap.size + 1) (by simp) ?_; intro g9 cap9 w9 hown9 hgrow9 hat9 hlt9)
  go_ret
  exact ⟨_, rfl, Rn.app (zs := [969]) (unhide HN) rfl hown9, ((Gr.one w _).below.mono hB).trans (below_own hgrow9 (by simp; omega) (own_block (Rn.own (unhide HN) (unhide HO))))⟩
set_option maxHeartbeats 1600000 in
theorem putn_8490 (B : Nat) (v : Value) (T : List Int) (w : World) (hB : B ≤ w.heap.size) (h : Rn B v T w) (hT : T.length ≤ 100000) : Calls Tryz.prog 191 #[v, .int .i32 8490] w fun e w' => ∃ v', e = .returned v' ∧ Rn B v' (T ++ [107]) w' ∧ Below B w w' := by
  obtain ⟨i0, hi, hz0, hz1, hz2⟩ := info_parts elem_info
  obtain ⟨xa, xc, hv⟩ := h.shape
  obtain ⟨N, hN⟩ : ∃ N, N = T.length := ⟨_, rfl⟩
  rw [← hN] at hv hT
  have HN := hide hN
  clear hN
  subst hv
  have HO := hide h
  clear h
  have hm1 : N + 1 ≤ maxLen := by unfold maxLen; omega
  have hm2 : (N + 1) * 4 ≤ 140737488355328 := by omega
  go_enter Tryz.func191, Tryz.ntmps191
  go_wp2_with (at_builtin; refine wpList_append_lies _ rfl _ _ 131 rfl B 21 i0 _ 1 4 Tryz.underlying131 hi hz0 hz1 hz2 rfl (by omega) _ N _ rfl (World.ownsRow.alloc (Rn.own (unhide HN) (unhide HO)) _) ⟨w.heap.size, 0, none⟩ 1 1 [.int .i32 107] rfl rfl (World.news_of_block (cs := #[.int .i32 107]) (t := 21) (fr := (0, 0)) (heap_new w _)) (by simp [Value.oneCell']) (by omega) hm1 hm2 (by simp; omega) (w.heap.size + 1) (by simp) ?_; intro g9 cap9 w9 hown9 hgrow9 hat9 hlt9)
  go_ret
  exact ⟨_, rfl, Rn.app (zs := [107]) (unhide HN) rfl hown9, ((Gr.one w _).below.mono hB).trans (below_own hgrow9 (by simp; omega) (own_block (Rn.own (unhide HN) (unhide HO))))⟩
set_option maxHeartbeats 1600000 in
theorem putn_8491 (B : Nat) (v : Value) (T : List Int) (w : World) (hB : B ≤ w.heap.size) (h : Rn B v T w) (hT : T.length ≤ 100000) : Calls Tryz.prog 191 #[v, .int .i32 8491] w fun e w' => ∃ v', e = .returned v' ∧ Rn B v' (T ++ [229]) w' ∧ Below B w w' := by
  obtain ⟨i0, hi, hz0, hz1, hz2⟩ := info_parts elem_info
  obtain ⟨xa, xc, hv⟩ := h.shape
  obtain ⟨N, hN⟩ : ∃ N, N = T.length := ⟨_, rfl⟩
  rw [← hN] at hv hT
  have HN := hide hN
  clear hN
  subst hv
  have HO := hide h
  clear h
  have hm1 : N + 1 ≤ maxLen := by unfold maxLen; omega
  have hm2 : (N + 1) * 4 ≤ 140737488355328 := by omega
  go_enter Tryz.func191, Tryz.ntmps191
  go_wp2_with (at_builtin; refine wpList_append_lies _ rfl _ _ 131 rfl B 21 i0 _ 1 4 Tryz.underlying131 hi hz0 hz1 hz2 rfl (by omega) _ N _ rfl (World.ownsRow.alloc (Rn.own (unhide HN) (unhide HO)) _) ⟨w.heap.size, 0, none⟩ 1 1 [.int .i32 229] rfl rfl (World.news_of_block (cs := #[.int .i32 229]) (t := 21) (fr := (0, 0)) (heap_new w _)) (by simp [Value.oneCell']) (by omega) hm1 hm2 (by simp; omega) (w.heap.size + 1) (by simp) ?_; intro g9 cap9 w9 hown9 hgrow9 hat9 hlt9)
  go_ret
  exact ⟨_, rfl, Rn.app (zs := [229]) (unhide HN) rfl hown9, ((Gr.one w _).below.mono hB).trans (below_own hgrow9 (by simp; omega) (own_block (Rn.own (unhide HN) (unhide HO))))⟩
set_option maxHeartbeats 1600000 in
theorem putn_64256 (B : Nat) (v : Value) (T : List Int) (w : World) (hB : B ≤ w.heap.size) (h : Rn B v T w) (hT : T.length ≤ 100000) : Calls Tryz.prog 191 #[v, .int .i32 64256] w fun e w' => ∃ v', e = .returned v' ∧ Rn B v' (T ++ [102, 102]) w' ∧ Below B w w' := by
  obtain ⟨i0, hi, hz0, hz1, hz2⟩ := info_parts elem_info
  obtain ⟨xa, xc, hv⟩ := h.shape
  obtain ⟨N, hN⟩ : ∃ N, N = T.length := ⟨_, rfl⟩
  rw [← hN] at hv hT
  have HN := hide hN
  clear hN
  subst hv
  have HO := hide h
  clear h
  have hm1 : N + 2 ≤ maxLen := by unfold maxLen; omega
  have hm2 : (N + 2) * 4 ≤ 140737488355328 := by omega
  go_enter Tryz.func191, Tryz.ntmps191
  go_wp2_with (at_builtin; refine wpList_append_lies _ rfl _ _ 131 rfl B 21 i0 _ 1 4 Tryz.underlying131 hi hz0 hz1 hz2 rfl (by omega) _ N _ rfl (World.ownsRow.alloc (Rn.own (unhide HN) (unhide HO)) _) ⟨w.heap.size, 0, none⟩ 2 2 [.int .i32 102, .int .i32 102] rfl rfl (World.news_of_block (cs := #[.int .i32 102, .int .i32 102]) (t := 21) (fr := (0, 0)) (heap_new w _)) (by simp [Value.oneCell']) (by omega) hm1 hm2 (by simp; omega) (w.heap.size + 1) (by simp) ?_; intro g9 cap9 w9 hown9 hgrow9 hat9 hlt9)
  go_ret
  exact ⟨_, rfl, Rn.app (zs := [102, 102]) (unhide HN) rfl hown9, ((Gr.one w _).below.mono hB).trans (below_own hgrow9 (by simp; omega) (own_block (Rn.own (unhide HN) (unhide HO))))⟩
set_option maxHeartbeats 1600000 in
theorem putn_64257 (B : Nat) (v : Value) (T : List Int) (w : World) (hB : B ≤ w.heap.size) (h : Rn B v T w) (hT : T.length ≤ 100000) : Calls Tryz.prog 191 #[v, .int .i32 64257] w fun e w' => ∃ v', e = .returned v' ∧ Rn B v' (T ++ [102, 105]) w' ∧ Below B w w' := by
  obtain ⟨i0, hi, hz0, hz1, hz2⟩ := info_parts elem_info
  obtain ⟨xa, xc, hv⟩ := h.shape
  obtain ⟨N, hN⟩ : ∃ N, N = T.length := ⟨_, rfl⟩
  rw [← hN] at hv hT
  have HN := hide hN
  clear hN
  subst hv
  have HO := hide h
  clear h
  have hm1 : N + 2 ≤ maxLen := by unfold maxLen; omega
  have hm2 : (N + 2) * 4 ≤ 140737488355328 := by omega
  go_enter Tryz.func191, Tryz.ntmps191
  go_wp2_with (at_builtin; refine wpList_append_lies _ rfl _ _ 131 rfl B 21 i0 _ 1 4 Tryz.underlying131 hi hz0 hz1 hz2 rfl (by omega) _ N _ rfl (World.ownsRow.alloc (Rn.own (unhide HN) (unhide HO)) _) ⟨w.heap.size, 0, none⟩ 2 2 [.int .i32 102, .int .i32 105] rfl rfl (World.news_of_block (cs := #[.int .i32 102, .int .i32 105]) (t := 21) (fr := (0, 0)) (heap_new w _)) (by simp [Value.oneCell']) (by omega) hm1 hm2 (by simp; omega) (w.heap.size + 1) (by simp) ?_; intro g9 cap9 w9 hown9 hgrow9 hat9 hlt9)
  go_ret
  exact ⟨_, rfl, Rn.app (zs := [102, 105]) (unhide HN) rfl hown9, ((Gr.one w _).below.mono hB).trans (below_own hgrow9 (by simp; omega) (own_block (Rn.own (unhide HN) (unhide HO))))⟩
set_option maxHeartbeats 1600000 in
theorem putn_64258 (B : Nat) (v : Value) (T : List Int) (w : World) (hB : B ≤ w.heap.size) (h : Rn B v T w) (hT : T.length ≤ 100000) : Calls Tryz.prog 191 #[v, .int .i32 64258] w fun e w' => ∃ v', e = .returned v' ∧ Rn B v' (T ++ [102, 108]) w' ∧ Below B w w' := by
  obtain ⟨i0, hi, hz0, hz1, hz2⟩ := info_parts elem_info
  obtain ⟨xa, xc, hv⟩ := h.shape
  obtain ⟨N, hN⟩ : ∃ N, N = T.length := ⟨_, rfl⟩
  rw [← hN] at hv hT
  have HN := hide hN
  clear hN
  subst hv
  have HO := hide h
  clear h
  have hm1 : N + 2 ≤ maxLen := by unfold maxLen; omega
  have hm2 : (N + 2) * 4 ≤ 140737488355328 := by omega
  go_enter Tryz.func191, Tryz.ntmps191
  go_wp2_with (at_builtin; refine wpList_append_lies _ rfl _ _ 131 rfl B 21 i0 _ 1 4 Tryz.underlying131 hi hz0 hz1 hz2 rfl (by omega) _ N _ rfl (World.ownsRow.alloc (Rn.own (unhide HN) (unhide HO)) _) ⟨w.heap.size, 0, none⟩ 2 2 [.int .i32 102, .int .i32 108] rfl rfl (World.news_of_block (cs := #[.int .i32 102, .int .i32 108]) (t := 21) (fr := (0, 0)) (heap_new w _)) (by simp [Value.oneCell']) (by omega) hm1 hm2 (by simp; omega) (w.heap.size + 1) (by simp) ?_; intro g9 cap9 w9 hown9 hgrow9 hat9 hlt9)
  go_ret
  exact ⟨_, rfl, Rn.app (zs := [102, 108]) (unhide HN) rfl hown9, ((Gr.one w _).below.mono hB).trans (below_own hgrow9 (by simp; omega) (own_block (Rn.own (unhide HN) (unhide HO))))⟩
set_option maxHeartbeats 1600000 in
theorem putn_64259 (B : Nat) (v : Value) (T : List Int) (w : World) (hB : B ≤ w.heap.size) (h : Rn B v T w) (hT : T.length ≤ 100000) : Calls Tryz.prog 191 #[v, .int .i32 64259] w fun e w' => ∃ v', e = .returned v' ∧ Rn B v' (T ++ [102, 102, 105]) w' ∧ Below B w w' := by
  obtain ⟨i0, hi, hz0, hz1, hz2⟩ := info_parts elem_info
  obtain ⟨xa, xc, hv⟩ := h.shape
  obtain ⟨N, hN⟩ : ∃ N, N = T.length := ⟨_, rfl⟩
  rw [← hN] at hv hT
  have HN := hide hN
  clear hN
  subst hv
  have HO := hide h
  clear h
  have hm1 : N + 3 ≤ maxLen := by unfold maxLen; omega
  have hm2 : (N + 3) * 4 ≤ 140737488355328 := by omega
  go_enter Tryz.func191, Tryz.ntmps191
  go_wp2_with (at_builtin; refine wpList_append_lies _ rfl _ _ 131 rfl B 21 i0 _ 1 4 Tryz.underlying131 hi hz0 hz1 hz2 rfl (by omega) _ N _ rfl (World.ownsRow.alloc (Rn.own (unhide HN) (unhide HO)) _) ⟨w.heap.size, 0, none⟩ 3 3 [.int .i32 102, .int .i32 102, .int .i32 105] rfl rfl (World.news_of_block (cs := #[.int .i32 102, .int .i32 102, .int .i32 105]) (t := 21) (fr := (0, 0)) (heap_new w _)) (by simp [Value.oneCell']) (by omega) hm1 hm2 (by simp; omega) (w.heap.size + 1) (by simp) ?_; intro g9 cap9 w9 hown9 hgrow9 hat9 hlt9)
  go_ret
  exact ⟨_, rfl, Rn.app (zs := [102, 102, 105]) (unhide HN) rfl hown9, ((Gr.one w _).below.mono hB).trans (below_own hgrow9 (by simp; omega) (own_block (Rn.own (unhide HN) (unhide HO))))⟩
set_option maxHeartbeats 1600000 in
theorem putn_64260 (B : Nat) (v : Value) (T : List Int) (w : World) (hB : B ≤ w.heap.size) (h : Rn B v T w) (hT : T.length ≤ 100000) : Calls Tryz.prog 191 #[v, .int .i32 64260] w fun e w' => ∃ v', e = .returned v' ∧ Rn B v' (T ++ [102, 102, 108]) w' ∧ Below B w w' := by
  obtain ⟨i0, hi, hz0, hz1, hz2⟩ := info_parts elem_info
  obtain ⟨xa, xc, hv⟩ := h.shape
  obtain ⟨N, hN⟩ : ∃ N, N = T.length := ⟨_, rfl⟩
  rw [← hN] at hv hT
  have HN := hide hN
  clear hN
  subst hv
  have HO := hide h
  clear h
  have hm1 : N + 3 ≤ maxLen := by unfold maxLen; omega
  have hm2 : (N + 3) * 4 ≤ 140737488355328 := by omega
  go_enter Tryz.func191, Tryz.ntmps191
  go_wp2_with (at_builtin; refine wpList_append_lies _ rfl _ _ 131 rfl B 21 i0 _ 1 4 Tryz.underlying131 hi hz0 hz1 hz2 rfl (by omega) _ N _ rfl (World.ownsRow.alloc (Rn.own (unhide HN) (unhide HO)) _) ⟨w.heap.size, 0, none⟩ 3 3 [.int .i32 102, .int .i32 102, .int .i32 108] rfl rfl (World.news_of_block (cs := #[.int .i32 102, .int .i32 102, .int .i32 108]) (t := 21) (fr := (0, 0)) (heap_new w _)) (by simp [Value.oneCell']) (by omega) hm1 hm2 (by simp; omega) (w.heap.size + 1) (by simp) ?_; intro g9 cap9 w9 hown9 hgrow9 hat9 hlt9)
  go_ret
  exact ⟨_, rfl, Rn.app (zs := [102, 102, 108]) (unhide HN) rfl hown9, ((Gr.one w _).below.mono hB).trans (below_own hgrow9 (by simp; omega) (own_block (Rn.own (unhide HN) (unhide HO))))⟩
set_option maxHeartbeats 1600000 in
theorem putn_64261 (B : Nat) (v : Value) (T : List Int) (w : World) (hB : B ≤ w.heap.size) (h : Rn B v T w) (hT : T.length ≤ 100000) : Calls Tryz.prog 191 #[v, .int .i32 64261] w fun e w' => ∃ v', e = .returned v' ∧ Rn B v' (T ++ [115, 116]) w' ∧ Below B w w' := by
  obtain ⟨i0, hi, hz0, hz1, hz2⟩ := info_parts elem_info
  obtain ⟨xa, xc, hv⟩ := h.shape
  obtain ⟨N, hN⟩ : ∃ N, N = T.length := ⟨_, rfl⟩
  rw [← hN] at hv hT
  have HN := hide hN
  clear hN
  subst hv
  have HO := hide h
  clear h
  have hm1 : N + 2 ≤ maxLen := by unfold maxLen; omega
  have hm2 : (N + 2) * 4 ≤ 140737488355328 := by omega
  go_enter Tryz.func191, Tryz.ntmps191
  go_wp2_with (at_builtin; refine wpList_append_lies _ rfl _ _ 131 rfl B 21 i0 _ 1 4 Tryz.underlying131 hi hz0 hz1 hz2 rfl (by omega) _ N _ rfl (World.ownsRow.alloc (Rn.own (unhide HN) (unhide HO)) _) ⟨w.heap.size, 0, none⟩ 2 2 [.int .i32 115, .int .i32 116] rfl rfl (World.news_of_block (cs := #[.int .i32 115, .int .i32 116]) (t := 21) (fr := (0, 0)) (heap_new w _)) (by simp [Value.oneCell']) (by omega) hm1 hm2 (by simp; omega) (w.heap.size + 1) (by simp) ?_; intro g9 cap9 w9 hown9 hgrow9 hat9 hlt9)
  go_ret
  exact ⟨_, rfl, Rn.app (zs := [115, 116]) (unhide HN) rfl hown9, ((Gr.one w _).below.mono hB).trans (below_own hgrow9 (by simp; omega) (own_block (Rn.own (unhide HN) (unhide HO))))⟩
set_option maxHeartbeats 1600000 in
theorem putn_else (r : Int) (B : Nat) (v : Value) (T : List Int) (w : World) (hB : B ≤ w.heap.size) (h : Rn B v T w) (hT : T.length ≤ 100000) (hn : r ∉ nms9.map (·.1)) : Calls Tryz.prog 191 #[v, .int .i32 r] w fun e w' => ∃ v', e = .returned v' ∧ Rn B v' (T ++ [r]) w' ∧ Below B w w' := by
  obtain ⟨i0, hi, hz0, hz1, hz2⟩ := info_parts elem_info
  obtain ⟨xa, xc, hv⟩ := h.shape
  obtain ⟨N, hN⟩ : ∃ N, N = T.length := ⟨_, rfl⟩
  rw [← hN] at hv hT
  have HN := hide hN
  clear hN
  subst hv
  have HO := hide h
  clear h
  have hm1 : N + 1 ≤ maxLen := by unfold maxLen; omega
  have hm2 : (N + 1) * 4 ≤ 140737488355328 := by omega
  have m181 : (r == 181) = false := by simpa using fun e : r = 181 => hn (by rw [e]; decide)
  have m223 : (r == 223) = false := by simpa using fun e : r = 223 => hn (by rw [e]; decide)
  have m304 : (r == 304) = false := by simpa using fun e : r = 304 => hn (by rw [e]; decide)
  have m329 : (r == 329) = false := by simpa using fun e : r = 329 => hn (by rw [e]; decide)
  have m376 : (r == 376) = false := by simpa using fun e : r = 376 => hn (by rw [e]; decide)
  have m383 : (r == 383) = false := by simpa using fun e : r = 383 => hn (by rw [e]; decide)
  have m902 : (r == 902) = false := by simpa using fun e : r = 902 => hn (by rw [e]; decide)
  have m908 : (r == 908) = false := by simpa using fun e : r = 908 => hn (by rw [e]; decide)
  have m910 : (r == 910) = false := by simpa using fun e : r = 910 => hn (by rw [e]; decide)
  have m911 : (r == 911) = false := by simpa using fun e : r = 911 => hn (by rw [e]; decide)
  have m962 : (r == 962) = false := by simpa using fun e : r = 962 => hn (by rw [e]; decide)
  have m1025 : (r == 1025) = false := by simpa using fun e : r = 1025 => hn (by rw [e]; decide)
  have m8486 : (r == 8486) = false := by simpa using fun e : r = 8486 => hn (by rw [e]; decide)
  have m8490 : (r == 8490) = false := by simpa using fun e : r = 8490 => hn (by rw [e]; decide)
  have m8491 : (r == 8491) = false := by simpa using fun e : r = 8491 => hn (by rw [e]; decide)
  have m64256 : (r == 64256) = false := by simpa using fun e : r = 64256 => hn (by rw [e]; decide)
  have m64257 : (r == 64257) = false := by simpa using fun e : r = 64257 => hn (by rw [e]; decide)
  have m64258 : (r == 64258) = false := by simpa using fun e : r = 64258 => hn (by rw [e]; decide)
  have m64259 : (r == 64259) = false := by simpa using fun e : r = 64259 => hn (by rw [e]; decide)
  have m64260 : (r == 64260) = false := by simpa using fun e : r = 64260 => hn (by rw [e]; decide)
  have m64261 : (r == 64261) = false := by simpa using fun e : r = 64261 => hn (by rw [e]; decide)
  clear hn
  go_enter Tryz.func191, Tryz.ntmps191
  go_wp2_with (at_builtin; refine wpList_append_lies _ rfl _ _ 131 rfl B 21 i0 _ 1 4 Tryz.underlying131 hi hz0 hz1 hz2 rfl (by omega) _ N _ rfl (World.ownsRow.alloc (Rn.own (unhide HN) (unhide HO)) _) ⟨w.heap.size, 0, none⟩ 1 1 [.int .i32 r] rfl rfl (World.news_of_block (cs := #[.int .i32 r]) (t := 21) (fr := (0, 0)) (heap_new w _)) (by simp [Value.oneCell']) (by omega) hm1 hm2 (by simp; omega) (w.heap.size + 1) (by simp) ?_; intro g9 cap9 w9 hown9 hgrow9 hat9 hlt9)
  go_ret
  exact ⟨_, rfl, Rn.app (zs := [r]) (unhide HN) rfl hown9, ((Gr.one w _).below.mono hB).trans (below_own hgrow9 (by simp; omega) (own_block (Rn.own (unhide HN) (unhide HO))))⟩
/-- putNamed, of any number. -/
theorem putn_any (r : Int) (B : Nat) (v : Value) (T : List Int) (w : World) (hB : B ≤ w.heap.size) (h : Rn B v T w) (hT : T.length ≤ 100000) : Calls Tryz.prog 191 #[v, .int .i32 r] w fun e w' => ∃ v', e = .returned v' ∧ Rn B v' (T ++ namL r nms9) w' ∧ Below B w w' := by
  by_cases hn : r ∈ nms9.map (·.1)
  · simp only [nms9, List.map_cons, List.map_nil, List.mem_cons, List.not_mem_nil, or_false] at hn
    rcases hn with rfl | rfl | rfl | rfl | rfl | rfl | rfl | rfl | rfl | rfl | rfl | rfl | rfl | rfl | rfl | rfl | rfl | rfl | rfl | rfl | rfl
    · exact putn_181 B v T w hB h hT
    · exact putn_223 B v T w hB h hT
    · exact putn_304 B v T w hB h hT
    · exact putn_329 B v T w hB h hT
    · exact putn_376 B v T w hB h hT
    · exact putn_383 B v T w hB h hT
    · exact putn_902 B v T w hB h hT
    · exact putn_908 B v T w hB h hT
    · exact putn_910 B v T w hB h hT
    · exact putn_911 B v T w hB h hT
    · exact putn_962 B v T w hB h hT
    · exact putn_1025 B v T w hB h hT
    · exact putn_8486 B v T w hB h hT
    · exact putn_8490 B v T w hB h hT
    · exact putn_8491 B v T w hB h hT
    · exact putn_64256 B v T w hB h hT
    · exact putn_64257 B v T w hB h hT
    · exact putn_64258 B v T w hB h hT
    · exact putn_64259 B v T w hB h hT
    · exact putn_64260 B v T w hB h hT
    · exact putn_64261 B v T w hB h hT
  · rw [namL_self r nms9 hn]
    exact putn_else r B v T w hB h hT hn
end Go.Proofs.YtefobkgifigclaaGreatDoor
