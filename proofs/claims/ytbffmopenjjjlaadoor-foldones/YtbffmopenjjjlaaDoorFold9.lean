/- What characters are folded to, plainly. -/
import Derived.KernelRfl
namespace Go.Proofs.YtbffmopenjjjlaaDoor

/-- A row: from, to, step, how far above. -/
structure Fo where
  f : Int
  t : Int
  s : Int
  u : Int
def fo0 : Fo := ⟨0, 0, 1, 0⟩
def rows9 : List Fo := [
  ⟨65, 90, 1, 32⟩, ⟨192, 214, 1, 32⟩, ⟨216, 222, 1, 32⟩, ⟨256, 302, 2, 1⟩, ⟨306, 310, 2, 1⟩, ⟨313, 327, 2, 1⟩,
  ⟨330, 374, 2, 1⟩, ⟨376, 376, 1, -121⟩, ⟨377, 381, 2, 1⟩, ⟨902, 902, 1, 38⟩, ⟨904, 906, 1, 37⟩, ⟨908, 908, 1, 64⟩,
  ⟨910, 911, 1, 63⟩, ⟨913, 929, 1, 32⟩, ⟨931, 939, 1, 32⟩, ⟨962, 962, 1, 1⟩, ⟨1025, 1025, 1, 80⟩, ⟨1040, 1071, 1, 32⟩,
  ⟨181, 181, 1, 775⟩, ⟨383, 383, 1, -268⟩, ⟨8486, 8486, 1, -7517⟩, ⟨8490, 8490, 1, -8383⟩, ⟨8491, 8491, 1, -8262⟩, ⟨8544, 8555, 1, 16⟩,
  ⟨65313, 65338, 1, 32⟩]
def spec9 (r : Int) : Option (List Int) :=
  if r = 223 then some [115, 115]
  else if r = 304 then some [105, 775]
  else if r = 329 then some [700, 110]
  else if r = 64256 then some [102, 102]
  else if r = 64257 then some [102, 105]
  else if r = 64258 then some [102, 108]
  else if r = 64259 then some [102, 102, 105]
  else if r = 64260 then some [102, 102, 108]
  else if r = 64261 then some [115, 116]
  else none
def inF (o : Fo) (r : Int) : Bool := decide (o.f ≤ r ∧ r ≤ o.t ∧ (r - o.f) % o.s = 0)
def rowF (r : Int) : List Fo → List Int
  | [] => [r]
  | o :: m => if inF o r then [r + o.u] else rowF r m
/-- What r is folded to. -/
def foldL (r : Int) : List Int :=
  if 0 ≤ r ∧ r < 128 then (if 65 ≤ r ∧ r ≤ 90 then [r + 32] else [r])
  else match spec9 r with
    | some l => l
    | none => rowF r rows9
/-- Is it folded to itself alone? -/
def selfF (r : Int) : Bool := decide (foldL r = [r])
def foldedB (l : List Int) : Bool := l.all selfF
theorem rowF_step (r : Int) (n : Nat) (h : n < 25) : rowF r (rows9.drop n) = if inF (rows9.getD n fo0) r then [r + (rows9.getD n fo0).u] else rowF r (rows9.drop (n + 1)) := by
  have e : rows9.drop n = rows9.getD n fo0 :: rows9.drop (n + 1) := by
    have hl : n < rows9.length := h
    rw [List.drop_eq_getElem_cons hl]; simp [List.getD, hl]
  rw [e]; rfl
/-- What each row has: it rises, its step is one or two, what it tells fits. -/
def okF (o : Fo) : Bool := decide (0 ≤ o.f ∧ o.f ≤ o.t ∧ o.t ≤ 70000 ∧ 1 ≤ o.s ∧ o.s ≤ 2 ∧ -10000 ≤ o.u ∧ o.u ≤ 1000 ∧ 0 ≤ o.f + o.u)
theorem rows9_ok : rows9.all okF = true := by kernel_rfl
theorem row9_ok (n : Nat) (h : n < 25) : okF (rows9.getD n fo0) = true := by
  have hl : n < rows9.length := h
  exact List.all_eq_true.1 rows9_ok _ (by simp [List.getD, hl])
theorem rowF_len (r : Int) : ∀ l : List Fo, (rowF r l).length = 1
  | [] => rfl
  | o :: m => by
    unfold rowF
    cases inF o r
    · exact rowF_len r m
    · rfl
theorem spec9_len {r : Int} {l : List Int} (h : spec9 r = some l) : 1 ≤ l.length ∧ l.length ≤ 3 := by
  unfold spec9 at h
  repeat' split at h
  all_goals (cases h <;> simp)
theorem fold_len (r : Int) : 1 ≤ (foldL r).length ∧ (foldL r).length ≤ 3 := by
  unfold foldL
  split
  · split <;> simp
  · split
    · rename_i l h; exact spec9_len h
    · rw [rowF_len]; omega
end Go.Proofs.YtbffmopenjjjlaaDoor
