/- Plain mathematics of tables of spans: what is a table, what is told of a number, how many have something. Nothing of the program. -/
import Derived.Test.YtefobkgifigclaaGreatDoorM01
import Derived.Test.YtefobkgifigclaaGreatDoorProg
import Derived.WalkKit
import Derived.Great.Walk
import Derived.Deep.WholeRow
import Derived.WalkSpells
import Derived.WalkLawsBesides
import Derived.Deep.QuietTactic
import Derived.BigQuiet
import Derived.Deep.RegionHeld3
namespace Go.Proofs.YtefobkgifigclaaGreatDoor
set_option maxRecDepth 100000

/-- Is the span at place i as a table asks? -/
def okAt (l : List Sp) (i : Nat) : Bool := mayS (l.getD i sp0) && (decide ((l.getD i sp0).h ≠ 0) && (decide (i = 0) || folS (l.getD (i - 1) sp0) (l.getD i sp0)))
/-- Are the spans up to place k so? -/
def okTo (l : List Sp) : Nat → Bool
  | 0 => true
  | k + 1 => okTo l k && okAt l k
theorem okTo_at {l : List Sp} {k : Nat} (h : okTo l k = true) : ∀ i, i < k → okAt l i = true := by
  induction k with
  | zero => intro i hi; omega
  | succ k ih =>
    simp only [okTo, Bool.and_eq_true] at h
    intro i hi
    rcases Nat.lt_succ_iff_lt_or_eq.1 hi with h1 | rfl
    · exact ih h.1 i h1
    · exact h.2
theorem okTo_of {l : List Sp} {k : Nat} (h : ∀ i, i < k → okAt l i = true) : okTo l k = true := by
  induction k with
  | zero => rfl
  | succ k ih => simp only [okTo, Bool.and_eq_true]; exact ⟨ih fun i hi => h i (by omega), h k (by omega)⟩
theorem okTo_bad {l : List Sp} {k n : Nat} (hk : k < n) (h : okAt l k = false) : okTo l n = false := by
  cases hn : okTo l n with
  | false => rfl
  | true => rw [okTo_at hn k hk] at h; cases h
/-- What Check answers. -/
def chk (l : List Sp) : Int := if l.length ≤ 500 ∧ okTo l l.length = true then 0 else 20
theorem chk_long {l : List Sp} (h : 500 < l.length) : chk l = 20 := by unfold chk; rw [if_neg]; omega
theorem chk_bad {l : List Sp} {k : Nat} (hk : k < l.length) (h : okAt l k = false) : chk l = 20 := by
  unfold chk; rw [if_neg]; intro ⟨_, h2⟩; rw [okTo_bad hk h] at h2; cases h2
theorem chk_ok {l : List Sp} (h : l.length ≤ 500) (h2 : okTo l l.length = true) : chk l = 0 := by unfold chk; rw [if_pos ⟨h, h2⟩]
theorem chk_zero {l : List Sp} (h : chk l = 0) : l.length ≤ 500 ∧ okTo l l.length = true := by
  unfold chk at h; split at h
  · assumption
  · omega
theorem chk_two (l : List Sp) : chk l = 0 ∨ chk l = 20 := by unfold chk; split <;> simp
theorem okAt_may {l : List Sp} {k : Nat} (h : okAt l k = true) : 0 ≤ (l.getD k sp0).f ∧ (l.getD k sp0).f ≤ (l.getD k sp0).t ∧ (l.getD k sp0).t ≤ 1114111 := by
  simp only [okAt, Bool.and_eq_true] at h
  exact (mayS_iff _).1 h.1

/-- What is told of a number: what the first span in which it is has. -/
def fnd : List Sp → Int → Int
  | [], _ => 0
  | s :: l, r => if inS s r then s.h else fnd l r
theorem drop_getD (l : List Sp) (k : Nat) (h : k < l.length) : l.drop k = l.getD k sp0 :: l.drop (k + 1) := by
  rw [List.drop_eq_getElem_cons h]; simp [List.getD, h]
theorem fnd_drop_in (l : List Sp) (k : Nat) (r : Int) (h : k < l.length) (hi : inS (l.getD k sp0) r = true) : fnd (l.drop k) r = (l.getD k sp0).h := by
  rw [drop_getD l k h]; simp only [fnd]; rw [if_pos hi]
theorem fnd_drop_out (l : List Sp) (k : Nat) (r : Int) (h : k < l.length) (hi : inS (l.getD k sp0) r = false) : fnd (l.drop k) r = fnd (l.drop (k + 1)) r := by
  rw [drop_getD l k h]; simp only [fnd]; rw [if_neg (by rw [hi]; exact Bool.false_ne_true)]
theorem fnd_skip (l : List Sp) (r : Int) : ∀ (n k : Nat), k + n ≤ l.length → (∀ i, k ≤ i → i < k + n → inS (l.getD i sp0) r = false) → fnd (l.drop k) r = fnd (l.drop (k + n)) r
  | 0, k, _, _ => rfl
  | n + 1, k, h, hi => by
    rw [fnd_drop_out l k r (by omega) (hi k (Nat.le_refl _) (by omega)), fnd_skip l r n (k + 1) (by omega) (fun i h1 h2 => hi i (by omega) (by omega))]
    rw [show k + 1 + n = k + (n + 1) by omega]
theorem fnd_none (l : List Sp) (r : Int) (h : ∀ i, i < l.length → inS (l.getD i sp0) r = false) : fnd l r = 0 := by
  have := fnd_skip l r l.length 0 (by omega) (fun i _ h2 => h i (by omega))
  simp at this
  rw [this]; rfl
theorem fnd_at (l : List Sp) (r : Int) (k : Nat) (hk : k < l.length) (h : ∀ i, i < k → inS (l.getD i sp0) r = false) (hi : inS (l.getD k sp0) r = true) : fnd l r = (l.getD k sp0).h := by
  have := fnd_skip l r k 0 (by omega) (fun i _ h2 => h i (by omega))
  simp at this
  rw [this, fnd_drop_in l k r hk hi]
/-- What Find answers. -/
def fndT (l : List Sp) (r : Int) : Int := if chk l = 0 then fnd l r else 0
theorem fndT_no {l : List Sp} (h : chk l = 20) (r : Int) : fndT l r = 0 := by unfold fndT; rw [if_neg]; omega
theorem fndT_yes {l : List Sp} (h : chk l = 0) (r : Int) : fndT l r = fnd l r := by unfold fndT; rw [if_pos h]

/-- In a table the ends rise. -/
theorem ok_next {l : List Sp} {n k : Nat} (h : okTo l n = true) (hk : k + 1 < n) : (l.getD k sp0).t < (l.getD (k + 1) sp0).f := by
  have h1 := okTo_at h (k + 1) hk
  simp only [okAt, folS, Bool.and_eq_true, Bool.or_eq_true, decide_eq_true_eq] at h1
  rcases h1.2.2 with h2 | h2
  · omega
  · simpa using h2.1
theorem ok_rise {l : List Sp} {n : Nat} (h : okTo l n = true) : ∀ (d i : Nat), i + d + 1 < n → (l.getD i sp0).t < (l.getD (i + d + 1) sp0).f
  | 0, i, hi => ok_next h hi
  | d + 1, i, hi => by
    have h1 := ok_rise h d i (by omega)
    have h2 := ok_next (k := i + d + 1) h (by omega)
    have h3 := okAt_may (okTo_at h (i + d + 1) (by omega))
    rw [show i + (d + 1) + 1 = i + d + 1 + 1 by omega]
    omega
theorem ok_lt {l : List Sp} {n i j : Nat} (h : okTo l n = true) (hij : i < j) (hj : j < n) : (l.getD i sp0).t < (l.getD j sp0).f := by
  have := ok_rise h (j - i - 1) i (by omega)
  rwa [show i + (j - i - 1) + 1 = j by omega] at this
/-- What a search for the first end that is no less finds. -/
theorem search_out {l : List Sp} (r : Int) (h : okTo l l.length = true) {m : Nat} (hm : m ≤ l.length) (h1 : m = 0 ∨ (l.getD (m - 1) sp0).t < r) (h2 : m = l.length ∨ inS (l.getD m sp0) r = false) (h3 : m = l.length ∨ r ≤ (l.getD m sp0).t) : fnd l r = 0 := by
  refine fnd_none l r fun i hi => ?_
  rw [inS_not]
  have hmi := okAt_may (okTo_at h i hi)
  rcases Nat.lt_trichotomy i m with hlt | rfl | hgt
  · rcases h1 with rfl | h1
    · omega
    · have : (l.getD i sp0).t ≤ (l.getD (m - 1) sp0).t := by
        rcases Nat.lt_or_ge i (m - 1) with h4 | h4
        · have := ok_lt h h4 (by omega)
          have := okAt_may (okTo_at h (m - 1) (by omega))
          omega
        · rw [show i = m - 1 by omega]; exact Int.le_refl _
      omega
  · rcases h2 with h2 | h2
    · omega
    · rw [inS_not] at h2; exact h2
  · have := ok_lt h hgt hi
    rcases h3 with h3 | h3
    · omega
    · omega
theorem search_in {l : List Sp} (r : Int) (h : okTo l l.length = true) {m : Nat} (hm : m < l.length) (hi : inS (l.getD m sp0) r = true) : fnd l r = (l.getD m sp0).h := by
  refine fnd_at l r m hm (fun i hlt => ?_) hi
  rw [inS_iff] at hi
  have := ok_lt h hlt hm
  rw [inS_not]
  omega

/-- How many numbers have something, from place k on counted. -/
def cntTo (l : List Sp) (q : Int) : Nat → Int
  | 0 => 0
  | k + 1 => cntTo l q k + (if (l.getD k sp0).h = q then (l.getD k sp0).t - (l.getD k sp0).f + 1 else 0)
theorem cnt_bound {l : List Sp} {q : Int} : ∀ {n : Nat}, okTo l n = true → 0 ≤ cntTo l q n ∧ cntTo l q n ≤ 1114112 * n
  | 0, _ => ⟨Int.le_refl _, by simp [cntTo]⟩
  | n + 1, h => by
    have h1 : okTo l n = true ∧ okAt l n = true := by simpa [okTo] using h
    obtain ⟨i1, i2⟩ := cnt_bound (q := q) h1.1
    have := okAt_may h1.2
    simp only [cntTo]
    split <;> (constructor <;> (try push_cast) <;> omega)
/-- What Count answers. -/
def cntT (l : List Sp) (q : Int) : Int := if chk l = 0 then cntTo l q l.length else 0
theorem cntT_no {l : List Sp} (h : chk l = 20) (q : Int) : cntT l q = 0 := by unfold cntT; rw [if_neg]; omega
theorem cntT_yes {l : List Sp} (h : chk l = 0) (q : Int) : cntT l q = cntTo l q l.length := by unfold cntT; rw [if_pos h]
end Go.Proofs.YtefobkgifigclaaGreatDoor
/- The rows of the first plane's table, and firstPlane: it hands them back, whatever the world. -/
namespace Go.Proofs.YtefobkgifigclaaGreatDoor
set_option maxRecDepth 100000
open Go.RowKit

def rowsL : List Sp := [
  ⟨0, 8, 6⟩, ⟨9, 13, 5⟩, ⟨14, 31, 6⟩, ⟨32, 32, 5⟩, ⟨33, 47, 4⟩, ⟨48, 57, 2⟩, ⟨58, 64, 4⟩, ⟨65, 90, 1⟩, ⟨91, 96, 4⟩, ⟨97, 122, 1⟩,
  ⟨123, 126, 4⟩, ⟨127, 132, 6⟩, ⟨133, 133, 5⟩, ⟨134, 159, 6⟩, ⟨160, 160, 5⟩, ⟨161, 169, 4⟩, ⟨170, 170, 1⟩, ⟨171, 172, 4⟩, ⟨173, 173, 6⟩, ⟨174, 177, 4⟩,
  ⟨178, 179, 2⟩, ⟨180, 180, 4⟩, ⟨181, 181, 1⟩, ⟨182, 184, 4⟩, ⟨185, 185, 2⟩, ⟨186, 186, 1⟩, ⟨187, 191, 4⟩, ⟨192, 214, 1⟩, ⟨215, 215, 4⟩, ⟨216, 246, 1⟩,
  ⟨247, 247, 4⟩, ⟨248, 383, 1⟩, ⟨700, 700, 1⟩, ⟨768, 772, 3⟩, ⟨774, 776, 3⟩, ⟨778, 780, 3⟩, ⟨803, 803, 3⟩, ⟨807, 808, 3⟩, ⟨832, 833, 7⟩, ⟨847, 847, 6⟩,
  ⟨902, 902, 1⟩, ⟨904, 906, 1⟩, ⟨908, 908, 1⟩, ⟨910, 929, 1⟩, ⟨931, 974, 1⟩]
def rowsU : List Sp := [
  ⟨1025, 1025, 1⟩, ⟨1040, 1103, 1⟩, ⟨1105, 1105, 1⟩, ⟨1488, 1514, 1⟩, ⟨1632, 1641, 2⟩, ⟨4352, 4370, 1⟩, ⟨4449, 4469, 1⟩, ⟨4520, 4546, 1⟩, ⟨8192, 8202, 5⟩, ⟨8203, 8207, 6⟩,
  ⟨8208, 8209, 4⟩, ⟨8232, 8233, 5⟩, ⟨8234, 8238, 6⟩, ⟨8239, 8239, 5⟩, ⟨8260, 8260, 4⟩, ⟨8287, 8287, 5⟩, ⟨8288, 8291, 6⟩, ⟨8298, 8303, 6⟩, ⟨8304, 8304, 2⟩, ⟨8308, 8313, 2⟩,
  ⟨8320, 8329, 2⟩, ⟨8486, 8486, 1⟩, ⟨8490, 8491, 1⟩, ⟨8544, 8555, 1⟩, ⟨8560, 8571, 1⟩, ⟨8722, 8722, 4⟩, ⟨12288, 12288, 5⟩, ⟨12353, 12436, 1⟩, ⟨12441, 12442, 3⟩, ⟨19968, 20223, 1⟩,
  ⟨44032, 55203, 1⟩, ⟨57344, 63743, 7⟩, ⟨64256, 64261, 1⟩, ⟨64976, 65007, 7⟩, ⟨65024, 65039, 6⟩, ⟨65279, 65279, 6⟩, ⟨65281, 65295, 4⟩, ⟨65296, 65305, 2⟩, ⟨65306, 65312, 4⟩, ⟨65313, 65338, 1⟩,
  ⟨65339, 65344, 4⟩, ⟨65345, 65370, 1⟩, ⟨65371, 65374, 4⟩, ⟨65529, 65532, 6⟩, ⟨65533, 65535, 7⟩]
/-- The first plane's rows. -/
def rowsA : List Sp := rowsL ++ rowsU

/-- A span's three cells; those of many. -/
def spc (s : Sp) : List Value := [.int .i32 s.f, .int .i32 s.t, .int .i64 s.h]
def spcs (l : List Sp) : List Value := l.flatMap spc
theorem spcs_length (l : List Sp) : (spcs l).length = l.length * 3 := by
  induction l with
  | nil => rfl
  | cons s l ih => simp [spcs, spc] at ih ⊢; omega
theorem spcs_append (a b : List Sp) : spcs (a ++ b) = spcs a ++ spcs b := by simp [spcs]
theorem spcs_get (l : List Sp) (k : Nat) (h : k < l.length) : (spcs l)[k * 3]? = some (.int .i32 (l.getD k sp0).f) ∧ (spcs l)[k * 3 + 1]? = some (.int .i32 (l.getD k sp0).t) ∧ (spcs l)[k * 3 + 2]? = some (.int .i64 (l.getD k sp0).h) := by
  induction l generalizing k with
  | nil => simp at h
  | cons s l ih =>
    cases k with
    | zero => simp [spcs, spc]
    | succ k =>
      have := ih k (by simpa using h)
      have e : spcs (s :: l) = spc s ++ spcs l := by simp [spcs]
      rw [e, show (k + 1) * 3 = 3 + k * 3 by omega, show 3 + k * 3 + 1 = 3 + (k * 3 + 1) by omega, show 3 + k * 3 + 2 = 3 + (k * 3 + 2) by omega]
      have hl : (spc s).length = 3 := rfl
      rw [List.getElem?_append_right (by omega), List.getElem?_append_right (by omega), List.getElem?_append_right (by omega), hl]
      simpa using this

/-- Builds, one behind the other: what the frame is behind them. -/
def runB (P : Program) : List Oper → Act → Option Act
  | [], a => some a
  | o :: rest, a =>
    match o.guard, o.op with
    | none, .build t parts =>
      match P.built t (parts.map fun (i, x) => (i, a.eval x)).toList with
      | some cells => runB P rest (a.put o.dst (.agg cells))
      | none => none
    | _, _ => none

theorem wpList_builds {P : Program} {ops : Array Oper} {Q : Exit → Act → World → Prop} {w : World} (l2 : List Oper) (a' : Act) : ∀ (l1 : List Oper) (a : Act), runB P l1 a = some a' → wpList P ops Q l2 a' w → wpList P ops Q (l1 ++ l2) a w
  | [], a, h, k => by
    simp only [runB, Option.some.injEq] at h
    subst h
    exact k
  | o :: rest, a, h, k => by
    unfold runB at h
    split at h
    · rename_i t parts hg ho
      split at h
      · rename_i cells hc
        exact wpList_buildTo hg t parts ho _ rfl cells hc (wpList_builds l2 a' rest _ h k)
      · cases h
    · cases h
theorem wpList_buildsN {P : Program} {ops : Array Oper} {Q : Exit → Act → World → Prop} {w : World} (n : Nat) {l : List Oper} {a : Act} (a' : Act) (l2 : List Oper) (h : runB P (l.take n) a = some a') (h2 : l.drop n = l2) (k : wpList P ops Q l2 a' w) : wpList P ops Q l a w := by
  subst h2
  have := wpList_builds (P := P) (ops := ops) (Q := Q) (w := w) (l.drop n) a' (l.take n) a h k
  rwa [List.take_append_drop] at this

def cellsA : Array Value := (spcs rowsA).toArray
def zerosA : Array Value := (spcs (List.replicate 90 ⟨0, 0, 0⟩)).toArray
def aggsA : List Value := rowsA.map fun s => .agg (spc s).toArray
def frameA (p : Value) : Act := { tmps := (p :: (aggsA ++ [.agg cellsA])).toArray, defers := [] }


set_option maxRecDepth 1000000 in
set_option maxHeartbeats 4000000 in
theorem firstPlane_any (w : World) : Calls Tryz.prog 187 #[] w fun e w' => e = .returned (.agg cellsA) ∧ w' = w.alloc (.cells cellsA 228) := by
  go_enter Tryz.func187, Tryz.ntmps187
  apply wp_seq_k; intro K0 hK0
  apply wp_region_lit
  refine Great.wpList_allocTo rfl (some 0) rfl (.pointer (some ⟨w.heap.size, 0, none⟩)) (.cells zerosA 228) (by kernel_rfl) ?_
  apply wpList_nil
  refine hK0 _ _ ?_
  clear hK0 K0
  apply wp_seq_k; intro K0 hK0
  apply wp_region_lit
  refine wpList_buildsN 91 (frameA (.pointer (some ⟨w.heap.size, 0, none⟩))) _ (by kernel_rfl) rfl ?_
  simp only [List.append_eq, List.cons_append, List.nil_append, List.drop_succ_cons, List.drop_zero]
  refine wpList_store_rowTo rfl 228 (.tmp 0) (.tmp 91) rfl rfl w.heap.size cellsA (by kernel_rfl) (by kernel_rfl) 228 zerosA (heap_alloc_last w _) (by kernel_rfl) (by kernel_rfl) (by kernel_rfl) ?_
  apply wpList_nil
  refine hK0 _ _ ?_
  clear hK0 K0
  rw [World.setRow_alloc_new]
  refine wp_ret ?_
  refine bodyPost_ret (results_cell_row (p := 0) (ty := 228) Tryz.results187 _ _ w.heap.size 228 cellsA (0, 0) _ (by kernel_rfl) (heap_alloc_last w _) Tryz.underlying228 rfl (by kernel_rfl)) rfl ⟨rfl, rfl⟩
end Go.Proofs.YtefobkgifigclaaGreatDoor
/- sort.Search, whatever it is handed. -/
namespace Go.Proofs.YtefobkgifigclaaGreatDoor
set_option maxRecDepth 100000
open Go.RowKit
open Go.Sort (grow)

theorem mixed : Tryz.prog.follows .mixedOrders = true := by kernel_rfl

set_option maxHeartbeats 800000 in
/-- sort.Search: a place with no true one right ahead, that is true itself or the end. -/
theorem search_any (g : Nat) (cb : Array Value) (n : Nat) (p : Nat → Bool) (w : World) (eg : ∀ args w, (callFunc g args).run Tryz.prog w = .ok (.enter g args) w) (hn : n ≤ 700)
    (hf : ∀ (W : World) (i : Nat), Gr w W → i < n → Calls Tryz.prog g (#[.int .i64 i] ++ cb) W fun e w' => e = .returned (.bool (p i)) ∧ Gr W w') :
    Calls Tryz.prog 188 #[.int .i64 n, .func (.func g) #[] cb] w fun e w' => ∃ m : Nat, e = .returned (.int .i64 m) ∧ m ≤ n ∧ (m = 0 ∨ p (m - 1) = false) ∧ (m = n ∨ p m = true) ∧ Gr w w' := by
  have HF := hide hf
  clear hf
  go_enter Tryz.func188, Tryz.ntmps188
  go_wp2
  go_loopw [5, 6] (fun x y wr => ∃ lo hi : Nat, x = .int .i64 lo ∧ y = .int .i64 hi ∧ lo ≤ hi ∧ hi ≤ n ∧ Gr w wr ∧ Hid ((lo = 0 ∨ p (lo - 1) = false) ∧ (hi = n ∨ p hi = true))) (fun x y _ => (intOf y - intOf x).toNat)
  case atStart => exact ⟨0, n, rfl, rfl, Nat.zero_le _, Nat.le_refl _, Gr.refl _, hide ⟨.inl rfl, .inl rfl⟩⟩
  case round =>
    obtain ⟨lo, hi, rfl, rfl, hlh, hin, hg, HI⟩ := hrel
    by_cases hlt : lo < hi
    · have hltz : (lo : Int) < (hi : Int) := by omega
      have hc := unhide HF wr ((lo + hi) / 2) hg (by omega)
      rw [show (((lo + hi) / 2 : Nat) : Int) = ((lo : Int) + (hi : Int)) / 2 by omega] at hc
      cases hp : p ((lo + hi) / 2) <;> rw [hp] at hc
      · have HP := hide hp
        clear hp
        go_wp2_with (refine hc.mono ?_; rintro e w' ⟨rfl, hg2⟩)
        go_roundw
        case rel =>
          exact ⟨(lo + hi) / 2 + 1, hi, by congr 1, rfl, by omega, hin, hg.trans hg2, hide ⟨.inr (by simpa using unhide HP), (unhide HI).2⟩⟩
        case measure => simp [intOf]; omega
      · have HP := hide hp
        clear hp
        go_wp2_with (refine hc.mono ?_; rintro e w' ⟨rfl, hg2⟩)
        go_roundw
        case rel =>
          exact ⟨lo, (lo + hi) / 2, rfl, by congr 1, by omega, by omega, hg.trans hg2, hide ⟨(unhide HI).1, .inr (unhide HP)⟩⟩
        case measure => simp [intOf]; omega
    · have hltz : ¬ (lo : Int) < (hi : Int) := by omega
      obtain rfl : hi = lo := by omega
      go_wp2
      go_ret
      exact ⟨hi, rfl, hin, (unhide HI).1, (unhide HI).2, hg⟩

end Go.Proofs.YtefobkgifigclaaGreatDoor
/- Kind: what it answers of any number. -/
namespace Go.Proofs.YtefobkgifigclaaGreatDoor
set_option maxRecDepth 100000
open Go.RowKit
open Go.Sort (grow)

set_option maxHeartbeats 400000 in
theorem holds_any (f t h r : Int) (w : World) :
    Calls Tryz.prog 190 #[.agg #[.int .i32 f, .int .i32 t, .int .i64 h], .int .i32 r] w fun e w' => e = .returned (.bool (inS ⟨f, t, h⟩ r)) ∧ Gr w w' := by
  generalize hm : inS ⟨f, t, h⟩ r = m
  by_cases h1 : f ≤ r
  · by_cases h2 : r ≤ t
    · go_enter Tryz.func190, Tryz.ntmps190
      go_wp2
      go_ret
      exact ⟨ret_bool (by rw [← hm]; simp [inS]; omega), (Gr.refl _).alloc _⟩
    · go_enter Tryz.func190, Tryz.ntmps190
      go_wp2
      go_ret
      exact ⟨ret_bool (by rw [← hm]; simp [inS]; omega), (Gr.refl _).alloc _⟩
  · go_enter Tryz.func190, Tryz.ntmps190
    go_wp2
    go_ret
    exact ⟨ret_bool (by rw [← hm]; simp [inS]; omega), (Gr.refl _).alloc _⟩

/-- The row of a plane's last two. -/
def lastS (p : Int) : Sp := ⟨p * 65536 + 65534, p * 65536 + 65535, 7⟩
def cellsS (s : Sp) : Array Value := #[.int .i32 s.f, .int .i32 s.t, .int .i64 s.h]

set_option maxHeartbeats 400000 in
theorem lastTwo_any (p : Int) (h0 : 0 ≤ p) (h1 : p ≤ 100) (w : World) :
    Calls Tryz.prog 216 #[.int .i64 p] w fun e w' => e = .returned (.agg #[.int .i32 (p * 65536 + 65534), .int .i32 (p * 65536 + 65535), .int .i64 7]) ∧ Gr w w' := by
  go_enter Tryz.func216, Tryz.ntmps216
  have k1 : IntKind.i64.wrap (p + 1) = p + 1 := by rw [IntKind.wrap_i64]; omega
  have k2 : IntKind.i32.wrap (p + 1) = p + 1 := by simp [IntKind.wrap, IntKind.bits, IntKind.signed]; omega
  have k3 : IntKind.i32.wrap ((p + 1) * 65536) = (p + 1) * 65536 := by simp [IntKind.wrap, IntKind.bits, IntKind.signed]; omega
  have k4 : IntKind.i32.wrap ((p + 1) * 65536 - 1) = p * 65536 + 65535 := by simp [IntKind.wrap, IntKind.bits, IntKind.signed]; omega
  have k5 : IntKind.i32.wrap (p * 65536 + 65535 - 1) = p * 65536 + 65534 := by simp [IntKind.wrap, IntKind.bits, IntKind.signed]; omega
  go_wp2
  refine bodyPost_ret (v := .agg #[.int .i32 (p * 65536 + 65534), .int .i32 (p * 65536 + 65535), .int .i64 7]) (by simp [results, Tryz.results216, go_sem]) rfl ⟨rfl, ?_⟩
  exact (Gr.refl _).alloc _

set_option maxHeartbeats 400000 in
theorem kind1_any (ba bx i : Nat) (t r : Int) (W : World) (hi : i < 90) (hc : W.cell? ⟨ba, i * 3 + 1, none⟩ = some (.int .i32 t)) (hx : W.cell? ⟨bx, 0, none⟩ = some (.int .i32 r)) :
    Calls Tryz.prog 189 (#[.int .i64 i] ++ #[.pointer (some ⟨ba, 0, none⟩), .pointer (some ⟨bx, 0, none⟩)]) W fun e w' => e = .returned (.bool (decide (r ≤ t))) ∧ Gr W w' := by
  have hz0 : (0 : Int) ≤ (i : Int) := by omega
  have hzl : (i : Int) < 90 := by omega
  go_enter Tryz.func189, Tryz.ntmps189
  go_wp2
  go_quiet (fail)
  go_wp2
  go_ret
  exact ⟨rfl, (Gr.refl _).drewN _⟩

/-- The rows behind the first plane; the whole table. -/
def rowsP : List Sp := (List.range 16).map fun (i : Nat) => lastS ((i : Int) + 1)
def rowsT : List Sp := rowsA ++ rowsP
theorem rowsP_len : rowsP.length = 16 := rfl
theorem rowsP_get (k : Nat) (h : k < 16) : rowsP.getD k sp0 = lastS ((k : Int) + 1) := by
  simp [rowsP, List.getD, h]
def kd (r : Int) : Int := fnd rowsT r

set_option maxHeartbeats 800000 in
theorem behind_any (r : Int) (w : World) :
    Calls Tryz.prog 186 #[.int .i32 r] w fun e w' => e = .returned (.int .i64 (fnd rowsP r)) ∧ Gr w w' := by
  have HL : Hid (∀ (k : Nat) W, k < 16 → Calls Tryz.prog 216 #[.int .i64 ((k : Int) + 1)] W fun e w' => e = .returned (.agg #[.int .i32 (((k : Int) + 1) * 65536 + 65534), .int .i32 (((k : Int) + 1) * 65536 + 65535), .int .i64 7]) ∧ Gr W w') := fun k W hk => lastTwo_any _ (by omega) (by omega) W
  go_enter Tryz.func186, Tryz.ntmps186
  go_wp2
  go_loopw [5] (fun i wr => ∃ k : Nat, k ≤ 16 ∧ i = .int .i64 k ∧ Gr w wr ∧ Hid (∀ j, j < k → inS (rowsP.getD j sp0) r = false)) (fun i _ => 16 - (intOf i).toNat)
  case atStart => exact ⟨0, Nat.zero_le _, rfl, Gr.refl _, hide (fun j hj => by omega)⟩
  case round =>
    obtain ⟨k, hk, rfl, hg, HE⟩ := hrel
    by_cases hlt : k < 16
    · have hzl : (k : Int) < 16 := by omega
      have hz0 : (0 : Int) ≤ (k : Int) := by omega
      have hin : inS (rowsP.getD k sp0) r = true → Hid (fnd rowsP r = 7) := fun h => by
        show fnd rowsP r = 7
        rw [fnd_at rowsP r k (by rw [rowsP_len]; exact hlt) (unhide HE) h, rowsP_get k hlt]; rfl
      have hout : inS (rowsP.getD k sp0) r = false → Hid (∀ j, j < k + 1 → inS (rowsP.getD j sp0) r = false) := fun h => by
        show ∀ j, j < k + 1 → inS (rowsP.getD j sp0) r = false
        intro j hj
        rcases Nat.lt_succ_iff_lt_or_eq.1 hj with h1 | rfl
        · exact unhide HE j h1
        · exact h
      rw [rowsP_get k hlt] at hin hout
      have hh := fun w => holds_any (((k : Int) + 1) * 65536 + 65534) (((k : Int) + 1) * 65536 + 65535) 7 r w
      have HLK : Hid (∀ W, Calls Tryz.prog 216 #[.int .i64 ((k : Int) + 1)] W fun e w' => e = .returned (.agg #[.int .i32 (((k : Int) + 1) * 65536 + 65534), .int .i32 (((k : Int) + 1) * 65536 + 65535), .int .i64 7]) ∧ Gr W w') := fun W => unhide HL k W hlt
      have hq : inS ⟨((k : Int) + 1) * 65536 + 65534, ((k : Int) + 1) * 65536 + 65535, 7⟩ r = inS (lastS ((k : Int) + 1)) r := rfl
      rw [hq] at hh
      have k1 : IntKind.i64.wrap ((k : Int) + 1) = (k : Int) + 1 := by rw [IntKind.wrap_i64]; omega
      generalize ((k : Int) + 1) * 65536 + 65534 = f at *
      generalize ((k : Int) + 1) * 65536 + 65535 = t at *
      cases hi : inS (lastS ((k : Int) + 1)) r <;> rw [hi] at hh
      · have HO := hout hi
        have HH := hide hh
        clear hin hout hi hh hq
        go_wp2_with (first
          | (go_at_call 216; refine (unhide HLK _).mono ?_; rintro e w1 ⟨rfl, hg1⟩)
          | (go_at_call 190; refine (unhide HH _).mono ?_; rintro e w2 ⟨rfl, hg2⟩))
        go_roundw
        case rel => exact ⟨k + 1, by omega, by go_num, ((hg.trans hg1).alloc _).trans hg2, HO⟩
        case measure => simp [intOf]; omega
      · have HO := hin hi
        have HH := hide hh
        clear hin hout hi hh hq
        go_wp2_with (first
          | (go_at_call 216; refine (unhide HLK _).mono ?_; rintro e w1 ⟨rfl, hg1⟩; have c3 := (box3 w1 (.int .i32 f) (.int .i32 t) (.int .i64 7) 227).2.2)
          | (go_at_call 190; refine (unhide HH _).mono ?_; rintro e w2 ⟨rfl, hg2⟩; replace c3 := hg2.cell c3))
        go_ret
        exact ⟨ret_int (unhide HO).symm, ((hg.trans hg1).alloc _).trans hg2⟩
    · have hzl : ¬ (k : Int) < 16 := by omega
      have HB : Hid (fnd rowsP r = 0) := fnd_none rowsP r (fun i hi => unhide HE i (by rw [rowsP_len] at hi; omega))
      go_wp2
      go_ret
      exact ⟨ret_int (unhide HB).symm, hg⟩
end Go.Proofs.YtefobkgifigclaaGreatDoor
/- Kind: what it answers of any number. -/
namespace Go.Proofs.YtefobkgifigclaaGreatDoor
set_option maxRecDepth 100000
open Go.RowKit
open Go.Sort (grow)

theorem fnd_app_left (a b : List Sp) (r : Int) (h : fnd b r = 0) : fnd (a ++ b) r = fnd a r := by
  induction a with
  | nil => exact h
  | cons s a ih => simp only [List.cons_append, fnd, ih]
theorem fnd_app_right (a b : List Sp) (r : Int) (h : ∀ s, s ∈ a → inS s r = false) : fnd (a ++ b) r = fnd b r := by
  induction a with
  | nil => rfl
  | cons s a ih =>
    simp only [List.cons_append, fnd, h s (by simp), Bool.false_eq_true, if_false]
    exact ih fun x hx => h x (by simp [hx])
theorem rowsA_ok : okTo rowsA rowsA.length = true := by kernel_rfl
theorem rowsA_len : rowsA.length = 90 := by kernel_rfl
theorem rowsA_top : (rowsA.all fun s => decide (s.t ≤ 65535)) = true := by kernel_rfl
theorem rowsA_last : (rowsA.getD 89 sp0).t = 65535 := by kernel_rfl
theorem kd_low (r : Int) (h : r < 65536) : kd r = fnd rowsA r := by
  refine fnd_app_left _ _ r (fnd_none _ r fun i hi => ?_)
  rw [rowsP_len] at hi
  rw [rowsP_get i hi, inS_not]
  simp only [lastS]
  omega
theorem kd_high (r : Int) (h : 65536 ≤ r) : kd r = fnd rowsP r := by
  refine fnd_app_right _ _ r fun s hs => ?_
  have := List.all_eq_true.1 rowsA_top s hs
  rw [inS_not]
  simp at this
  omega


theorem cellsA_size : cellsA.size = 270 := by kernel_rfl
theorem cellsA_one : cellsA.all (·.oneCell') = true := by kernel_rfl
theorem zerosA_size : zerosA.size = 270 := by kernel_rfl
theorem cellsA_get (j : Nat) (h : j < 90) : cellsA[j * 3]? = some (.int .i32 (rowsA.getD j sp0).f) ∧ cellsA[j * 3 + 1]? = some (.int .i32 (rowsA.getD j sp0).t) ∧ cellsA[j * 3 + 2]? = some (.int .i64 (rowsA.getD j sp0).h) := by
  unfold cellsA
  simpa using spcs_get rowsA j (by rw [rowsA_len]; exact h)

set_option maxHeartbeats 800000 in
theorem kind_high (r : Int) (w : World) (h : 65536 ≤ r) :
    Calls Tryz.prog 156 #[.int .i32 r] w fun e w' => e = .returned (.int .i64 (kd r)) ∧ Gr w w' := by
  rw [kd_high r h]
  have hb := hide (fun W => behind_any r W)
  generalize fnd rowsP r = q at *
  go_enter Tryz.func156, Tryz.ntmps156
  go_wp2_with (go_at_call 186; refine (unhide hb _).mono ?_; rintro e w1 ⟨rfl, hg1⟩)
  go_ret
  exact ⟨rfl, ((Gr.refl _).alloc _).trans hg1⟩

theorem rowZ (W : World) : (zeroValue 228).run Tryz.prog W = .ok (.agg zerosA) W := (zero_of_info (n := 270) (by kernel_rfl)).1 W
theorem rowI : (Tryz.prog.info? 228).map (·.size) = some cellsA.size := by kernel_rfl

theorem firstPlane_gr (w : World) : Calls Tryz.prog 187 #[] w fun e w' => e = .returned (.agg cellsA) ∧ Gr w w' :=
  (firstPlane_any w).mono fun e w' ⟨he, hw⟩ => ⟨he, by rw [hw]; exact Gr.one _ _⟩

theorem row_cells (w : World) (T : TypeId) : ∀ j, j < 90 → (w.alloc (.cells cellsA T)).cell? ⟨w.heap.size, j * 3, none⟩ = some (.int .i32 (rowsA.getD j sp0).f) ∧ (w.alloc (.cells cellsA T)).cell? ⟨w.heap.size, j * 3 + 1, none⟩ = some (.int .i32 (rowsA.getD j sp0).t) ∧ (w.alloc (.cells cellsA T)).cell? ⟨w.heap.size, j * 3 + 2, none⟩ = some (.int .i64 (rowsA.getD j sp0).h) := by
  intro j hj
  have h := cellsA_get j hj
  rw [cell_of_row _ _ _ cellsA T (0, 0) (heap_alloc_last w _), cell_of_row _ _ _ cellsA T (0, 0) (heap_alloc_last w _), cell_of_row _ _ _ cellsA T (0, 0) (heap_alloc_last w _)]
  exact h

set_option maxHeartbeats 1600000 in
theorem kind_low (r : Int) (w : World) (h : r < 65536) :
    Calls Tryz.prog 156 #[.int .i32 r] w fun e w' => e = .returned (.int .i64 (kd r)) ∧ Gr w w' := by
  rw [kd_low r h]
  have mx := mixed
  have hlt : ¬ 65536 ≤ r := by omega
  have hz := rowZ
  have hs3 := fun W => run_storeCells_new (P := Tryz.prog) W 228 zerosA cellsA rowI (by rw [zerosA_size, cellsA_size]) cellsA_one
  have hsz := cellsA_size
  have cx := box1 w (.int .i32 r) 21
  have hg0 := (Gr.refl w).alloc (.cells #[.int .i32 r] 21)
  have HT := hide rowsA_ok
  have HLST := hide rowsA_last
  go_enter Tryz.func156, Tryz.ntmps156
  go_wp2_with (first
      | (go_at_call 187; refine (firstPlane_gr _).mono ?_; rintro e w1 ⟨rfl, hg1⟩; replace cx := (hg1.alloc (.cells cellsA 228)).cell cx; replace hg1 := (hg0.trans hg1).alloc (.cells cellsA 228); have HC := hide (row_cells w1 228))
      | (go_at_call 188; refine (search_any 189 _ 90 (fun i => decide (r ≤ (rowsA.getD i sp0).t)) _ (enters_of Tryz.func189 (by kernel_rfl) rfl) (by omega) (fun W i hW hi => kind1_any _ _ i _ r W hi (hW.cell (unhide HC i hi).2.1) (hW.cell cx))).mono ?_; rintro e w2 ⟨m, rfl, hm, h1, h2, hg2⟩))
  replace cx := cell_gr (hg2.cell cx)
  have H1 : Hid (m = 0 ∨ (rowsA.getD (m - 1) sp0).t < r) := h1.imp id (fun h => by have := of_decide_eq_false h; omega)
  have H2 : Hid (m = 90 ∨ r ≤ (rowsA.getD m sp0).t) := h2.imp id (fun h => of_decide_eq_true h)
  clear h1 h2
  have hml : m ≠ 90 := by
    intro h9
    subst h9
    rcases unhide H1 with h | h
    · omega
    · have := unhide HLST
      simp only [Nat.reduceSub] at h
      omega
  have hlt : m < 90 := by omega
  have d1 : ((m : Int) == 90) = false := by simp; omega
  have hzl : (m : Int) < 90 := by omega
  have hz0 : (0 : Int) ≤ (m : Int) := by omega
  obtain ⟨g1, g2, g3⟩ := unhide HC m hlt
  replace g1 := cell_gr (hg2.cell g1)
  replace g2 := cell_gr (hg2.cell g2)
  replace g3 := cell_gr (hg2.cell g3)
  replace hg2 := hg1.trans hg2
  have hin : inS (rowsA.getD m sp0) r = true → Hid (fnd rowsA r = (rowsA.getD m sp0).h) := fun h => search_in r (unhide HT) (by rw [rowsA_len]; exact hlt) h
  have hout : inS (rowsA.getD m sp0) r = false → Hid (fnd rowsA r = 0) := fun h => search_out r (unhide HT) (by rw [rowsA_len]; exact hm) (unhide H1) (.inr h) (by rw [rowsA_len]; exact unhide H2)
  clear H1 H2 hml HC HT HLST hs3 hz hg0 hg1
  generalize rowsA.getD m sp0 = s at *
  obtain ⟨f, t, h⟩ := s
  dsimp only at g1 g2 g3 hin
  have hh := fun w => holds_any f t h r w
  cases hi : inS ⟨f, t, h⟩ r <;> rw [hi] at hh
  · have HE := hout hi
    have HH := hide hh
    clear hin hout hi hh
    refine wp_region_quiet_grown (by first | exact mx | assumption) (by kernel_rfl) ?_
    repeat (go_big_quiet_step ((go_at_call 190; exact callsGr (unhide HH _))))
    refine wpQuiet_nil ?_
    intro _ hw'
    obtain ⟨⟨nq, osq⟩, hw''⟩ := hw'
    subst hw''
    go_wp2
    go_ret
    exact ⟨ret_int (unhide HE).symm, hg2.grow _ _⟩
  · have HE := hin hi
    have HH := hide hh
    clear hin hout hi hh
    refine wp_region_quiet_grown (by first | exact mx | assumption) (by kernel_rfl) ?_
    repeat (go_big_quiet_step ((go_at_call 190; exact callsGr (unhide HH _))))
    refine wpQuiet_nil ?_
    intro _ hw'
    obtain ⟨⟨nq, osq⟩, hw''⟩ := hw'
    subst hw''
    replace g3 := g3 nq osq
    go_wp2
    go_ret
    exact ⟨ret_int (unhide HE).symm, hg2.grow _ _⟩

/-- Kind, of any number. -/
theorem kind_any (r : Int) (w : World) :
    Calls Tryz.prog 156 #[.int .i32 r] w fun e w' => e = .returned (.int .i64 (kd r)) ∧ Gr w w' := by
  by_cases h : 65536 ≤ r
  · exact kind_high r w h
  · exact kind_low r w (by omega)
end Go.Proofs.YtefobkgifigclaaGreatDoor
/- Is and Class: what they answer of any number. -/
namespace Go.Proofs.YtefobkgifigclaaGreatDoor
set_option maxRecDepth 100000
open Go.RowKit

/-- A slice that holds the numbers zs. -/
def Ints (w : World) (v : Value) (zs : List Int) : Prop :=
  ∃ a cap, v = .slice a zs.length cap ∧ (0 < zs.length → ∃ b off, a = some ⟨b, off, none⟩ ∧ ∀ j, j < zs.length → w.cell? ⟨b, off + j, none⟩ = some (.int .i64 (zs.getD j 0)))
theorem Gr.ints {w w2 : World} (hb : Gr w w2) {v : Value} {l : List Int} (h : Ints w v l) : Ints w2 v l := by
  obtain ⟨a, cap, rfl, hc⟩ := h
  refine ⟨a, cap, rfl, fun i => ?_⟩
  obtain ⟨b, off, rfl, hcc⟩ := hc i
  exact ⟨b, off, rfl, fun j hj => hb.cell (hcc j hj)⟩

theorem mem_getD (zs : List Int) (q : Int) : q ∈ zs ↔ ∃ j, j < zs.length ∧ zs.getD j 0 = q := by
  rw [List.mem_iff_getElem]
  constructor
  · rintro ⟨i, hi, h⟩; exact ⟨i, hi, by simpa [List.getD, hi] using h⟩
  · rintro ⟨i, hi, h⟩; exact ⟨i, hi, by simpa [List.getD, hi] using h⟩

set_option maxHeartbeats 800000 in
theorem index_some (b o c : Nat) (zs : List Int) (q : Int) (w : World) (hle : zs.length ≤ 10000) (hc : ∀ j, j < zs.length → w.cell? ⟨b, o + j, none⟩ = some (.int .i64 (zs.getD j 0))) :
    Calls Tryz.prog 167 #[.slice (some ⟨b, o, none⟩) zs.length c, .int .i64 q] w fun e w' => ∃ x : Int, e = .returned (.int .i64 x) ∧ (0 ≤ x ↔ q ∈ zs) ∧ Gr w w' := by
  have HC := hide hc
  clear hc
  go_enter Tryz.func167, Tryz.ntmps167
  go_wp2
  go_loopw [8] (fun i wr => ∃ k : Nat, k ≤ zs.length ∧ i = .int .i64 k ∧ Gr w wr ∧ Hid (∀ j, j < k → zs.getD j 0 ≠ q)) (fun i _ => zs.length - (intOf i).toNat)
  case atStart => exact ⟨0, Nat.zero_le _, rfl, Gr.refl _, hide (fun j hj => by omega)⟩
  case round =>
    obtain ⟨k, hk, rfl, hg, HE⟩ := hrel
    by_cases hlt : k < zs.length
    · have hzl : (k : Int) < (zs.length : Int) := by omega
      have hz0 : (0 : Int) ≤ (k : Int) := by omega
      have g1 := hg.cell (unhide HC k hlt)
      have hin : zs.getD k 0 = q → Hid ((0 ≤ (k : Int)) ↔ q ∈ zs) := fun h => ⟨fun _ => (mem_getD _ _).2 ⟨k, hlt, h⟩, fun _ => hz0⟩
      have hout : zs.getD k 0 ≠ q → Hid (∀ j, j < k + 1 → zs.getD j 0 ≠ q) := fun h => by
        show ∀ j, j < k + 1 → zs.getD j 0 ≠ q
        intro j hj
        rcases Nat.lt_succ_iff_lt_or_eq.1 hj with h1 | rfl
        · exact unhide HE j h1
        · exact h
      generalize zs.getD k 0 = s at *
      by_cases hq : q = s
      · have HO := hin hq.symm
        clear hin hout
        subst hq
        go_wp2
        go_ret
        exact ⟨k, rfl, unhide HO, hg⟩
      · have HO := hout (fun h => hq h.symm)
        clear hin hout
        go_wp2
        go_roundw
        case rel => exact ⟨k + 1, by omega, by go_num, hg, HO⟩
        case measure => simp [intOf]; omega
    · have hzl : ¬ (k : Int) < (zs.length : Int) := by omega
      have HB : Hid ((0 : Int) ≤ -1 ↔ q ∈ zs) := by
        refine hide ⟨fun h => by omega, fun h => ?_⟩
        obtain ⟨j, hj, he⟩ := (mem_getD _ _).1 h
        exact absurd he (unhide HE j (by omega))
      go_wp2
      go_ret
      exact ⟨-1, rfl, unhide HB, hg⟩

set_option maxHeartbeats 400000 in
theorem index_none (a : Option Addr) (c : Nat) (q : Int) (w : World) :
    Calls Tryz.prog 167 #[.slice a 0 c, .int .i64 q] w fun e w' => ∃ x : Int, e = .returned (.int .i64 x) ∧ (0 ≤ x ↔ q ∈ ([] : List Int)) ∧ Gr w w' := by
  go_enter Tryz.func167, Tryz.ntmps167
  go_wp2
  refine wp_loop_rounds 1 ?_
  rw [rounds_succ]
  go_wp2
  go_ret
  exact ⟨-1, rfl, by simp, Gr.refl _⟩

theorem index_any (v : Value) (zs : List Int) (q : Int) (w : World) (h : Ints w v zs) (hl : zs.length ≤ 10000) :
    Calls Tryz.prog 167 #[v, .int .i64 q] w fun e w' => ∃ x : Int, e = .returned (.int .i64 x) ∧ (0 ≤ x ↔ q ∈ zs) ∧ Gr w w' := by
  obtain ⟨a, c, rfl, h⟩ := h
  by_cases h0 : zs.length = 0
  · obtain rfl : zs = [] := List.length_eq_zero_iff.1 h0
    exact index_none a c q w
  · obtain ⟨b, o, rfl, hc⟩ := h (by omega)
    exact index_some b o c zs q w hl hc

set_option maxHeartbeats 400000 in
theorem contains_any (v : Value) (zs : List Int) (q : Int) (w : World) (h : Ints w v zs) (hl : zs.length ≤ 10000) :
    Calls Tryz.prog 127 #[v, .int .i64 q] w fun e w' => e = .returned (.bool (decide (q ∈ zs))) ∧ Gr w w' := by
  have HI := hide (index_any v zs q w h hl)
  obtain ⟨a, c, rfl, -⟩ := h
  go_enter Tryz.func127, Tryz.ntmps127
  go_wp2_with (go_at_call 167; refine (unhide HI).mono ?_; rintro e w1 ⟨x, rfl, hx, hg1⟩; have HX := hide hx; clear hx)
  go_ret
  exact ⟨ret_bool (by simp [unhide HX]), hg1⟩

set_option maxHeartbeats 400000 in
/-- Is, of any number and kinds. -/
theorem is_any (r : Int) (v : Value) (zs : List Int) (w : World) (h : Ints w v zs) (hl : zs.length ≤ 10000) :
    Calls Tryz.prog 198 #[.int .i32 r, v] w fun e w' => e = .returned (.bool (decide (kd r ∈ zs))) ∧ Gr w w' := by
  have HK := hide (kind_any r)
  have HI := hide (fun W (hW : Gr w W) => contains_any v zs (kd r) W (hW.ints h) hl)
  obtain ⟨a, c, rfl, -⟩ := h
  generalize kd r = k at *
  go_enter Tryz.func198, Tryz.ntmps198
  go_wp2_with (first
    | (go_at_call 156; refine (unhide HK _).mono ?_; rintro e w1 ⟨rfl, hg1⟩)
    | (go_at_call 127; refine (unhide HI _ hg1).mono ?_; rintro e w2 ⟨rfl, hg2⟩))
  go_ret
  exact ⟨rfl, hg1.trans hg2⟩


/-- A mark's class. -/
def cl (r k : Int) : Int := if k = 3 then (if r = 807 ∨ r = 808 then 202 else if r = 803 then 220 else if r = 12441 ∨ r = 12442 then 8 else 230) else 0
def cls (r : Int) : Int := cl r (kd r)

set_option maxHeartbeats 800000 in
/-- Class, of any number. -/
theorem class_any (r : Int) (w : World) :
    Calls Tryz.prog 196 #[.int .i32 r] w fun e w' => e = .returned (.int .i64 (cls r)) ∧ Gr w w' := by
  have HK := hide (kind_any r)
  unfold cls
  generalize kd r = k at *
  by_cases h3 : k = 3
  · subst h3
    generalize hx : cl r 3 = x
    have HX := hide hx
    clear hx
    by_cases h1 : r = 807
    · subst h1
      go_enter Tryz.func196, Tryz.ntmps196
      go_wp2_with (go_at_call 156; refine (unhide HK _).mono ?_; rintro e w1 ⟨rfl, hg1⟩)
      go_ret
      exact ⟨ret_int (by rw [← unhide HX]; simp [cl]), hg1⟩
    · by_cases h2 : r = 808
      · subst h2
        go_enter Tryz.func196, Tryz.ntmps196
        go_wp2_with (go_at_call 156; refine (unhide HK _).mono ?_; rintro e w1 ⟨rfl, hg1⟩)
        go_ret
        exact ⟨ret_int (by rw [← unhide HX]; simp [cl]), hg1⟩
      · by_cases h4 : r = 803
        · subst h4
          go_enter Tryz.func196, Tryz.ntmps196
          go_wp2_with (go_at_call 156; refine (unhide HK _).mono ?_; rintro e w1 ⟨rfl, hg1⟩)
          go_ret
          exact ⟨ret_int (by rw [← unhide HX]; simp [cl]), hg1⟩
        · by_cases h5 : r = 12441
          · subst h5
            go_enter Tryz.func196, Tryz.ntmps196
            go_wp2_with (go_at_call 156; refine (unhide HK _).mono ?_; rintro e w1 ⟨rfl, hg1⟩)
            go_ret
            exact ⟨ret_int (by rw [← unhide HX]; simp [cl]), hg1⟩
          · by_cases h6 : r = 12442
            · subst h6
              go_enter Tryz.func196, Tryz.ntmps196
              go_wp2_with (go_at_call 156; refine (unhide HK _).mono ?_; rintro e w1 ⟨rfl, hg1⟩)
              go_ret
              exact ⟨ret_int (by rw [← unhide HX]; simp [cl]), hg1⟩
            · go_enter Tryz.func196, Tryz.ntmps196
              go_wp2_with (go_at_call 156; refine (unhide HK _).mono ?_; rintro e w1 ⟨rfl, hg1⟩)
              go_ret
              exact ⟨ret_int (by rw [← unhide HX]; simp [cl, h1, h2, h4, h5, h6]), hg1⟩
  · have HX : Hid (cl r k = 0) := by show cl r k = 0; simp [cl, h3]
    go_enter Tryz.func196, Tryz.ntmps196
    go_wp2_with (go_at_call 156; refine (unhide HK _).mono ?_; rintro e w1 ⟨rfl, hg1⟩)
    go_ret
    exact ⟨ret_int (unhide HX).symm, hg1⟩

/-- A kind is one of a row that the number is in, or none. -/
theorem fnd_mem (l : List Sp) (r : Int) : fnd l r = 0 ∨ ∃ s, s ∈ l ∧ inS s r = true ∧ fnd l r = s.h := by
  induction l with
  | nil => exact .inl rfl
  | cons s l ih =>
    by_cases h : inS s r = true
    · exact .inr ⟨s, by simp, h, by simp [fnd, h]⟩
    · rcases ih with h1 | ⟨s', h1, h2, h3⟩
      · exact .inl (by simp [fnd, h, h1])
      · exact .inr ⟨s', by simp [h1], h2, by simp [fnd, h, h3]⟩
theorem rowsT_all : (rowsT.all fun s => decide (1 ≤ s.h ∧ s.h ≤ 7 ∧ 0 ≤ s.f ∧ s.t ≤ 1114111)) = true := by kernel_rfl
theorem kd_bound (r : Int) : 0 ≤ kd r ∧ kd r ≤ 7 ∧ (kd r = 0 ∨ (0 ≤ r ∧ r ≤ 1114111)) := by
  rcases fnd_mem rowsT r with h | ⟨s, h1, h2, h3⟩
  · rw [kd, h]; omega
  · have h4 := List.all_eq_true.1 rowsT_all s h1
    rw [inS_iff] at h2
    rw [kd, h3]
    simp at h4
    omega
end Go.Proofs.YtefobkgifigclaaGreatDoor
