/- What both sides of layer 15 share: what Decode and All tell, plainly; elements and boxes that a call has laid. -/
import Derived.Test.YtcboggoindhmkaaOwn15
namespace Go.Proofs.Ytcboggoindhmkaa
open Go.RowKit

/-- Some, and then more; or an error. -/
def comb (l : List El) (A : List El × Int) : List El × Int := if A.2 = 0 then (l ++ A.1, 0) else ([], A.2)
theorem allG_nil {tk : List Int → El × Nat × Int} : ∀ (f : Nat) (s : List Int), (allG tk f s).2 ≠ 0 → (allG tk f s).1 = []
  | 0, _, h => absurd rfl h
  | f + 1, s, h => by
    by_cases hs : s = []
    · subst hs; simp [allG] at h
    · obtain ⟨e, j, x, hr⟩ : ∃ e j x, tk s = (e, j, x) := ⟨_, _, _, rfl⟩
      by_cases hx : x = 0
      · subst hx
        obtain ⟨l2, y2, hr2⟩ : ∃ l2 y2, allG tk f (s.drop j) = (l2, y2) := ⟨_, _, rfl⟩
        by_cases hy2 : y2 = 0
        · subst hy2
          rw [allG_cons hs hr hr2] at h
          exact absurd rfl h
        · rw [allG_err2 hs hr (by rw [hr2]) hy2]
      · rw [allG_err hs (by rw [hr]) hx]
theorem comb_nil (k : Nat) (s : List Int) : comb [] (allB k s) = allB k s := by
  unfold comb
  split
  · rename_i h; exact Prod.ext (by simp) h.symm
  · rename_i h; exact Prod.ext (allG_nil _ _ h).symm rfl
theorem comb_comb (l : List El) (e : El) (A : List El × Int) : comb l (comb [e] A) = comb (l ++ [e]) A := by
  unfold comb
  by_cases h : A.2 = 0
  · simp [h]
  · simp [h]
theorem allB_nil (k : Nat) : allB k [] = ([], 0) := rfl
theorem allB_err {k : Nat} {s : List Int} {x : Int} (hs : s ≠ []) (h : (takeB k s).2.2 = x) (hx : x ≠ 0) : allB k s = ([], x) := by
  unfold allB
  obtain ⟨f, hf⟩ : ∃ f, s.length = f + 1 := ⟨s.length - 1, by have := List.length_pos_iff.2 hs; omega⟩
  rw [hf]
  exact allG_err hs h hx
theorem allB_step {k : Nat} {s : List Int} {e : El} {j : Nat} (hb : Byt s) (hs : s ≠ []) (h : takeB k s = (e, j, 0)) : allB k s = comb [e] (allB k (s.drop j)) := by
  have hj := take_pos k s e j hb h
  obtain ⟨f, hf⟩ : ∃ f, s.length = f + 1 := ⟨s.length - 1, by have := List.length_pos_iff.2 hs; omega⟩
  have hfu : allG (takeB k) f (s.drop j) = allB k (s.drop j) := allG_fuel (take_pos k) _ _ _ (hb.drop j) (by rw [List.length_drop]; omega) (Nat.le_refl _)
  show allG (takeB k) s.length s = _
  rw [hf]
  obtain ⟨l2, y2, hr2⟩ : ∃ l2 y2, allB k (s.drop j) = (l2, y2) := ⟨_, _, rfl⟩
  rw [hr2] at hfu ⊢
  by_cases hy2 : y2 = 0
  · subst hy2
    rw [allG_cons hs h hfu]
    rfl
  · rw [allG_err2 hs h (by rw [hfu]) hy2]
    unfold comb
    rw [if_neg hy2]
theorem ret_ve {v : Value} {c d : Int} (h : c = d) : Ending.returned (.tuple #[v, .int .i64 c]) = .returned (.tuple #[v, .int .i64 d]) := by rw [h]
theorem byt_nums (s : ByteArray) : Byt (nums s) := fun x hx => nums_bound s x hx
theorem el0_P (P : Nat → Prop) (w : World) : ElP P w el0 (.agg #[.int .i64 0, .bool false, .int .i64 0, .string ⟨#[]⟩, .slice none 0 0]) := by
  unfold el0
  simp only [ElP]
  exact ⟨none, 0, rfl, Nat.zero_le _, .inl rfl⟩
theorem two_below (w : World) (o1 o2 : Obj) (q : Nat) : Below w.heap.size w (((w.alloc o1).alloc o2).drewN q) := below_drewN (((Gr.one w o1).alloc o2).below) q
theorem ret_ve3 {v : Value} {a b c : Int} (h : a = b) : Ending.returned (.tuple #[v, .int .i64 a, .int .i64 c]) = .returned (.tuple #[v, .int .i64 b, .int .i64 c]) := by rw [h]
theorem plain_P (P : Nat → Prop) (w : World) (c n : Int) (t : ByteArray) : ElP P w (.mk c false n t []) (.agg #[.int .i64 c, .bool false, .int .i64 n, .string t, .slice none 0 0]) := by
  simp only [ElP]
  exact ⟨none, 0, rfl, Nat.zero_le _, .inl rfl⟩
theorem three_below (w : World) (o1 o2 o3 : Obj) (q : Nat) : Below w.heap.size w ((((w.alloc o1).alloc o2).alloc o3).drewN q) := below_drewN ((((Gr.one w o1).alloc o2).alloc o3).below) q
abbrev Z5 : Obj := .cells #[.int .i64 0, .bool false, .int .i64 0, .string ⟨#[]⟩, .slice none 0 0] 26
theorem EsP.shape {P : Nat → Prop} {w : World} {v : Value} {l : List El} (h : EsP P w v l) : ∃ ad cap, v = .slice ad l.length cap := by
  obtain ⟨ad, cap, hv, _⟩ := h
  exact ⟨ad, cap, hv⟩
theorem made_P {P Q : Nat → Prop} {w w2 : World} {ad : Option Addr} {cap : Nat} {l : List El} (c n : Int) (h : EsP P w (.slice ad l.length cap) l) (hq : ∀ g, P g → Q g) (hc : ∀ g off v, P g → w.cell? ⟨g, off, none⟩ = some v → w2.cell? ⟨g, off, none⟩ = some v) : ElP Q w2 (.mk c true n ⟨#[]⟩ l) (.agg #[.int .i64 c, .bool true, .int .i64 n, .string ⟨#[]⟩, .slice ad l.length cap]) := by
  obtain ⟨ad', cap', hv, hn, hx⟩ := h
  cases hv
  simp only [ElP]
  refine ⟨ad, cap, rfl, hn, ?_⟩
  rcases hx with h0 | ⟨g, off, ha, hg, hl⟩
  · exact .inl h0
  · exact .inr ⟨g, off, ha, hq g hg, ElP.L.kept hq hc l g off hg hl⟩
/-- What Decode tells: the element, its end, the error. -/
def decB (s : List Int) (at_ : Int) : El × Int × Int := if at_ < 0 ∨ (s.length : Int) < at_ then (el0, 0, 2) else ((takeB 11 (s.drop at_.toNat)).1, (if (takeB 11 (s.drop at_.toNat)).2.2 = 0 then at_ + ((takeB 11 (s.drop at_.toNat)).2.1 : Int) else 0), (takeB 11 (s.drop at_.toNat)).2.2)
/-- What All tells. -/
def allT (s : List Int) : List El × Int := if 4000 < s.length then ([], 3) else allB 11 s
theorem ret_v3 {v : Value} {a b c d : Int} (h : a = b) (h2 : c = d) : Ending.returned (.tuple #[v, .int .i64 a, .int .i64 c]) = .returned (.tuple #[v, .int .i64 b, .int .i64 d]) := by rw [h, h2]
theorem set5 {w : World} {g : Nat} {b0 b1 b2 b3 b4 : Value} (a0 a1 a2 a3 a4 : Value) (q0 : w.cell? ⟨g, 0, none⟩ = some b0) (q1 : w.cell? ⟨g, 1, none⟩ = some b1) (q2 : w.cell? ⟨g, 2, none⟩ = some b2) (q3 : w.cell? ⟨g, 3, none⟩ = some b3) (q4 : w.cell? ⟨g, 4, none⟩ = some b4) {W : World} (hW : (((((w.setCell ⟨g, 0, none⟩ a0).setCell ⟨g, 1, none⟩ a1).setCell ⟨g, 2, none⟩ a2).setCell ⟨g, 3, none⟩ a3).setCell ⟨g, 4, none⟩ a4) = W) :
    W.cell? ⟨g, 0, none⟩ = some a0 ∧ W.cell? ⟨g, 1, none⟩ = some a1 ∧ W.cell? ⟨g, 2, none⟩ = some a2 ∧ W.cell? ⟨g, 3, none⟩ = some a3 ∧ W.cell? ⟨g, 4, none⟩ = some a4 ∧ (∀ p : Addr, p.block ≠ g → W.cell? p = w.cell? p) := by
  subst hW
  have ne : ∀ i j : Nat, i ≠ j → (⟨g, i, none⟩ : Addr) ≠ ⟨g, j, none⟩ := fun i j h e => h (by cases e; rfl)
  have o : ∀ (W : World) (p : Addr) (i : Nat) (v : Value), p.block ≠ g → (W.setCell ⟨g, i, none⟩ v).cell? p = W.cell? p := fun W p i v h => World.cell?_setCell_other _ _ _ _ (fun e => h (by rw [← e]))
  refine ⟨?_, ?_, ?_, ?_, ?_, fun p hp => by rw [o _ _ _ _ hp, o _ _ _ _ hp, o _ _ _ _ hp, o _ _ _ _ hp, o _ _ _ _ hp]⟩
  · rw [World.cell?_setCell_other _ _ _ _ (ne 4 0 (by decide)), World.cell?_setCell_other _ _ _ _ (ne 3 0 (by decide)), World.cell?_setCell_other _ _ _ _ (ne 2 0 (by decide)), World.cell?_setCell_other _ _ _ _ (ne 1 0 (by decide))]
    exact World.cell?_setCell_same _ _ _ q0
  · rw [World.cell?_setCell_other _ _ _ _ (ne 4 1 (by decide)), World.cell?_setCell_other _ _ _ _ (ne 3 1 (by decide)), World.cell?_setCell_other _ _ _ _ (ne 2 1 (by decide))]
    exact World.cell?_setCell_same _ _ _ (by rw [World.cell?_setCell_other _ _ _ _ (ne 0 1 (by decide))]; exact q1)
  · rw [World.cell?_setCell_other _ _ _ _ (ne 4 2 (by decide)), World.cell?_setCell_other _ _ _ _ (ne 3 2 (by decide))]
    exact World.cell?_setCell_same _ _ _ (by rw [World.cell?_setCell_other _ _ _ _ (ne 1 2 (by decide)), World.cell?_setCell_other _ _ _ _ (ne 0 2 (by decide))]; exact q2)
  · rw [World.cell?_setCell_other _ _ _ _ (ne 4 3 (by decide))]
    exact World.cell?_setCell_same _ _ _ (by rw [World.cell?_setCell_other _ _ _ _ (ne 2 3 (by decide)), World.cell?_setCell_other _ _ _ _ (ne 1 3 (by decide)), World.cell?_setCell_other _ _ _ _ (ne 0 3 (by decide))]; exact q3)
  · exact World.cell?_setCell_same _ _ _ (by rw [World.cell?_setCell_other _ _ _ _ (ne 3 4 (by decide)), World.cell?_setCell_other _ _ _ _ (ne 2 4 (by decide)), World.cell?_setCell_other _ _ _ _ (ne 1 4 (by decide)), World.cell?_setCell_other _ _ _ _ (ne 0 4 (by decide))]; exact q4)
theorem head_le (s : List Int) (hb : Byt s) : (headB s).2.1 ≤ 65535 ∧ 0 ≤ (headB s).2.1 ∧ 0 ≤ (headB s).1 ∧ (headB s).1 ≤ 4 := by
  have b1 := hb.at 1
  have b2 := hb.at 2
  have b3 := hb.at 3
  unfold headB
  repeat' split
  all_goals (simp only; omega)
theorem takeB_of (k : Nat) (d : List Int) : takeB k d = takeH (inn k) d := by rw [takeB_inn]
/-- An element's five cells. -/
theorem ElP.shape {P : Nat → Prop} {w : World} {e : El} {v : Value} (h : ElP P w e v) : ∃ ad cap, v = .agg #[.int .i64 e.cls, .bool e.made, .int .i64 e.num, .string e.con, .slice ad e.els.length cap] := by
  obtain ⟨ad, cap, hv, _⟩ := (ElP.toV e v h).open
  exact ⟨ad, cap, hv⟩
abbrev bxE (e : El) (ad : Option Addr) (cap : Nat) : Obj := .cells #[.int .i64 e.cls, .bool e.made, .int .i64 e.num, .string e.con, .slice ad e.els.length cap] 26
theorem bxE_cells (w : World) (e : El) (ad : Option Addr) (cap : Nat) : (w.alloc (bxE e ad cap)).cell? ⟨w.heap.size, 0, none⟩ = some (.int .i64 e.cls) ∧ (w.alloc (bxE e ad cap)).cell? ⟨w.heap.size, 1, none⟩ = some (.bool e.made) ∧ (w.alloc (bxE e ad cap)).cell? ⟨w.heap.size, 2, none⟩ = some (.int .i64 e.num) ∧ (w.alloc (bxE e ad cap)).cell? ⟨w.heap.size, 3, none⟩ = some (.string e.con) ∧ (w.alloc (bxE e ad cap)).cell? ⟨w.heap.size, 4, none⟩ = some (.slice ad e.els.length cap) := box5 (Gr.refl _)
theorem below_next {w w1 w2 : World} (h : Below w.heap.size w w1) (h2 : Below w1.heap.size w1 w2) : Below w.heap.size w w2 := h.trans (h2.mono h.size)
theorem nums_extract (s : ByteArray) (a n : Nat) : nums (s.extract a (a + n)) = ((nums s).drop a).take n := by
  simp [nums, ByteArray.data_extract, Array.toList_extract, List.extract, List.map_take, List.map_drop]
end Go.Proofs.Ytcboggoindhmkaa
