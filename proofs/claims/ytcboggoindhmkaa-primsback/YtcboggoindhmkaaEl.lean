/- Elements of BER, plainly, and in memory. -/
import Derived.Test.YtcboggoindhmkaaBase
namespace Go.Proofs.Ytcboggoindhmkaa
open Go.RowKit

/-- An element: its class, is it made of elements, its number, its contents, its elements. -/
structure El where
  cls : Int
  made : Bool
  num : Int
  con : ByteArray
  els : List El
/-- The element that is none. -/
def el0 : El := .mk 0 false 0 ⟨#[]⟩ []
theorem El.ind {P : El → Prop} (h : ∀ c m n s els, (∀ e, e ∈ els → P e) → P (.mk c m n s els)) : ∀ e, P e
  | .mk c m n s els => h c m n s els (L els)
  where
  L : ∀ (l : List El) e, e ∈ l → P e
  | [], _, he => absurd he (by simp)
  | a :: l, e, he => (List.mem_cons.1 he).elim (fun h0 => h0 ▸ El.ind h a) (fun h1 => L l e h1)
/-- A value that is an element (L: elements in memory, from a place on). -/
def ElV (w : World) : El → Value → Prop
  | .mk c m n s els, v => ∃ ad cap, v = .agg #[.int .i64 c, .bool m, .int .i64 n, .string s, .slice ad els.length cap] ∧ els.length ≤ 9223372036854775807 ∧ (els.length = 0 ∨ ∃ g off, ad = some ⟨g, off, none⟩ ∧ L els g off)
  where
  L : List El → Nat → Nat → Prop
  | [], _, _ => True
  | e :: t, g, off => (∃ a0 a1 a2 a3 a4, w.cell? ⟨g, off, none⟩ = some a0 ∧ w.cell? ⟨g, off + 1, none⟩ = some a1 ∧ w.cell? ⟨g, off + 2, none⟩ = some a2 ∧ w.cell? ⟨g, off + 3, none⟩ = some a3 ∧ w.cell? ⟨g, off + 4, none⟩ = some a4 ∧ ElV w e (.agg #[a0, a1, a2, a3, a4])) ∧ L t g (off + 5)
/-- A slice of elements. -/
def ElsV (w : World) (v : Value) (l : List El) : Prop := ∃ ad cap, v = .slice ad l.length cap ∧ l.length ≤ 9223372036854775807 ∧ (l.length = 0 ∨ ∃ g off, ad = some ⟨g, off, none⟩ ∧ ElV.L w l g off)
theorem ElV.L.get {w : World} : ∀ {l : List El} {g off : Nat}, ElV.L w l g off → ∀ i, i < l.length → ∃ a0 a1 a2 a3 a4, w.cell? ⟨g, off + i * 5, none⟩ = some a0 ∧ w.cell? ⟨g, off + i * 5 + 1, none⟩ = some a1 ∧ w.cell? ⟨g, off + i * 5 + 2, none⟩ = some a2 ∧ w.cell? ⟨g, off + i * 5 + 3, none⟩ = some a3 ∧ w.cell? ⟨g, off + i * 5 + 4, none⟩ = some a4 ∧ ElV w (l.getD i el0) (.agg #[a0, a1, a2, a3, a4])
  | [], _, _, _, i, hi => by simp at hi
  | e :: t, g, off, h, 0, _ => by
    simp only [ElV.L] at h
    simpa using h.1
  | e :: t, g, off, h, i + 1, hi => by
    simp only [ElV.L] at h
    have := ElV.L.get h.2 i (by simpa using hi)
    rw [show off + 5 + i * 5 = off + (i + 1) * 5 by omega] at this
    simpa using this
/-- An element's value, laid open. -/
theorem ElV.open {w : World} {e : El} {v : Value} (h : ElV w e v) : ∃ ad cap, v = .agg #[.int .i64 e.cls, .bool e.made, .int .i64 e.num, .string e.con, .slice ad e.els.length cap] ∧ e.els.length ≤ 9223372036854775807 ∧ (e.els.length = 0 ∨ ∃ g off, ad = some ⟨g, off, none⟩ ∧ ElV.L w e.els g off) := by
  cases e with
  | mk c m n s els => simp only [ElV] at h; exact h
theorem ElV.els {w : World} {e : El} {ad : Option Addr} {cap : Nat} {a b c d : Value} (h : ElV w e (.agg #[a, b, c, d, .slice ad e.els.length cap])) : ElsV w (.slice ad e.els.length cap) e.els := by
  obtain ⟨ad', cap', hv, hn, hc⟩ := h.open
  cases hv
  exact ⟨ad, cap, rfl, hn, hc⟩
theorem ElV.below {w w2 : World} (hb : Below w.heap.size w w2) : ∀ (e : El) (v : Value), ElV w e v → ElV w2 e v
  | .mk c m n s els, v, h => by
    simp only [ElV] at h ⊢
    obtain ⟨ad, cap, hv, hn, hc⟩ := h
    refine ⟨ad, cap, hv, hn, ?_⟩
    rcases hc with h0 | ⟨g, off, ha, hl⟩
    · exact .inl h0
    · exact .inr ⟨g, off, ha, L els g off hl⟩
  where
  L : ∀ (l : List El) (g off : Nat), ElV.L w l g off → ElV.L w2 l g off
  | [], _, _, _ => by simp only [ElV.L]
  | e :: t, g, off, h => by
    simp only [ElV.L] at h ⊢
    obtain ⟨⟨a0, a1, a2, a3, a4, h0, h1, h2, h3, h4, hv⟩, ht⟩ := h
    exact ⟨⟨a0, a1, a2, a3, a4, (hb.cell (cell_lt h0)).trans h0, (hb.cell (cell_lt h1)).trans h1, (hb.cell (cell_lt h2)).trans h2, (hb.cell (cell_lt h3)).trans h3, (hb.cell (cell_lt h4)).trans h4, ElV.below hb e _ hv⟩, L t g (off + 5) ht⟩
theorem ElV.L.below {w w2 : World} (hb : Below w.heap.size w w2) (l : List El) (g off : Nat) (h : ElV.L w l g off) : ElV.L w2 l g off := ElV.below.L hb l g off h
theorem ElsV.below {w w2 : World} {v : Value} {l : List El} (h : ElsV w v l) (hb : Below w.heap.size w w2) : ElsV w2 v l := by
  obtain ⟨ad, cap, hv, hn, hc⟩ := h
  refine ⟨ad, cap, hv, hn, ?_⟩
  rcases hc with h0 | ⟨g, off, ha, hl⟩
  · exact .inl h0
  · exact .inr ⟨g, off, ha, ElV.L.below hb l g off hl⟩
theorem ElV.grow {w w2 : World} {e : El} {v : Value} (h : ElV w e v) (hb : Below w.heap.size w w2) : ElV w2 e v := ElV.below hb e v h

/-- The five cells of a box, in every world that has grown. -/
theorem box5 {w w2 : World} {a0 a1 a2 a3 a4 : Value} {T : TypeId} (h : Gr (w.alloc (.cells #[a0, a1, a2, a3, a4] T)) w2) : w2.cell? ⟨w.heap.size, 0, none⟩ = some a0 ∧ w2.cell? ⟨w.heap.size, 1, none⟩ = some a1 ∧ w2.cell? ⟨w.heap.size, 2, none⟩ = some a2 ∧ w2.cell? ⟨w.heap.size, 3, none⟩ = some a3 ∧ w2.cell? ⟨w.heap.size, 4, none⟩ = some a4 := by
  refine ⟨h.cell ?_, h.cell ?_, h.cell ?_, h.cell ?_, h.cell ?_⟩ <;> rw [World.cell?_alloc_mark] <;> rfl
theorem getD_mem (l : List El) (i : Nat) (h : i < l.length) : l.getD i el0 ∈ l := by
  rw [List.getD, List.getElem?_eq_getElem h]
  exact List.getElem_mem h
theorem drop_cons (l : List El) (i : Nat) (h : i < l.length) : l.drop i = l.getD i el0 :: l.drop (i + 1) := by
  rw [List.drop_eq_getElem_cons h]
  simp [List.getD, h]
/-- Have an element, and all in it, what they may have? -/
def fineE : El → Bool
  | .mk c m n s els => L els && (decide (0 ≤ c ∧ c < 4 ∧ 0 ≤ n ∧ n < 31) && ((!m || decide (s.size = 0)) && (m || decide (els.length = 0))))
  where
  L : List El → Bool
  | [] => true
  | e :: t => fineE e && L t
/-- How deep, but at most so deep. -/
def deepE : El → Nat → Nat
  | .mk _ _ _ _ els, k => (if 1 < k then L els (k - 1) else 0) + 1
  where
  L : List El → Nat → Nat
  | [], _ => 0
  | e :: t, k => max (deepE e k) (L t k)
/-- With the bytes of tag and length. -/
def hdr (n : Nat) : Nat := if 4000 < n then 100000 else if 256 ≤ n then n + 4 else if 128 ≤ n then n + 3 else n + 2
/-- How many bytes, but no more than 100000. -/
def sizeE : El → Nat
  | .mk _ _ _ s els => hdr (L els s.size)
  where
  L : List El → Nat → Nat
  | [], n => n
  | e :: t, n => if n ≤ 4000 then L t (n + sizeE e) else n
/-- How many are left of so many. -/
def fewE : El → Int → Int
  | .mk _ _ _ s els, k => if 5000 < s.size then -1 else L els (k - 1)
  where
  L : List El → Int → Int
  | [], k => k
  | e :: t, k => if 0 ≤ k then L t (fewE e k) else k
/-- Are two the same? -/
def sameE : El → El → Bool
  | .mk c m n s els, .mk c' m' n' s' els' => decide (c = c') && (decide (m = m') && (decide (n = n') && (decide (s = s') && L els els')))
  where
  L : List El → List El → Bool
  | [], [] => true
  | [], _ :: _ => false
  | _ :: _, [] => false
  | a :: t, b :: u => sameE a b && L t u
theorem deepE_le : ∀ (e : El) (k : Nat), 1 ≤ k → deepE e k ≤ k := fun e => by
  induction e using El.ind with
  | h c m n s els ih =>
    intro k hk
    simp only [deepE]
    split
    · have : ∀ l : List El, (∀ e, e ∈ l → e ∈ els) → deepE.L l (k - 1) ≤ k - 1 := fun l => by
        induction l with
        | nil => intro _; simp [deepE.L]
        | cons a t iht =>
          intro hl
          simp only [deepE.L]
          have h1 := ih a (hl a (by simp)) (k - 1) (by omega)
          have h2 := iht fun e he => hl e (by simp [he])
          omega
      have := this els fun _ h => h
      omega
    · omega
theorem sizeE_le (e : El) : sizeE e ≤ 100000 := by
  cases e with
  | mk c m n s els =>
    simp only [sizeE, hdr]
    split
    · omega
    · split
      · omega
      · split <;> omega
end Go.Proofs.Ytcboggoindhmkaa
