/- The bytes of elements, plainly. -/
import Derived.Test.YtcboggoindhmkaaRSam15
import Derived.Test.YtcboggoindhmkaaStr
namespace Go.Proofs.Ytcboggoindhmkaa
open Go.RowKit

/-- Tag and length. -/
def hd (t : Int) (n : Nat) : List Int := if n < 128 then [t, n] else if n < 256 then [t, 129, n] else [t, 130, ((n / 256 : Nat) : Int), ((n % 256 : Nat) : Int)]
def tagE (c : Int) (m : Bool) (n : Int) : Int := 64 * c + n + (if m then 32 else 0)
/-- The bytes of an element. -/
def layE : El → List Int
  | .mk c m n s els => hd (tagE c m n) (if m then (L els).length else s.size) ++ (if m then L els else nums s)
  where
  L : List El → List Int
  | [] => []
  | e :: t => layE e ++ L t
/-- The bytes of some, by Size. -/
def sumS : List El → Nat
  | [] => 0
  | e :: t => sizeE e + sumS t
theorem sizeL_sum : ∀ (l : List El) (n : Nat), sizeE.L l n ≤ 4000 → sizeE.L l n = n + sumS l
  | [], n, _ => by simp [sizeE.L, sumS]
  | e :: t, n, h => by
    simp only [sizeE.L, sumS] at h ⊢
    split at h
    · rename_i hn
      rw [if_pos hn, sizeL_sum t _ h]; omega
    · omega
theorem hdr_le {n : Nat} (h : hdr n ≤ 4000) : n ≤ 4000 ∧ n + 2 ≤ hdr n := by
  unfold hdr at h ⊢
  repeat' split at h
  all_goals (repeat' split)
  all_goals omega
theorem sumS_mem : ∀ (l : List El) (e : El), e ∈ l → sizeE e ≤ sumS l
  | a :: t, e, h => by
    simp only [sumS]
    rcases List.mem_cons.1 h with rfl | h
    · omega
    · have := sumS_mem t e h; omega
theorem fineL_mem : ∀ (l : List El), fineE.L l = true → ∀ e, e ∈ l → fineE e = true
  | a :: t, h, e, he => by
    simp only [fineE.L, Bool.and_eq_true] at h
    rcases List.mem_cons.1 he with rfl | he
    · exact h.1
    · exact fineL_mem t h.2 e he
theorem fine_parts {c : Int} {m : Bool} {n : Int} {s : ByteArray} {els : List El} (h : fineE (.mk c m n s els) = true) : fineE.L els = true ∧ 0 ≤ c ∧ c < 4 ∧ 0 ≤ n ∧ n < 31 ∧ (m = true → s.size = 0) ∧ (m = false → els = []) := by
  simp only [fineE, Bool.and_eq_true, Bool.or_eq_true, decide_eq_true_eq, Bool.not_eq_true'] at h
  refine ⟨h.1, h.2.1.1, h.2.1.2.1, h.2.1.2.2.1, h.2.1.2.2.2, fun hm => ?_, fun hm => ?_⟩
  · rcases h.2.2.1 with h' | h'
    · rw [hm] at h'; cases h'
    · exact h'
  · rcases h.2.2.2 with h' | h'
    · rw [hm] at h'; cases h'
    · exact List.eq_nil_of_length_eq_zero h'
theorem hd_len (t : Int) (n : Nat) (h : n ≤ 4000) : (hd t n).length + n = hdr n := by
  unfold hd hdr
  repeat' split
  all_goals simp only [List.length_cons, List.length_nil]
  all_goals omega
theorem layL_len_of (l : List El) (h : ∀ e, e ∈ l → (layE e).length = sizeE e) : (layE.L l).length = sumS l := by
  induction l with
  | nil => simp [layE.L, sumS]
  | cons a t ih =>
    simp only [layE.L, sumS, List.length_append]
    rw [h a (by simp), ih fun e he => h e (by simp [he])]
/-- What Size tells is the number of the bytes. -/
theorem lay_len (e : El) : fineE e = true → sizeE e ≤ 4000 → (layE e).length = sizeE e := by
  induction e using El.ind with
  | h c m n s els ih =>
    intro hf hs
    obtain ⟨f0, _, _, _, _, fm, fn⟩ := fine_parts hf
    simp only [sizeE] at hs ⊢
    have h1 := hdr_le hs
    have h2 := sizeL_sum els s.size h1.1
    cases m
    · rw [fn rfl] at h2 h1 hs ⊢
      simp only [sizeE.L] at hs h1 ⊢
      simp only [layE, Bool.false_eq_true, if_false, List.length_append, nums_length]
      exact hd_len _ _ h1.1
    · rw [fm rfl] at h2 h1 hs ⊢
      have hl : (layE.L els).length = sumS els := layL_len_of els fun e he => ih e he (fineL_mem els f0 e he) (by have := sumS_mem els e he; omega)
      have h3 : sizeE.L els 0 = (layE.L els).length := by omega
      simp only [layE, if_true, List.length_append]
      rw [h3]
      exact hd_len _ _ (by omega)
theorem layL_app : ∀ a b : List El, layE.L (a ++ b) = layE.L a ++ layE.L b
  | [], b => by simp [layE.L]
  | e :: t, b => by simp only [List.cons_append, layE.L, layL_app t b, List.append_assoc]
theorem take_el (l : List El) (i : Nat) (h : i < l.length) : l.take (i + 1) = l.take i ++ [l.getD i el0] := by
  rw [List.take_succ_eq_append_getElem h]; simp [List.getD, h]
theorem layL_take (l : List El) (i : Nat) (h : i < l.length) : layE.L (l.take (i + 1)) = layE.L (l.take i) ++ layE (l.getD i el0) := by
  rw [take_el l i h, layL_app]; simp [layE.L]
theorem hd_byte {t : Int} {n : Nat} (h0 : 0 ≤ t) (h1 : t < 256) (hn : n ≤ 4000) : ∀ x ∈ hd t n, 0 ≤ x ∧ x < 256 := by
  intro x hx
  unfold hd at hx
  split at hx
  · simp at hx; omega
  · split at hx
    · simp at hx; omega
    · simp at hx; omega
theorem lay_byte (e : El) : fineE e = true → sizeE e ≤ 4000 → ∀ x ∈ layE e, 0 ≤ x ∧ x < 256 := by
  induction e using El.ind with
  | h c m n s els ih =>
    intro hf hs x hx
    obtain ⟨f0, c0, c1, n0, n1, fm, fn⟩ := fine_parts hf
    simp only [sizeE] at hs
    have h1 := hdr_le hs
    have h2 := sizeL_sum els s.size h1.1
    have ht : 0 ≤ tagE c m n ∧ tagE c m n < 256 := by unfold tagE; split <;> omega
    simp only [layE] at hx
    rcases List.mem_append.1 hx with h | h
    · refine hd_byte ht.1 ht.2 ?_ x h
      cases m
      · simp only [Bool.false_eq_true, if_false]; omega
      · simp only [if_true]
        have hl : (layE.L els).length = sumS els := layL_len_of els fun e he => lay_len e (fineL_mem els f0 e he) (by have := sumS_mem els e he; omega)
        omega
    · cases m
      · simp only [Bool.false_eq_true, if_false] at h
        exact nums_bound s x h
      · simp only [if_true] at h
        have : ∀ l : List El, (∀ e, e ∈ l → e ∈ els) → ∀ x ∈ layE.L l, 0 ≤ x ∧ x < 256 := fun l => by
          induction l with
          | nil => intro _ x hx; simp [layE.L] at hx
          | cons a t iht =>
            intro hl x hx
            simp only [layE.L] at hx
            rcases List.mem_append.1 hx with hx | hx
            · exact ih a (hl a (by simp)) (fineL_mem els f0 a (hl a (by simp))) (by have := sumS_mem els a (hl a (by simp)); omega) x hx
            · exact iht (fun e he => hl e (by simp [he])) x hx
        exact this els (fun _ h => h) x h
theorem conv_bytes (w : World) (xs : List Int) (C : Array Value) (n : Nat) (hC : C = (xs.map (Value.int .u8)).toArray) (hn : xs.length = n) :
    (convert 71 9 (.slice (some ⟨w.heap.size, 0, none⟩) n n)).run Try.prog (w.alloc (.cells C 5)) = .ok (.string (strOfNums xs)) (w.alloc (.cells C 5)) := by
  subst hC
  refine run_convert_bytes_arg (w.alloc _) 71 5 Try.underlying71 Try.underlying5 w.heap.size 0 n n xs hn ?_ 9 Try.underlying9
  intro i hi
  have hi' : i < xs.length := by omega
  rw [World.cell?_alloc_mark]
  simp [List.getD, hi']
theorem conv_at (w : World) (xs : List Int) (C : Array Value) (n : Nat) (hC : C = (xs.map (Value.int .u8)).toArray) (hn : xs.length = n) (g : Nat) (hg : g = w.heap.size) :
    (convert 71 9 (.slice (some ⟨g, 0, none⟩) n n)).run Try.prog (w.alloc (.cells C 5)) = .ok (.string (strOfNums xs)) (w.alloc (.cells C 5)) := by
  rw [hg]; exact conv_bytes w xs C n hC hn
end Go.Proofs.Ytcboggoindhmkaa
