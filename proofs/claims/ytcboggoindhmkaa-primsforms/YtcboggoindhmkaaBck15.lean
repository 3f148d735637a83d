/- What was laid is read; what is read was laid. -/
import Derived.Test.YtcboggoindhmkaaDec15
namespace Go.Proofs.Ytcboggoindhmkaa

/-- What stands in an element at a level. -/
def inn : Nat → List Int → List El × Int
  | 0 => fun b => if b = [] then ([], 0) else ([], 153)
  | k + 1 => fun b => allG (takeB k) b.length b
theorem takeB_inn (k : Nat) : takeB k = takeH (inn k) := by cases k <;> rfl
theorem hd_head (t : Int) (n : Nat) (r : List Int) : (hd t n ++ r).getD 0 0 = t := by
  unfold hd
  split
  · rfl
  · split <;> rfl
/-- An element's bytes, whatever stands behind. -/
theorem takeH_lay (inner : List Int → List El × Int) (t : Int) (b r : List Int) (ht : t % 32 ≠ 31) (hn : (hd t b.length).length + b.length ≤ 4000) : takeH inner (hd t b.length ++ b ++ r) =
    if t / 32 % 2 = 1 then (if (inner b).2 ≠ 0 then (el0, 0, (inner b).2) else (.mk (t / 64) true (t % 32) ⟨#[]⟩ (inner b).1, (hd t b.length ++ b).length, 0)) else (.mk (t / 64) false (t % 32) (strOfNums b) [], (hd t b.length ++ b).length, 0) := by
  have hh : headB (hd t b.length ++ b ++ r) = ((((hd t b.length).length : Nat) : Int), (b.length : Int), 0) := by
    rw [List.append_assoc]; exact head_lay t b.length (b ++ r) ht (by omega)
  have h0 : (hd t b.length ++ b ++ r).getD 0 0 = t := by rw [List.append_assoc]; exact hd_head _ _ _
  have hbody : ((hd t b.length ++ b ++ r).drop ((((hd t b.length).length : Nat) : Int)).toNat).take ((b.length : Int)).toNat = b := by
    rw [Int.toNat_natCast, Int.toNat_natCast, List.append_assoc, List.drop_left, List.take_left]
  have hlen : (((((hd t b.length).length : Nat) : Int)) + (b.length : Int)).toNat = (hd t b.length ++ b).length := by rw [List.length_append]; omega
  unfold takeH
  rw [hh]
  simp only
  rw [h0, hbody, hlen]
  have e1 : ((hd t b.length ++ b ++ r).length : Int) = (((hd t b.length).length : Nat) : Int) + (b.length : Int) + (r.length : Int) := by rw [List.length_append, List.length_append]; omega
  rw [e1, if_neg (by simp), if_neg (by omega), if_neg (by omega)]
theorem deepE_pos (e : El) (k : Nat) : 1 ≤ deepE e k := by cases e with | mk c m n s els => simp only [deepE]; omega
theorem deepL_mem : ∀ (l : List El) (k : Nat) (e : El), e ∈ l → deepE e k ≤ deepE.L l k
  | a :: t, k, e, h => by
    simp only [deepE.L]
    rcases List.mem_cons.1 h with rfl | h
    · omega
    · have := deepL_mem t k e h; omega
theorem size_empty {s : ByteArray} (h : s.size = 0) : s = ⟨#[]⟩ := by
  apply ByteArray.ext
  exact Array.eq_empty_of_size_eq_zero h
theorem allG_cons {tk : List Int → El × Nat × Int} {f : Nat} {s : List Int} {e : El} {j : Nat} {l : List El} (hs : s ≠ []) (h : tk s = (e, j, 0)) (h2 : allG tk f (s.drop j) = (l, 0)) : allG tk (f + 1) s = (e :: l, 0) := by
  unfold allG
  rw [if_neg hs, h]
  simp only
  rw [h2]
  simp
theorem allG_err {tk : List Int → El × Nat × Int} {f : Nat} {s : List Int} {x : Int} (hs : s ≠ []) (h : (tk s).2.2 = x) (hx : x ≠ 0) : allG tk (f + 1) s = ([], x) := by
  unfold allG
  rw [if_neg hs, h, if_pos hx]
theorem allG_err2 {tk : List Int → El × Nat × Int} {f : Nat} {s : List Int} {e : El} {j : Nat} {x : Int} (hs : s ≠ []) (h : tk s = (e, j, 0)) (h2 : (allG tk f (s.drop j)).2 = x) (hx : x ≠ 0) : allG tk (f + 1) s = ([], x) := by
  unfold allG
  rw [if_neg hs, h]
  simp only
  rw [h2, if_neg (by simp), if_pos hx]
/-- Some, one behind the other. -/
theorem allG_lay (tk : List Int → El × Nat × Int) : ∀ (l : List El) (f : Nat), (∀ e, e ∈ l → ∀ r, tk (layE e ++ r) = (e, (layE e).length, 0)) → (∀ e, e ∈ l → layE e ≠ []) → (layE.L l).length ≤ f → allG tk f (layE.L l) = (l, 0)
  | [], f, _, _, _ => by cases f <;> simp [allG, layE.L]
  | a :: t, f, h, hne, hf => by
    have ha := h a (by simp) (layE.L t)
    have hna := hne a (by simp)
    have hpos : 0 < (layE a).length := List.length_pos_iff.2 hna
    simp only [layE.L, List.length_append] at hf
    cases f with
    | zero => omega
    | succ f =>
      have e : layE.L (a :: t) = layE a ++ layE.L t := by simp only [layE.L]
      rw [e]
      refine allG_cons (by simp [hna]) ha ?_
      rw [List.drop_left]
      exact allG_lay tk t f (fun e he => h e (by simp [he])) (fun e he => hne e (by simp [he])) (by omega)
theorem hd_ne (t : Int) (n : Nat) : hd t n ≠ [] := by
  unfold hd
  split
  · simp
  · split <;> simp
theorem lay_ne (e : El) : layE e ≠ [] := by
  cases e with
  | mk c m n s els =>
    simp only [layE]
    exact fun h => hd_ne _ _ (List.append_eq_nil_iff.1 h).1
/-- Decode of the bytes of an element tells it. -/
theorem take_lay (e : El) : ∀ (k : Nat) (r : List Int), fineE e = true → sizeE e ≤ 4000 → deepE e (k + 2) ≤ k + 1 → takeB k (layE e ++ r) = (e, (layE e).length, 0) := by
  induction e using El.ind with
  | h c m n s els ih =>
    intro k r hf hs hd0
    have hll := lay_len _ hf hs
    obtain ⟨f0, c0, c1, n0, n1, fm, fn⟩ := fine_parts hf
    have hs' := hs
    simp only [sizeE] at hs'
    have h1 := hdr_le hs'
    have h2 := sizeL_sum els s.size h1.1
    simp only [deepE] at hd0
    rw [if_pos (by omega)] at hd0
    rw [takeB_inn]
    cases m
    · have el : els = [] := fn rfl
      subst el
      rw [layE_plain] at hll ⊢
      rw [List.length_append, nums_length] at hll
      have e1 : s.size = (nums s).length := (nums_length s).symm
      rw [e1] at hll ⊢
      rw [takeH_lay (inn k) (64 * c + n) (nums s) r (by omega) (by rw [hll]; exact hs)]
      rw [if_neg (by omega), show (64 * c + n) / 64 = c by omega, show (64 * c + n) % 32 = n by omega, strOfNums_nums]
    · have hm : ∀ e, e ∈ els → fineE e = true ∧ sizeE e ≤ 4000 := fun e he => ⟨fineL_mem els f0 e he, by have := sumS_mem els e he; omega⟩
      have hin : inn k (layE.L els) = (els, 0) := by
        cases k with
        | zero =>
          have hnil : els = [] := by
            cases els with
            | nil => rfl
            | cons a t => have h3 := deepE_pos a 1; have h4 := deepL_mem (a :: t) 1 a (by simp); have hd1 : deepE.L (a :: t) 1 + 1 ≤ 0 + 1 := hd0; omega
          rw [hnil]; simp [inn, layE.L]
        | succ k =>
          simp only [inn]
          refine allG_lay (takeB k) els _ (fun e he r => ?_) (fun e _ => lay_ne e) (Nat.le_refl _)
          have h4 := deepL_mem els (k + 2) e he
          exact ih e he k r (hm e he).1 (hm e he).2 (by have : k + 1 + 2 - 1 = k + 2 := by omega
                                                        rw [this] at hd0; omega)
      rw [layE_made] at hll ⊢
      rw [List.length_append] at hll
      rw [takeH_lay (inn k) (64 * c + n + 32) (layE.L els) r (by omega) (by rw [hll]; exact hs), hin]
      rw [if_pos (by omega), if_neg (by simp), show (64 * c + n + 32) / 64 = c by omega, show (64 * c + n + 32) % 32 = n by omega, size_empty (fm rfl)]
end Go.Proofs.Ytcboggoindhmkaa
