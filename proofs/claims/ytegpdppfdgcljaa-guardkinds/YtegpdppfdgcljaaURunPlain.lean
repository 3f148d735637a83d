/- Plain mathematics: reading code points one behind the other. -/
import Derived.Test.YtegpdppfdgcljaaUDecU
namespace Go.Proofs.Ytegpdppfdgcljaa
open Go.RowKit

/-- The code points that are read, and how many bytes they have, till there is none. -/
def runP : Nat → List Int → List Int
  | 0, _ => []
  | f + 1, L => if decN L = 0 then [] else decR L :: runP f (L.drop (decN L).toNat)
def runN : Nat → List Int → Nat
  | 0, _ => 0
  | f + 1, L => if decN L = 0 then 0 else (decN L).toNat + runN f (L.drop (decN L).toNat)

theorem decN_cases (L : List Int) : (decN L = 0 ∧ decR L = 0) ∨ (∃ n : Nat, 1 ≤ n ∧ n ≤ 4 ∧ n ≤ L.length ∧ decN L = n) := by
  unfold decN decR
  cases h1 : is1 L
  · cases h2 : is2 L
    · cases h3 : is3 L
      · cases h4 : is4 L
        · simp
        · right; unfold is4 at h4; rw [decide_eq_true_iff] at h4; exact ⟨4, by omega, by omega, by omega, by simp⟩
      · right; unfold is3 at h3; rw [decide_eq_true_iff] at h3; exact ⟨3, by omega, by omega, by omega, by simp⟩
    · right; unfold is2 at h2; rw [decide_eq_true_iff] at h2; exact ⟨2, by omega, by omega, by omega, by simp⟩
  · right; unfold is1 at h1; rw [decide_eq_true_iff] at h1; exact ⟨1, by omega, by omega, by omega, by simp⟩

theorem decN_nil : decN [] = 0 := by
  rcases decN_cases [] with h | ⟨n, h1, _, h3, _⟩
  · exact h.1
  · simp at h3; omega
theorem runP_nil (f : Nat) : runP f [] = [] := by cases f <;> simp [runP, decN_nil]
theorem runN_nil (f : Nat) : runN f [] = 0 := by cases f <;> simp [runN, decN_nil]

/-- What is taken at the head, laid, is what it was taken from. -/
theorem dec_back (L : List Int) (hb : ∀ x ∈ L, 0 ≤ x ∧ x < 256) (h : decN L ≠ 0) : isPt (decR L) = true ∧ enc1 (decR L) = L.take (decN L).toNat := by
  have t1 := try1 L hb
  have t2 := try2 L hb
  have t3 := try3 L hb
  have t4 := try4 L hb
  have key : ∀ n : Nat, 1 ≤ n → n ≤ 4 → (∀ m, 1 ≤ m → m < n → tryN L m = false) → tryN L n = true → isPt (decR L) = true ∧ enc1 (decR L) = L.take (decN L).toNat := by
    intro n h1 h4 hno hyes
    obtain ⟨d1, d2⟩ := decN_n L hb n h1 h4 hno hyes
    rw [d1, d2]
    unfold tryN at hyes
    simp at hyes
    simpa using hyes.2
  cases h1 : is1 L
  · cases h2 : is2 L
    · cases h3 : is3 L
      · cases h4 : is4 L
        · exact absurd (dec_no L h1 h2 h3 h4).1 h
        · refine key 4 (by omega) (by omega) (fun m a b => ?_) (by rw [t4, h4])
          have : m = 1 ∨ m = 2 ∨ m = 3 := by omega
          rcases this with rfl | rfl | rfl
          · rw [t1, h1]
          · rw [t2, h2]
          · rw [t3, h3]
      · refine key 3 (by omega) (by omega) (fun m a b => ?_) (by rw [t3, h3])
        have : m = 1 ∨ m = 2 := by omega
        rcases this with rfl | rfl
        · rw [t1, h1]
        · rw [t2, h2]
    · refine key 2 (by omega) (by omega) (fun m a b => ?_) (by rw [t2, h2])
      have : m = 1 := by omega
      subst this
      rw [t1, h1]
  · refine key 1 (by omega) (by omega) (fun m a b => ?_) (by rw [t1, h1])
    omega

theorem runP_back (f : Nat) : ∀ (L : List Int), (∀ x ∈ L, 0 ≤ x ∧ x < 256) → okL (runP f L) = true ∧ encL (runP f L) = L.take (runN f L) := by
  induction f with
  | zero => intro L _; simp [runP, runN, okL, encL]
  | succ f ih =>
    intro L hb
    by_cases h : decN L = 0
    · simp [runP, runN, h, okL, encL]
    · obtain ⟨p, q⟩ := dec_back L hb h
      obtain ⟨i1, i2⟩ := ih (L.drop (decN L).toNat) (fun x hx => hb x (List.mem_of_mem_drop hx))
      simp only [runP, runN, if_neg h]
      refine ⟨?_, ?_⟩
      · unfold okL at i1 ⊢
        simp only [List.all_cons, p, i1, Bool.and_self]
      · simp only [encL]
        rw [q, i2, List.take_add]

/-- The bytes of a code point are read as it. -/
theorem dec_enc (r : Int) (h : isPt r = true) (t : List Int) : decN (enc1 r ++ t) = (enc1 r).length ∧ decR (enc1 r ++ t) = r := by
  obtain ⟨h0, h1⟩ := isPt_lo h
  unfold enc1
  by_cases a : r < 128
  · simp only [if_pos a]
    have i1 : is1 ([r] ++ t) = true := by unfold is1; simp; omega
    unfold decN decR
    simp only [i1, if_true]
    simp
  by_cases b : r < 2048
  · simp only [if_neg a, if_pos b]
    have i1 : is1 ([192 + r / 64, 128 + r % 64] ++ t) = false := by unfold is1; simp; omega
    have e : r2 ([192 + r / 64, 128 + r % 64] ++ t) = r := by simp [r2]; omega
    have i2 : is2 ([192 + r / 64, 128 + r % 64] ++ t) = true := by unfold is2; rw [e]; simp [cont]; omega
    unfold decN decR
    rw [e]
    simp only [i1, i2, if_true, Bool.false_eq_true, if_false]
    simp
  by_cases c : r < 65536
  · simp only [if_neg a, if_neg b, if_pos c]
    have i1 : is1 ([224 + r / 4096, 128 + r / 64 % 64, 128 + r % 64] ++ t) = false := by unfold is1; simp; omega
    have i2 : is2 ([224 + r / 4096, 128 + r / 64 % 64, 128 + r % 64] ++ t) = false := by unfold is2; simp; omega
    have e : r3 ([224 + r / 4096, 128 + r / 64 % 64, 128 + r % 64] ++ t) = r := by simp [r3]; omega
    have i3 : is3 ([224 + r / 4096, 128 + r / 64 % 64, 128 + r % 64] ++ t) = true := by unfold is3; rw [e]; simp [cont, h]; omega
    unfold decN decR
    rw [e]
    simp only [i1, i2, i3, if_true, Bool.false_eq_true, if_false]
    simp
  · simp only [if_neg a, if_neg b, if_neg c]
    have i1 : is1 ([240 + r / 262144, 128 + r / 4096 % 64, 128 + r / 64 % 64, 128 + r % 64] ++ t) = false := by unfold is1; simp; omega
    have i2 : is2 ([240 + r / 262144, 128 + r / 4096 % 64, 128 + r / 64 % 64, 128 + r % 64] ++ t) = false := by unfold is2; simp; omega
    have i3 : is3 ([240 + r / 262144, 128 + r / 4096 % 64, 128 + r / 64 % 64, 128 + r % 64] ++ t) = false := by unfold is3; simp; omega
    have e : r4 ([240 + r / 262144, 128 + r / 4096 % 64, 128 + r / 64 % 64, 128 + r % 64] ++ t) = r := by simp [r4]; omega
    have i4 : is4 ([240 + r / 262144, 128 + r / 4096 % 64, 128 + r / 64 % 64, 128 + r % 64] ++ t) = true := by unfold is4; rw [e]; simp [cont, h]; omega
    unfold decN decR
    rw [e]
    simp only [i1, i2, i3, i4, if_true, Bool.false_eq_true, if_false]
    simp

theorem encL_byte (l : List Int) (h : okL l = true) : ∀ x ∈ encL l, 0 ≤ x ∧ x < 256 := by
  induction l with
  | nil => simp [encL]
  | cons r l ih =>
    unfold okL at h
    simp only [List.all_cons, Bool.and_eq_true] at h
    intro x hx
    rcases List.mem_append.1 hx with h' | h'
    · exact enc1_byte r h.1 x h'
    · exact ih h.2 x h'

theorem run_enc (l : List Int) (h : okL l = true) : ∀ f, (encL l).length ≤ f → runP f (encL l) = l ∧ runN f (encL l) = (encL l).length := by
  induction l with
  | nil => intro f _; simp [encL, runP_nil, runN_nil]
  | cons r l ih =>
    intro f hf
    have h' := h
    unfold okL at h'
    simp only [List.all_cons, Bool.and_eq_true] at h'
    obtain ⟨d1, d2⟩ := dec_enc r h'.1 (encL l)
    have hl : 1 ≤ (enc1 r).length := by
      have := enc1_len h'.1
      have h2 : 1 ≤ lenOf r := by
        unfold lenOf; rw [if_pos h'.1]; split
        · omega
        · split
          · omega
          · split <;> omega
      omega
    simp only [encL, List.length_append] at hf ⊢
    match f, hf with
    | 0, hf => omega
    | f + 1, hf =>
      simp only [runP, runN, d1, d2]
      rw [if_neg (by omega), if_neg (by omega)]
      have hdrop : (enc1 r ++ encL l).drop ((enc1 r).length : Int).toNat = encL l := by simp
      rw [hdrop]
      obtain ⟨i1, i2⟩ := ih h'.2 f (by omega)
      rw [i1, i2]
      exact ⟨rfl, by simp⟩
end Go.Proofs.Ytegpdppfdgcljaa
