/- Spaces and hyphens that mean nothing, plainly: what is told of them, for any marks. -/
import Derived.Test.YtdlbdfndnjdeeaaBase
namespace Go.Proofs.Ytdlbdfndnjdeeaa

section
variable (M : Int → Bool)
/-- No mark stands first. -/
def fre : List Int → Bool
  | [] => true
  | y :: _ => !M y
def hy (x : Int) : Bool := decide (x = 45 ∨ x = 8208 ∨ x = 8722)
/-- Is x, ahead of t, a space; a hyphen? -/
def sp (x : Int) (t : List Int) : Bool := decide (x = 32) && fre M t
def hp (x : Int) (t : List Int) : Bool := hy x && fre M t
def numL : List Int → List Int
  | [] => []
  | x :: t => if sp M x t then numL t else x :: numL t
def phL : List Int → List Int
  | [] => []
  | x :: t => if sp M x t || hp M x t then phL t else x :: phL t
/-- The words, two spaces between each two: s: has a word begun; o: was the last a space? -/
def inn : Bool → Bool → List Int → List Int
  | _, _, [] => []
  | s, o, x :: t => if sp M x t then inn s true t else (if o && s then [32, 32] else []) ++ x :: inn true false t
def firmL (l : List Int) : List Int := if fre M l then l else 32 :: l
def valL (l : List Int) : List Int := 32 :: (inn M false false (firmL M l) ++ [32])
def spF : List Int → Bool
  | [] => false
  | x :: t => sp M x t
def lastSp (l : List Int) : Bool := decide (l.getLast? = some 32)
/-- A piece, of characters that are firm where they must be. -/
def pieM (k : Int) (l : List Int) : List Int :=
  if inn M false false l = [] then (if l ≠ [] ∨ k ≠ 2 then [32] else [])
  else (if k = 1 ∨ spF M l = true then [32] else []) ++ (inn M false false l ++ (if k = 3 ∨ lastSp l = true then [32] else []))
def pieL (k : Int) (l : List Int) : List Int := if k = 1 then pieM M 1 (firmL M l) else if k = 2 ∨ k = 3 then pieM M k l else []
end

section
variable {M : Int → Bool}
theorem sp_iff {x : Int} {t : List Int} : sp M x t = true ↔ x = 32 ∧ fre M t = true := by simp [sp]
theorem sp_fre {x : Int} {t : List Int} (h : sp M x t = true) : fre M t = true := (sp_iff.1 h).2
theorem inn_sp {s o : Bool} {x : Int} {t : List Int} (h : sp M x t = true) : inn M s o (x :: t) = inn M s true t := by simp [inn, h]
theorem inn_no {s o : Bool} {x : Int} {t : List Int} (h : sp M x t = false) : inn M s o (x :: t) = (if o && s then [32, 32] else []) ++ x :: inn M true false t := by simp [inn, h]
theorem num_sp {x : Int} {t : List Int} (h : sp M x t = true) : numL M (x :: t) = numL M t := by simp [numL, h]
theorem num_no {x : Int} {t : List Int} (h : sp M x t = false) : numL M (x :: t) = x :: numL M t := by simp [numL, h]
theorem fre_firm (h0 : M 32 = false) (l : List Int) : fre M (firmL M l) = true := by
  unfold firmL
  split
  · assumption
  · simp [fre, h0]
/-- Where no mark stands first, none stands first of the words. -/
theorem fre_inn (Z : List Int) (hZ : fre M Z = true) : ∀ (t : List Int) (o : Bool), fre M t = true → fre M (inn M false o t ++ Z) = true
  | [], _, _ => hZ
  | x :: t, o, h => by
    cases hs : sp M x t
    · rw [inn_no hs]
      simp only [Bool.and_false, Bool.false_eq_true, if_false, List.nil_append, List.cons_append]
      exact h
    · rw [inn_sp hs]
      exact fre_inn Z hZ t true (sp_fre hs)
/-- What is no space stays none. -/
theorem sp_keep (h0 : M 32 = false) (Z : List Int) {x : Int} {t : List Int} (h : sp M x t = false) : sp M x (inn M true false t ++ Z) = false := by
  by_cases hx : x = 32
  · cases t with
    | nil => simp [sp, fre, hx] at h
    | cons y t =>
      have hy : M y = true := by simpa [sp, fre, hx] using h
      have hn : y ≠ 32 := fun e => by rw [e, h0] at hy; cases hy
      have hs : sp M y t = false := by simp [sp, hn]
      rw [inn_no hs]
      simp [sp, fre, hy]
  · simp [sp, hx]
theorem inn_end (s o : Bool) (Z : List Int) (hZ : Z = [] ∨ Z = [32]) : inn M s o Z = [] := by
  rcases hZ with rfl | rfl
  · rfl
  · rw [inn_sp (by simp [sp, fre])]; rfl
theorem again_t (h0 : M 32 = false) (Z : List Int) (hZ : Z = [] ∨ Z = [32]) : ∀ (t : List Int) (o : Bool), (o = true → fre M t = true) → inn M true false (inn M true o t ++ Z) = inn M true o t
  | [], _, _ => inn_end _ _ Z hZ
  | x :: t, o, h => by
    cases hs : sp M x t
    · rw [inn_no hs]
      have ih := again_t h0 Z hZ t false (fun h => by cases h)
      have hk := sp_keep h0 Z hs
      cases o
      · simp only [Bool.false_and, Bool.false_eq_true, if_false, List.nil_append, List.cons_append]
        rw [inn_no hk, ih]
        rfl
      · have hm : M x = false := by simpa [fre] using h rfl
        simp only [Bool.true_and, if_true, List.cons_append, List.nil_append]
        rw [inn_sp (by simp [sp, fre, h0]), inn_sp (by simp [sp, fre, hm]), inn_no hk, ih]
        rfl
    · rw [inn_sp hs]
      exact again_t h0 Z hZ t true fun _ => sp_fre hs
theorem again_f (h0 : M 32 = false) (Z : List Int) (hZ : Z = [] ∨ Z = [32]) : ∀ (t : List Int) (o o' : Bool), inn M false o' (inn M false o t ++ Z) = inn M false o t
  | [], _, _ => inn_end _ _ Z hZ
  | x :: t, o, o' => by
    cases hs : sp M x t
    · rw [inn_no hs]
      have ih := again_t h0 Z hZ t false (fun h => by cases h)
      have hk := sp_keep h0 Z hs
      simp only [Bool.and_false, Bool.false_eq_true, if_false, List.nil_append, List.cons_append]
      rw [inn_no hk, ih]
      simp
    · rw [inn_sp hs]
      exact again_f h0 Z hZ t true o'
/-- P11.5: a value of a value. -/
theorem val_again (h0 : M 32 = false) (l : List Int) : valL M (valL M l) = valL M l := by
  have hf : firmL M (valL M l) = valL M l := by
    unfold firmL
    rw [if_pos (by simp [valL, fre, h0])]
  unfold valL
  rw [show firmL M (32 :: (inn M false false (firmL M l) ++ [32])) = _ from hf]
  show 32 :: (inn M false false (32 :: (inn M false false (firmL M l) ++ [32])) ++ [32]) = _
  rw [inn_sp (by rw [sp_iff]; exact ⟨rfl, fre_inn [32] (by simp [fre, h0]) _ _ (fre_firm h0 l)⟩), again_f h0 [32] (.inr rfl)]
theorem keep_num (h0 : M 32 = false) {x : Int} {t : List Int} (h : sp M x t = false) : sp M x (numL M t) = false := by
  by_cases hx : x = 32
  · cases t with
    | nil => simp [sp, fre, hx] at h
    | cons y t =>
      have hy : M y = true := by simpa [sp, fre, hx] using h
      have hn : y ≠ 32 := fun e => by rw [e, h0] at hy; cases hy
      have hs : sp M y t = false := by simp [sp, hn]
      rw [num_no hs]
      simp [sp, fre, hy]
  · simp [sp, hx]
theorem num_again (h0 : M 32 = false) : ∀ l : List Int, numL M (numL M l) = numL M l
  | [] => rfl
  | x :: t => by
    cases hs : sp M x t
    · rw [num_no hs, num_no (keep_num h0 hs), num_again h0 t]
    · rw [num_sp hs, num_again h0 t]
theorem keep_ph (h0 : M 32 = false) (hh : ∀ y, hy y = true → M y = false) {x : Int} {t : List Int} (h : (sp M x t || hp M x t) = false) : (sp M x (phL M t) || hp M x (phL M t)) = false := by
  cases t with
  | nil => exact h
  | cons y t =>
    cases hm : M y
    · have hf : fre M (y :: t) = true := by simp [fre, hm]
      have h1 : decide (x = 32) = false ∧ hy x = false := by simpa [sp, hp, hf] using h
      simp [sp, hp, h1.1, h1.2]
    · have hn : y ≠ 32 := fun e => by rw [e, h0] at hm; cases hm
      have hny : hy y = false := by
        cases e : hy y
        · rfl
        · rw [hh y e] at hm; cases hm
      have hs : (sp M y t || hp M y t) = false := by simp [sp, hp, hn, hny]
      have e : phL M (y :: t) = y :: phL M t := by simp only [phL, hs]; rfl
      rw [e]
      simp [sp, hp, fre, hm]
theorem ph_again (h0 : M 32 = false) (hh : ∀ y, hy y = true → M y = false) : ∀ l : List Int, phL M (phL M l) = phL M l
  | [] => rfl
  | x :: t => by
    cases hs : (sp M x t || hp M x t)
    · have e : phL M (x :: t) = x :: phL M t := by simp only [phL, hs]; rfl
      have hk := keep_ph h0 hh hs
      have e2 : phL M (x :: phL M t) = x :: phL M (phL M t) := by simp only [phL, hk]; rfl
      rw [e, e2, ph_again h0 hh t]
    · have e : phL M (x :: t) = phL M t := by simp only [phL, hs]; rfl
      rw [e, ph_again h0 hh t]
theorem num_end (Z : List Int) (hZ : Z = [] ∨ Z = [32]) : numL M Z = [] := by
  rcases hZ with rfl | rfl
  · rfl
  · rw [num_sp (by simp [sp, fre])]; rfl
theorem num_inn (h0 : M 32 = false) (Z : List Int) (hZ : Z = [] ∨ Z = [32]) : ∀ (t : List Int) (s o : Bool), (o = true → fre M t = true) → numL M (inn M s o t ++ Z) = numL M t
  | [], _, _, _ => num_end Z hZ
  | x :: t, s, o, h => by
    cases hs : sp M x t
    · have ih := num_inn h0 Z hZ t true false (fun h => by cases h)
      have hk := sp_keep h0 Z hs
      rw [inn_no hs, num_no hs]
      by_cases hos : (o && s) = true
      · have ho : o = true := by cases o <;> simp_all
        have hm : M x = false := by simpa [fre] using h ho
        rw [if_pos hos]
        simp only [List.cons_append, List.nil_append]
        rw [num_sp (by simp [sp, fre, h0]), num_sp (by simp [sp, fre, hm]), num_no hk, ih]
      · rw [if_neg hos]
        simp only [List.cons_append, List.nil_append]
        rw [num_no hk, ih]
    · rw [inn_sp hs, num_sp hs]
      exact num_inn h0 Z hZ t s true fun _ => sp_fre hs
theorem num_firm (l : List Int) : numL M (firmL M l) = if fre M l then numL M l else 32 :: numL M l := by
  unfold firmL
  split
  · rfl
  · rename_i h
    rw [num_no (by simpa [sp] using h)]
/-- P11.6: all that is no space stays. -/
theorem num_val (h0 : M 32 = false) (l : List Int) : numL M (valL M l) = if fre M l then numL M l else 32 :: numL M l := by
  unfold valL
  rw [num_sp (by rw [sp_iff]; exact ⟨rfl, fre_inn [32] (by simp [fre, h0]) _ _ (fre_firm h0 l)⟩), num_inn h0 [32] (.inr rfl) _ _ _ (fun h => by cases h), num_firm]
theorem fre_mid (a c d : List Int) : fre M (a ++ 32 :: c) = fre M (a ++ 32 :: d) := by cases a <;> rfl
theorem sp_mid (x : Int) (a c d : List Int) : sp M x (a ++ 32 :: c) = sp M x (a ++ 32 :: d) := by unfold sp; rw [fre_mid a c d]
theorem inn_more (h0 : M 32 = false) (b : List Int) (hb : fre M b = true) : ∀ (a : List Int) (s o : Bool), inn M s o (a ++ 32 :: 32 :: b) = inn M s o (a ++ 32 :: b)
  | [], s, o => by
    show inn M s o (32 :: 32 :: b) = inn M s o (32 :: b)
    rw [inn_sp (by simp [sp, fre, h0]), inn_sp (by simp [sp, hb]), inn_sp (by simp [sp, hb])]
  | x :: a, s, o => by
    show inn M s o (x :: (a ++ 32 :: 32 :: b)) = inn M s o (x :: (a ++ 32 :: b))
    have e := sp_mid (M := M) x a (32 :: b) b
    cases hs : sp M x (a ++ 32 :: b)
    · rw [inn_no (e.trans hs), inn_no hs, inn_more h0 b hb a]
    · rw [inn_sp (e.trans hs), inn_sp hs, inn_more h0 b hb a]
/-- P11.6: a space more changes nothing. -/
theorem val_more (h0 : M 32 = false) (a b : List Int) (hb : fre M b = true) : valL M (a ++ 32 :: 32 :: b) = valL M (a ++ 32 :: b) := by
  unfold valL firmL
  rw [fre_mid a (32 :: b) b]
  split
  · rw [inn_more h0 b hb]
  · rw [show 32 :: (a ++ 32 :: 32 :: b) = (32 :: a) ++ 32 :: 32 :: b from rfl, inn_more h0 b hb]; rfl
theorem inn_app (h0 : M 32 = false) (c : List Int) (hc : fre M c = true) : ∀ (a : List Int) (s o : Bool), inn M s o (a ++ 32 :: c) = inn M s o a ++ inn M (s || decide (inn M s o a ≠ [])) true c
  | [], s, o => by
    show inn M s o (32 :: c) = [] ++ inn M (s || decide (([] : List Int) ≠ [])) true c
    rw [inn_sp (by simp [sp, hc])]
    simp
  | x :: a, s, o => by
    show inn M s o (x :: (a ++ 32 :: c)) = _
    have e : sp M x (a ++ 32 :: c) = sp M x a := by
      unfold sp
      congr 1
      cases a with
      | nil => simp [fre, h0]
      | cons y a => rfl
    cases hs : sp M x a
    · rw [inn_no (e.trans hs), inn_no hs, inn_app h0 c hc a]
      simp
    · rw [inn_sp (e.trans hs), inn_sp hs, inn_app h0 c hc a]
theorem inn_open : ∀ (c : List Int) (o : Bool), inn M true true c = if inn M false o c = [] then [] else 32 :: 32 :: inn M false o c
  | [], _ => rfl
  | x :: c, o => by
    cases hs : sp M x c
    · rw [inn_no hs, inn_no hs]; simp
    · rw [inn_sp hs, inn_sp hs]; exact inn_open c true
theorem inn_ne (h0 : M 32 = false) (l : List Int) (h : numL M l ≠ []) : inn M false false l ≠ [] := fun e => by
  have := num_inn h0 [] (.inl rfl) l false false (fun h => by cases h)
  rw [e] at this
  exact h this.symm
theorem firm_app (a d : List Int) (h : a ≠ []) : firmL M (a ++ d) = firmL M a ++ d := by
  obtain ⟨x, t, rfl⟩ := List.exists_cons_of_ne_nil h
  unfold firmL
  show (if fre M (x :: t) then _ else _) = _
  split <;> rfl
/-- P11.7: a value of three that spaces part. -/
theorem val_three (h0 : M 32 = false) (a b c : List Int) (ha : numL M a ≠ []) (hb : numL M b ≠ []) (hc : numL M c ≠ []) (fb : fre M b = true) (fc : fre M c = true) :
    valL M (a ++ 32 :: (b ++ 32 :: c)) = 32 :: (inn M false false (firmL M a) ++ 32 :: 32 :: (inn M false false b ++ 32 :: 32 :: (inn M false false c ++ [32]))) := by
  have hane : a ≠ [] := fun e => ha (by rw [e]; rfl)
  have nA : inn M false false (firmL M a) ≠ [] := inn_ne h0 _ (by rw [num_firm]; split; exact ha; simp)
  have nB := inn_ne h0 b hb
  have nC := inn_ne h0 c hc
  have hbne : b ≠ [] := fun e => hb (by rw [e]; rfl)
  have f2 : fre M (b ++ 32 :: c) = true := by
    obtain ⟨x, t, rfl⟩ := List.exists_cons_of_ne_nil hbne
    exact fb
  have e1 : inn M true true (b ++ 32 :: c) = 32 :: 32 :: (inn M false false b ++ 32 :: 32 :: inn M false false c) := by
    rw [inn_app h0 c fc]
    simp only [Bool.true_or]
    rw [inn_open b false, if_neg nB, inn_open c false, if_neg nC]
    rfl
  unfold valL
  rw [firm_app a _ hane, inn_app h0 _ f2]
  simp only [Bool.false_or, ne_eq, nA, not_false_eq_true, decide_true]
  rw [e1]
  simp
theorem pie_one (h0 : M 32 = false) (a : List Int) (ha : numL M a ≠ []) : ∃ e, (e = [] ∨ e = [32]) ∧ pieL M 1 a = 32 :: (inn M false false (firmL M a) ++ e) := by
  have nA : inn M false false (firmL M a) ≠ [] := inn_ne h0 _ (by rw [num_firm]; split; exact ha; simp)
  refine ⟨if (1 : Int) = 3 ∨ lastSp (firmL M a) = true then [32] else [], by split <;> simp, ?_⟩
  unfold pieL pieM
  rw [if_pos rfl, if_neg nA, if_pos (.inl rfl)]
  rfl
theorem pie_two (h0 : M 32 = false) (b : List Int) (hb : numL M b ≠ []) : ∃ e f, (e = [] ∨ e = [32]) ∧ (f = [] ∨ f = [32]) ∧ pieL M 2 b = e ++ (inn M false false b ++ f) := by
  have nB := inn_ne h0 b hb
  refine ⟨if (2 : Int) = 1 ∨ spF M b = true then [32] else [], if (2 : Int) = 3 ∨ lastSp b = true then [32] else [], by split <;> simp, by split <;> simp, ?_⟩
  unfold pieL pieM
  rw [if_neg (by decide), if_pos (.inl rfl), if_neg nB]
theorem pie_three (h0 : M 32 = false) (c : List Int) (hc : numL M c ≠ []) : ∃ e, (e = [] ∨ e = [32]) ∧ pieL M 3 c = e ++ (inn M false false c ++ [32]) := by
  have nC := inn_ne h0 c hc
  refine ⟨if (3 : Int) = 1 ∨ spF M c = true then [32] else [], by split <;> simp, ?_⟩
  unfold pieL pieM
  rw [if_neg (by decide), if_pos (.inr rfl), if_neg nC]
  simp
/-- P11.7: the beginning's piece stands first, the end's last, the midst's between. -/
theorem pieces_in (h0 : M 32 = false) (a b c : List Int) (ha : numL M a ≠ []) (hb : numL M b ≠ []) (hc : numL M c ≠ []) (fb : fre M b = true) (fc : fre M c = true) :
    (∃ r, valL M (a ++ 32 :: (b ++ 32 :: c)) = pieL M 1 a ++ r) ∧ (∃ p, valL M (a ++ 32 :: (b ++ 32 :: c)) = p ++ pieL M 3 c) ∧ ∃ p r, valL M (a ++ 32 :: (b ++ 32 :: c)) = p ++ (pieL M 2 b ++ r) := by
  rw [val_three h0 a b c ha hb hc fb fc]
  obtain ⟨e1, he1, p1⟩ := pie_one h0 a ha
  obtain ⟨e2, f2, he2, hf2, p2⟩ := pie_two h0 b hb
  obtain ⟨e3, he3, p3⟩ := pie_three h0 c hc
  rw [p1, p2, p3]
  generalize inn M false false (firmL M a) = A
  generalize inn M false false b = B
  generalize inn M false false c = C
  refine ⟨?_, ?_, ?_⟩
  · rcases he1 with rfl | rfl
    · exact ⟨32 :: 32 :: (B ++ 32 :: 32 :: (C ++ [32])), by simp⟩
    · exact ⟨32 :: (B ++ 32 :: 32 :: (C ++ [32])), by simp⟩
  · rcases he3 with rfl | rfl
    · exact ⟨32 :: (A ++ 32 :: 32 :: (B ++ [32, 32])), by simp⟩
    · exact ⟨32 :: (A ++ 32 :: 32 :: (B ++ [32])), by simp⟩
  · rcases he2 with rfl | rfl <;> rcases hf2 with rfl | rfl
    · exact ⟨32 :: (A ++ [32, 32]), 32 :: 32 :: (C ++ [32]), by simp⟩
    · exact ⟨32 :: (A ++ [32, 32]), 32 :: (C ++ [32]), by simp⟩
    · exact ⟨32 :: (A ++ [32]), 32 :: 32 :: (C ++ [32]), by simp⟩
    · exact ⟨32 :: (A ++ [32]), 32 :: (C ++ [32]), by simp⟩
theorem spF_inn (h0 : M 32 = false) (Z : List Int) : ∀ (t : List Int) (o : Bool), inn M false o t ≠ [] → spF M (inn M false o t ++ Z) = false
  | [], _, h => absurd rfl h
  | x :: t, o, h => by
    cases hs : sp M x t
    · rw [inn_no hs]
      simp only [Bool.and_false, Bool.false_eq_true, if_false, List.nil_append, List.cons_append, spF]
      exact sp_keep h0 Z hs
    · rw [inn_sp hs] at h ⊢
      exact spF_inn h0 Z t true h
theorem last_inn (h0 : M 32 = false) : ∀ (t : List Int) (s o : Bool), inn M s o t ≠ [] → (inn M s o t).getLast? ≠ some 32
  | [], _, _, h => absurd rfl h
  | x :: t, s, o, h => by
    cases hs : sp M x t
    · rw [inn_no hs]
      by_cases hR : inn M true false t = []
      · rw [hR]
        have hx : x ≠ 32 := fun e => by
          have := sp_keep h0 [] hs
          rw [hR] at this
          simp [sp, fre, e] at this
        simpa using hx
      · have := last_inn h0 t true false hR
        obtain ⟨y, u, e⟩ := List.exists_cons_of_ne_nil hR
        rw [e] at this ⊢
        simpa using this
    · rw [inn_sp hs] at h ⊢
      exact last_inn h0 t s true h
theorem pieM_again (h0 : M 32 = false) (k : Int) (l : List Int) (hk : k = 1 → fre M l = true) : pieM M k (pieM M k l) = pieM M k l ∧ (k = 1 → fre M (pieM M k l) = true) := by
  by_cases hm : inn M false false l = []
  · have e : pieM M k l = if l ≠ [] ∨ k ≠ 2 then [32] else [] := by unfold pieM; rw [if_pos hm]
    rw [e]
    by_cases hc : l ≠ [] ∨ k ≠ 2
    · rw [if_pos hc]
      refine ⟨?_, fun _ => by simp [fre, h0]⟩
      unfold pieM
      rw [if_pos (inn_end _ _ [32] (.inr rfl)), if_pos (.inl (by simp))]
    · rw [if_neg hc]
      have : k = 2 := by
        by_cases h : k = 2
        · exact h
        · exact absurd (.inr h) hc
      subst this
      exact ⟨rfl, fun _ => rfl⟩
  · obtain ⟨A, hA⟩ : ∃ A, A = (if k = 1 ∨ spF M l = true then [32] else [] : List Int) := ⟨_, rfl⟩
    obtain ⟨Z, hZ⟩ : ∃ Z, Z = (if k = 3 ∨ lastSp l = true then [32] else [] : List Int) := ⟨_, rfl⟩
    have hZ2 : Z = [] ∨ Z = [32] := by rw [hZ]; split <;> simp
    have hfZ : fre M Z = true := by rcases hZ2 with e | e <;> rw [e] <;> simp [fre, h0]
    have e : pieM M k l = A ++ (inn M false false l ++ Z) := by unfold pieM; rw [if_neg hm, ← hA, ← hZ]
    have hfm : k = 1 ∨ spF M l = true → fre M (inn M false false l ++ Z) = true := by
      rintro (h | h)
      · exact fre_inn Z hfZ l false (hk h)
      · cases l with
        | nil => simp [spF] at h
        | cons x t =>
          have h' : sp M x t = true := h
          rw [inn_sp h']
          exact fre_inn Z hfZ t true (sp_fre h')
    have hin : inn M false false (A ++ (inn M false false l ++ Z)) = inn M false false l := by
      by_cases hc : k = 1 ∨ spF M l = true
      · rw [hA, if_pos hc]
        show inn M false false (32 :: (inn M false false l ++ Z)) = _
        rw [inn_sp (by rw [sp_iff]; exact ⟨rfl, hfm hc⟩), again_f h0 Z hZ2]
      · rw [hA, if_neg hc]
        exact again_f h0 Z hZ2 l false false
    have hAA : (if k = 1 ∨ spF M (A ++ (inn M false false l ++ Z)) = true then [32] else [] : List Int) = A := by
      by_cases hc : k = 1 ∨ spF M l = true
      · rw [hA, if_pos hc, if_pos]
        right
        show sp M 32 (inn M false false l ++ Z) = true
        rw [sp_iff]
        exact ⟨rfl, hfm hc⟩
      · rw [hA, if_neg hc, if_neg]
        rintro (h | h)
        · exact hc (.inl h)
        · rw [List.nil_append, spF_inn h0 Z l false hm] at h
          cases h
    have hZZ : (if k = 3 ∨ lastSp (A ++ (inn M false false l ++ Z)) = true then [32] else [] : List Int) = Z := by
      by_cases hc : k = 3 ∨ lastSp l = true
      · rw [hZ, if_pos hc, if_pos]
        right
        simp [lastSp]
      · rw [hZ, if_neg hc, if_neg]
        rintro (h | h)
        · exact hc (.inl h)
        · have hl := last_inn h0 l false false hm
          obtain ⟨y, u, e2⟩ := List.exists_cons_of_ne_nil hm
          rw [e2] at h hl
          refine hl ?_
          simpa [lastSp] using h
    rw [e]
    refine ⟨?_, fun h1 => ?_⟩
    · have : pieM M k (A ++ (inn M false false l ++ Z)) = (if k = 1 ∨ spF M (A ++ (inn M false false l ++ Z)) = true then [32] else []) ++ (inn M false false l ++ (if k = 3 ∨ lastSp (A ++ (inn M false false l ++ Z)) = true then [32] else [])) := by
        conv => lhs; unfold pieM
        rw [hin, if_neg hm]
      rw [this, hAA, hZZ]
    · rw [hA, if_pos (.inl h1)]
      simp [fre, h0]
theorem firm_id {l : List Int} (h : fre M l = true) : firmL M l = l := by
  unfold firmL
  rw [if_pos h]
/-- P11.5: a piece of a piece. -/
theorem pie_again (h0 : M 32 = false) (k : Int) (l : List Int) : pieL M k (pieL M k l) = pieL M k l := by
  by_cases h1 : k = 1
  · subst h1
    obtain ⟨p1, p2⟩ := pieM_again h0 1 (firmL M l) fun _ => fre_firm h0 l
    unfold pieL
    rw [if_pos rfl, if_pos rfl]
    rw [firm_id (p2 rfl), p1]
  · by_cases h2 : k = 2 ∨ k = 3
    · have e : ∀ x, pieL M k x = pieM M k x := fun x => by unfold pieL; rw [if_neg h1, if_pos h2]
      rw [e, e]
      exact (pieM_again h0 k l fun h => absurd h h1).1
    · have e : ∀ x, pieL M k x = [] := fun x => by unfold pieL; rw [if_neg h1, if_neg h2]
      rw [e, e]
end
end Go.Proofs.Ytdlbdfndnjdeeaa
