/- Spaces and hyphens that mean nothing, plainly: what is told of them, for any marks. -/
import Derived.Test.YtefobkgifigclaaGreatDoorM01
import Derived.ScopeJumps
import Derived.WalkMore
namespace Go.Proofs.YtefobkgifigclaaGreatDoor
set_option maxRecDepth 100000

section
variable (M : Int → Bool)
/-- No mark stands first. -/
def fre : List Int → Bool
  | [] => true
  | y :: _ => !M y
def hy (x : Int) : Bool := decide (x = 45 ∨ x = 8208 ∨ x = 8722)
/-- Is x, ahead of t, a space; a hyphen? -/
def sp (x : Int) (t : List Int) : Bool := decide (x = 32) && fre M t
def hp (x : Int) (t : List Int) : Bool := hy x && fre M t
def numL : List Int → List Int
  | [] => []
  | x :: t => if sp M x t then numL t else x :: numL t
def phL : List Int → List Int
  | [] => []
  | x :: t => if sp M x t || hp M x t then phL t else x :: phL t
/-- The words, two spaces between each two: s: has a word begun; o: was the last a space? -/
def inn : Bool → Bool → List Int → List Int
  | _, _, [] => []
  | s, o, x :: t => if sp M x t then inn s true t else (if o && s then [32, 32] else []) ++ x :: inn true false t
def firmL (l : List Int) : List Int := if fre M l then l else 32 :: l
def valL (l : List Int) : List Int := 32 :: (inn M false false (firmL M l) ++ [32])
def spF : List Int → Bool
  | [] => false
  | x :: t => sp M x t
def lastSp (l : List Int) : Bool := decide (l.getLast? = some 32)
/-- A piece, of characters that are firm where they must be. -/
def pieM (k : Int) (l : List Int) : List Int :=
  if inn M false false l = [] then (if l ≠ [] ∨ k ≠ 2 then [32] else [])
  else (if k = 1 ∨ spF M l = true then [32] else []) ++ (inn M false false l ++ (if k = 3 ∨ lastSp l = true then [32] else []))
def pieL (k : Int) (l : List Int) : List Int := if k = 1 then pieM M 1 (firmL M l) else if k = 2 ∨ k = 3 then pieM M k l else []
end

section
variable {M : Int → Bool}
theorem sp_iff {x : Int} {t : List Int} : sp M x t = true ↔ x = 32 ∧ fre M t = true := by simp [sp]
theorem sp_fre {x : Int} {t : List Int} (h : sp M x t = true) : fre M t = true := (sp_iff.1 h).2
theorem inn_sp {s o : Bool} {x : Int} {t : List Int} (h : sp M x t = true) : inn M s o (x :: t) = inn M s true t := by simp [inn, h]
theorem inn_no {s o : Bool} {x : Int} {t : List Int} (h : sp M x t = false) : inn M s o (x :: t) = (if o && s then [32, 32] else []) ++ x :: inn M true false t := by simp [inn, h]
theorem num_sp {x : Int} {t : List Int} (h : sp M x t = true) : numL M (x :: t) = numL M t := by simp [numL, h]
theorem num_no {x : Int} {t : List Int} (h : sp M x t = false) : numL M (x :: t) = x :: numL M t := by simp [numL, h]
theorem fre_firm (h0 : M 32 = false) (l : List Int) : fre M (firmL M l) = true := by
  unfold firmL
  split
  · assumption
  · simp [fre, h0]
/-- Where no mark stands first, none stands first of the words. -/
theorem fre_inn (Z : List Int) (hZ : fre M Z = true) : ∀ (t : List Int) (o : Bool), fre M t = true → fre M (inn M false o t ++ Z) = true
  | [], _, _ => hZ
  | x :: t, o, h => by
    cases hs : sp M x t
    · rw [inn_no hs]
      simp only [Bool.and_false, Bool.false_eq_true, if_false, List.nil_append, List.cons_append]
      exact h
    · rw [inn_sp hs]
      exact fre_inn Z hZ t true (sp_fre hs)
/-- What is no space stays none. -/
theorem sp_keep (h0 : M 32 = false) (Z : List Int) {x : Int} {t : List Int} (h : sp M x t = false) : sp M x (inn M true false t ++ Z) = false := by
  by_cases hx : x = 32
  · cases t with
    | nil => simp [sp, fre, hx] at h
    | cons y t =>
      have hy : M y = true := by simpa [sp, fre, hx] using h
      have hn : y ≠ 32 := fun e => by rw [e, h0] at hy; cases hy
      have hs : sp M y t = false := by simp [sp, hn]
      rw [inn_no hs]
      simp [sp, fre, hy]
  · simp [sp, hx]
theorem inn_end (s o : Bool) (Z : List Int) (hZ : Z = [] ∨ Z = [32]) : inn M s o Z = [] := by
  rcases hZ with rfl | rfl
  · rfl
  · rw [inn_sp (by simp [sp, fre])]; rfl
theorem again_t (h0 : M 32 = false) (Z : List Int) (hZ : Z = [] ∨ Z = [32]) : ∀ (t : List Int) (o : Bool), (o = true → fre M t = true) → inn M true false (inn M true o t ++ Z) = inn M true o t
  | [], _, _ => inn_end _ _ Z hZ
  | x :: t, o, h => by
    cases hs : sp M x t
    · rw [inn_no hs]
      have ih := again_t h0 Z hZ t false (fun h => by cases h)
      have hk := sp_keep h0 Z hs
      cases o
      · simp only [Bool.false_and, Bool.false_eq_true, if_false, List.nil_append, List.cons_append]
        rw [inn_no hk, ih]
        rfl
      · have hm : M x = false := by simpa [fre] using h rfl
        simp only [Bool.true_and, if_true, List.cons_append, List.nil_append]
        rw [inn_sp (by simp [sp, fre, h0]), inn_sp (by simp [sp, fre, hm]), inn_no hk, ih]
        rfl
    · rw [inn_sp hs]
      exact again_t h0 Z hZ t true fun _ => sp_fre hs
theorem again_f (h0 : M 32 = false) (Z : List Int) (hZ : Z = [] ∨ Z = [32]) : ∀ (t : List Int) (o o' : Bool), inn M false o' (inn M false o t ++ Z) = inn M false o t
  | [], _, _ => inn_end _ _ Z hZ
  | x :: t, o, o' => by
    cases hs : sp M x t
    · rw [inn_no hs]
      have ih := again_t h0 Z hZ t false (fun h => by cases h)
      have hk := sp_keep h0 Z hs
      simp only [Bool.and_false, Bool.false_eq_true, if_false, List.nil_append, List.cons_append]
      rw [inn_no hk, ih]
      simp
    · rw [inn_sp hs]
      exact again_f h0 Z hZ t true o'
/-- P11.5: a value of a value. -/
theorem val_again (h0 : M 32 = false) (l : List Int) : valL M (valL M l) = valL M l := by
  have hf : firmL M (valL M l) = valL M l := by
    unfold firmL
    rw [if_pos (by simp [valL, fre, h0])]
  unfold valL
  rw [show firmL M (32 :: (inn M false false (firmL M l) ++ [32])) = _ from hf]
  show 32 :: (inn M false false (32 :: (inn M false false (firmL M l) ++ [32])) ++ [32]) = _
  rw [inn_sp (by rw [sp_iff]; exact ⟨rfl, fre_inn [32] (by simp [fre, h0]) _ _ (fre_firm h0 l)⟩), again_f h0 [32] (.inr rfl)]
theorem keep_num (h0 : M 32 = false) {x : Int} {t : List Int} (h : sp M x t = false) : sp M x (numL M t) = false := by
  by_cases hx : x = 32
  · cases t with
    | nil => simp [sp, fre, hx] at h
    | cons y t =>
      have hy : M y = true := by simpa [sp, fre, hx] using h
      have hn : y ≠ 32 := fun e => by rw [e, h0] at hy; cases hy
      have hs : sp M y t = false := by simp [sp, hn]
      rw [num_no hs]
      simp [sp, fre, hy]
  · simp [sp, hx]
theorem num_again (h0 : M 32 = false) : ∀ l : List Int, numL M (numL M l) = numL M l
  | [] => rfl
  | x :: t => by
    cases hs : sp M x t
    · rw [num_no hs, num_no (keep_num h0 hs), num_again h0 t]
    · rw [num_sp hs, num_again h0 t]
theorem keep_ph (h0 : M 32 = false) (hh : ∀ y, hy y = true → M y = false) {x : Int} {t : List Int} (h : (sp M x t || hp M x t) = false) : (sp M x (phL M t) || hp M x (phL M t)) = false := by
  cases t with
  | nil => exact h
  | cons y t =>
    cases hm : M y
    · have hf : fre M (y :: t) = true := by simp [fre, hm]
      have h1 : decide (x = 32) = false ∧ hy x = false := by simpa [sp, hp, hf] using h
      simp [sp, hp, h1.1, h1.2]
    · have hn : y ≠ 32 := fun e => by rw [e, h0] at hm; cases hm
      have hny : hy y = false := by
        cases e : hy y
        · rfl
        · rw [hh y e] at hm; cases hm
      have hs : (sp M y t || hp M y t) = false := by simp [sp, hp, hn, hny]
      have e : phL M (y :: t) = y :: phL M t := by simp only [phL, hs]; rfl
      rw [e]
      simp [sp, hp, fre, hm]
theorem ph_again (h0 : M 32 = false) (hh : ∀ y, hy y = true → M y = false) : ∀ l : List Int, phL M (phL M l) = phL M l
  | [] => rfl
  | x :: t => by
    cases hs : (sp M x t || hp M x t)
    · have e : phL M (x :: t) = x :: phL M t := by simp only [phL, hs]; rfl
      have hk := keep_ph h0 hh hs
      have e2 : phL M (x :: phL M t) = x :: phL M (phL M t) := by simp only [phL, hk]; rfl
      rw [e, e2, ph_again h0 hh t]
    · have e : phL M (x :: t) = phL M t := by simp only [phL, hs]; rfl
      rw [e, ph_again h0 hh t]
theorem num_end (Z : List Int) (hZ : Z = [] ∨ Z = [32]) : numL M Z = [] := by
  rcases hZ with rfl | rfl
  · rfl
  · rw [num_sp (by simp [sp, fre])]; rfl
theorem num_inn (h0 : M 32 = false) (Z : List Int) (hZ : Z = [] ∨ Z = [32]) : ∀ (t : List Int) (s o : Bool), (o = true → fre M t = true) → numL M (inn M s o t ++ Z) = numL M t
  | [], _, _, _ => num_end Z hZ
  | x :: t, s, o, h => by
    cases hs : sp M x t
    · have ih := num_inn h0 Z hZ t true false (fun h => by cases h)
      have hk := sp_keep h0 Z hs
      rw [inn_no hs, num_no hs]
      by_cases hos : (o && s) = true
      · have ho : o = true := by cases o <;> simp_all
        have hm : M x = false := by simpa [fre] using h ho
        rw [if_pos hos]
        simp only [List.cons_append, List.nil_append]
        rw [num_sp (by simp [sp, fre, h0]), num_sp (by simp [sp, fre, hm]), num_no hk, ih]
      · rw [if_neg hos]
        simp only [List.cons_append, List.nil_append]
        rw [num_no hk, ih]
    · rw [inn_sp hs, num_sp hs]
      exact num_inn h0 Z hZ t s true fun _ => sp_fre hs
theorem num_firm (l : List Int) : numL M (firmL M l) = if fre M l then numL M l else 32 :: numL M l := by
  unfold firmL
  split
  · rfl
  · rename_i h
    rw [num_no (by simpa [sp] using h)]
/-- P11.6: all that is no space stays. -/
theorem num_val (h0 : M 32 = false) (l : List Int) : numL M (valL M l) = if fre M l then numL M l else 32 :: numL M l := by
  unfold valL
  rw [num_sp (by rw [sp_iff]; exact ⟨rfl, fre_inn [32] (by simp [fre, h0]) _ _ (fre_firm h0 l)⟩), num_inn h0 [32] (.inr rfl) _ _ _ (fun h => by cases h), num_firm]
theorem fre_mid (a c d : List Int) : fre M (a ++ 32 :: c) = fre M (a ++ 32 :: d) := by cases a <;> rfl
theorem sp_mid (x : Int) (a c d : List Int) : sp M x (a ++ 32 :: c) = sp M x (a ++ 32 :: d) := by unfold sp; rw [fre_mid a c d]
theorem inn_more (h0 : M 32 = false) (b : List Int) (hb : fre M b = true) : ∀ (a : List Int) (s o : Bool), inn M s o (a ++ 32 :: 32 :: b) = inn M s o (a ++ 32 :: b)
  | [], s, o => by
    show inn M s o (32 :: 32 :: b) = inn M s o (32 :: b)
    rw [inn_sp (by simp [sp, fre, h0]), inn_sp (by simp [sp, hb]), inn_sp (by simp [sp, hb])]
  | x :: a, s, o => by
    show inn M s o (x :: (a ++ 32 :: 32 :: b)) = inn M s o (x :: (a ++ 32 :: b))
    have e := sp_mid (M := M) x a (32 :: b) b
    cases hs : sp M x (a ++ 32 :: b)
    · rw [inn_no (e.trans hs), inn_no hs, inn_more h0 b hb a]
    · rw [inn_sp (e.trans hs), inn_sp hs, inn_more h0 b hb a]
/-- P11.6: a space more changes nothing. -/
theorem val_more (h0 : M 32 = false) (a b : List Int) (hb : fre M b = true) : valL M (a ++ 32 :: 32 :: b) = valL M (a ++ 32 :: b) := by
  unfold valL firmL
  rw [fre_mid a (32 :: b) b]
  split
  · rw [inn_more h0 b hb]
  · rw [show 32 :: (a ++ 32 :: 32 :: b) = (32 :: a) ++ 32 :: 32 :: b from rfl, inn_more h0 b hb]; rfl
theorem inn_app (h0 : M 32 = false) (c : List Int) (hc : fre M c = true) : ∀ (a : List Int) (s o : Bool), inn M s o (a ++ 32 :: c) = inn M s o a ++ inn M (s || decide (inn M s o a ≠ [])) true c
  | [], s, o => by
    show inn M s o (32 :: c) = [] ++ inn M (s || decide (([] : List Int) ≠ [])) true c
    rw [inn_sp (by simp [sp, hc])]
    simp
  | x :: a, s, o => by
    show inn M s o (x :: (a ++ 32 :: c)) = _
    have e : sp M x (a ++ 32 :: c) = sp M x a := by
      unfold sp
      congr 1
      cases a with
      | nil => simp [fre, h0]
      | cons y a => rfl
    cases hs : sp M x a
    · rw [inn_no (e.trans hs), inn_no hs, inn_app h0 c hc a]
      simp
    · rw [inn_sp (e.trans hs), inn_sp hs, inn_app h0 c hc a]
theorem inn_open : ∀ (c : List Int) (o : Bool), inn M true true c = if inn M false o c = [] then [] else 32 :: 32 :: inn M false o c
  | [], _ => rfl
  | x :: c, o => by
    cases hs : sp M x c
    · rw [inn_no hs, inn_no hs]; simp
    · rw [inn_sp hs, inn_sp hs]; exact inn_open c true
theorem inn_ne (h0 : M 32 = false) (l : List Int) (h : numL M l ≠ []) : inn M false false l ≠ [] := fun e => by
  have := num_inn h0 [] (.inl rfl) l false false (fun h => by cases h)
  rw [e] at this
  exact h this.symm
theorem firm_app (a d : List Int) (h : a ≠ []) : firmL M (a ++ d) = firmL M a ++ d := by
  obtain ⟨x, t, rfl⟩ := List.exists_cons_of_ne_nil h
  unfold firmL
  show (if fre M (x :: t) then _ else _) = _
  split <;> rfl
/-- P11.7: a value of three that spaces part. -/
theorem val_three (h0 : M 32 = false) (a b c : List Int) (ha : numL M a ≠ []) (hb : numL M b ≠ []) (hc : numL M c ≠ []) (fb : fre M b = true) (fc : fre M c = true) :
    valL M (a ++ 32 :: (b ++ 32 :: c)) = 32 :: (inn M false false (firmL M a) ++ 32 :: 32 :: (inn M false false b ++ 32 :: 32 :: (inn M false false c ++ [32]))) := by
  have hane : a ≠ [] := fun e => ha (by rw [e]; rfl)
  have nA : inn M false false (firmL M a) ≠ [] := inn_ne h0 _ (by rw [num_firm]; split; exact ha; simp)
  have nB := inn_ne h0 b hb
  have nC := inn_ne h0 c hc
  have hbne : b ≠ [] := fun e => hb (by rw [e]; rfl)
  have f2 : fre M (b ++ 32 :: c) = true := by
    obtain ⟨x, t, rfl⟩ := List.exists_cons_of_ne_nil hbne
    exact fb
  have e1 : inn M true true (b ++ 32 :: c) = 32 :: 32 :: (inn M false false b ++ 32 :: 32 :: inn M false false c) := by
    rw [inn_app h0 c fc]
    simp only [Bool.true_or]
    rw [inn_open b false, if_neg nB, inn_open c false, if_neg nC]
    rfl
  unfold valL
  rw [firm_app a _ hane, inn_app h0 _ f2]
  simp only [Bool.false_or, ne_eq, nA, not_false_eq_true, decide_true]
  rw [e1]
  simp
theorem pie_one (h0 : M 32 = false) (a : List Int) (ha : numL M a ≠ []) : ∃ e, (e = [] ∨ e = [32]) ∧ pieL M 1 a = 32 :: (inn M false false (firmL M a) ++ e) := by
  have nA : inn M false false (firmL M a) ≠ [] := inn_ne h0 _ (by rw [num_firm]; split; exact ha; simp)
  refine ⟨if (1 : Int) = 3 ∨ lastSp (firmL M a) = true then [32] else [], by split <;> simp, ?_⟩
  unfold pieL pieM
  rw [if_pos rfl, if_neg nA, if_pos (.inl rfl)]
  rfl
theorem pie_two (h0 : M 32 = false) (b : List Int) (hb : numL M b ≠ []) : ∃ e f, (e = [] ∨ e = [32]) ∧ (f = [] ∨ f = [32]) ∧ pieL M 2 b = e ++ (inn M false false b ++ f) := by
  have nB := inn_ne h0 b hb
  refine ⟨if (2 : Int) = 1 ∨ spF M b = true then [32] else [], if (2 : Int) = 3 ∨ lastSp b = true then [32] else [], by split <;> simp, by split <;> simp, ?_⟩
  unfold pieL pieM
  rw [if_neg (by decide), if_pos (.inl rfl), if_neg nB]
theorem pie_three (h0 : M 32 = false) (c : List Int) (hc : numL M c ≠ []) : ∃ e, (e = [] ∨ e = [32]) ∧ pieL M 3 c = e ++ (inn M false false c ++ [32]) := by
  have nC := inn_ne h0 c hc
  refine ⟨if (3 : Int) = 1 ∨ spF M c = true then [32] else [], by split <;> simp, ?_⟩
  unfold pieL pieM
  rw [if_neg (by decide), if_pos (.inr rfl), if_neg nC]
  simp
/-- P11.7: the beginning's piece stands first, the end's last, the midst's between. -/
theorem pieces_in (h0 : M 32 = false) (a b c : List Int) (ha : numL M a ≠ []) (hb : numL M b ≠ []) (hc : numL M c ≠ []) (fb : fre M b = true) (fc : fre M c = true) :
    (∃ r, valL M (a ++ 32 :: (b ++ 32 :: c)) = pieL M 1 a ++ r) ∧ (∃ p, valL M (a ++ 32 :: (b ++ 32 :: c)) = p ++ pieL M 3 c) ∧ ∃ p r, valL M (a ++ 32 :: (b ++ 32 :: c)) = p ++ (pieL M 2 b ++ r) := by
  rw [val_three h0 a b c ha hb hc fb fc]
  obtain ⟨e1, he1, p1⟩ := pie_one h0 a ha
  obtain ⟨e2, f2, he2, hf2, p2⟩ := pie_two h0 b hb
  obtain ⟨e3, he3, p3⟩ := pie_three h0 c hc
  rw [p1, p2, p3]
  generalize inn M false false (firmL M a) = A
  generalize inn M false false b = B
  generalize inn M false false c = C
  refine ⟨?_, ?_, ?_⟩
  · rcases he1 with rfl | rfl
    · exact ⟨32 :: 32 :: (B ++ 32 :: 32 :: (C ++ [32])), by simp⟩
    · exact ⟨32 :: (B ++ 32 :: 32 :: (C ++ [32])), by simp⟩
  · rcases he3 with rfl | rfl
    · exact ⟨32 :: (A ++ 32 :: 32 :: (B ++ [32, 32])), by simp⟩
    · exact ⟨32 :: (A ++ 32 :: 32 :: (B ++ [32])), by simp⟩
  · rcases he2 with rfl | rfl <;> rcases hf2 with rfl | rfl
    · exact ⟨32 :: (A ++ [32, 32]), 32 :: 32 :: (C ++ [32]), by simp⟩
    · exact ⟨32 :: (A ++ [32, 32]), 32 :: (C ++ [32]), by simp⟩
    · exact ⟨32 :: (A ++ [32]), 32 :: 32 :: (C ++ [32]), by simp⟩
    · exact ⟨32 :: (A ++ [32]), 32 :: (C ++ [32]), by simp⟩
theorem spF_inn (h0 : M 32 = false) (Z : List Int) : ∀ (t : List Int) (o : Bool), inn M false o t ≠ [] → spF M (inn M false o t ++ Z) = false
  | [], _, h => absurd rfl h
  | x :: t, o, h => by
    cases hs : sp M x t
    · rw [inn_no hs]
      simp only [Bool.and_false, Bool.false_eq_true, if_false, List.nil_append, List.cons_append, spF]
      exact sp_keep h0 Z hs
    · rw [inn_sp hs] at h ⊢
      exact spF_inn h0 Z t true h
theorem last_inn (h0 : M 32 = false) : ∀ (t : List Int) (s o : Bool), inn M s o t ≠ [] → (inn M s o t).getLast? ≠ some 32
  | [], _, _, h => absurd rfl h
  | x :: t, s, o, h => by
    cases hs : sp M x t
    · rw [inn_no hs]
      by_cases hR : inn M true false t = []
      · rw [hR]
        have hx : x ≠ 32 := fun e => by
          have := sp_keep h0 [] hs
          rw [hR] at this
          simp [sp, fre, e] at this
        simpa using hx
      · have := last_inn h0 t true false hR
        obtain ⟨y, u, e⟩ := List.exists_cons_of_ne_nil hR
        rw [e] at this ⊢
        simpa using this
    · rw [inn_sp hs] at h ⊢
      exact last_inn h0 t s true h
theorem pieM_again (h0 : M 32 = false) (k : Int) (l : List Int) (hk : k = 1 → fre M l = true) : pieM M k (pieM M k l) = pieM M k l ∧ (k = 1 → fre M (pieM M k l) = true) := by
  by_cases hm : inn M false false l = []
  · have e : pieM M k l = if l ≠ [] ∨ k ≠ 2 then [32] else [] := by unfold pieM; rw [if_pos hm]
    rw [e]
    by_cases hc : l ≠ [] ∨ k ≠ 2
    · rw [if_pos hc]
      refine ⟨?_, fun _ => by simp [fre, h0]⟩
      unfold pieM
      rw [if_pos (inn_end _ _ [32] (.inr rfl)), if_pos (.inl (by simp))]
    · rw [if_neg hc]
      have : k = 2 := by
        by_cases h : k = 2
        · exact h
        · exact absurd (.inr h) hc
      subst this
      exact ⟨rfl, fun _ => rfl⟩
  · obtain ⟨A, hA⟩ : ∃ A, A = (if k = 1 ∨ spF M l = true then [32] else [] : List Int) := ⟨_, rfl⟩
    obtain ⟨Z, hZ⟩ : ∃ Z, Z = (if k = 3 ∨ lastSp l = true then [32] else [] : List Int) := ⟨_, rfl⟩
    have hZ2 : Z = [] ∨ Z = [32] := by rw [hZ]; split <;> simp
    have hfZ : fre M Z = true := by rcases hZ2 with e | e <;> rw [e] <;> simp [fre, h0]
    have e : pieM M k l = A ++ (inn M false false l ++ Z) := by unfold pieM; rw [if_neg hm, ← hA, ← hZ]
    have hfm : k = 1 ∨ spF M l = true → fre M (inn M false false l ++ Z) = true := by
      rintro (h | h)
      · exact fre_inn Z hfZ l false (hk h)
      · cases l with
        | nil => simp [spF] at h
        | cons x t =>
          have h' : sp M x t = true := h
          rw [inn_sp h']
          exact fre_inn Z hfZ t true (sp_fre h')
    have hin : inn M false false (A ++ (inn M false false l ++ Z)) = inn M false false l := by
      by_cases hc : k = 1 ∨ spF M l = true
      · rw [hA, if_pos hc]
        show inn M false false (32 :: (inn M false false l ++ Z)) = _
        rw [inn_sp (by rw [sp_iff]; exact ⟨rfl, hfm hc⟩), again_f h0 Z hZ2]
      · rw [hA, if_neg hc]
        exact again_f h0 Z hZ2 l false false
    have hAA : (if k = 1 ∨ spF M (A ++ (inn M false false l ++ Z)) = true then [32] else [] : List Int) = A := by
      by_cases hc : k = 1 ∨ spF M l = true
      · rw [hA, if_pos hc, if_pos]
        right
        show sp M 32 (inn M false false l ++ Z) = true
        rw [sp_iff]
        exact ⟨rfl, hfm hc⟩
      · rw [hA, if_neg hc, if_neg]
        rintro (h | h)
        · exact hc (.inl h)
        · rw [List.nil_append, spF_inn h0 Z l false hm] at h
          cases h
    have hZZ : (if k = 3 ∨ lastSp (A ++ (inn M false false l ++ Z)) = true then [32] else [] : List Int) = Z := by
      by_cases hc : k = 3 ∨ lastSp l = true
      · rw [hZ, if_pos hc, if_pos]
        right
        simp [lastSp]
      · rw [hZ, if_neg hc, if_neg]
        rintro (h | h)
        · exact hc (.inl h)
        · have hl := last_inn h0 l false false hm
          obtain ⟨y, u, e2⟩ := List.exists_cons_of_ne_nil hm
          rw [e2] at h hl
          refine hl ?_
          simpa [lastSp] using h
    rw [e]
    refine ⟨?_, fun h1 => ?_⟩
    · have : pieM M k (A ++ (inn M false false l ++ Z)) = (if k = 1 ∨ spF M (A ++ (inn M false false l ++ Z)) = true then [32] else []) ++ (inn M false false l ++ (if k = 3 ∨ lastSp (A ++ (inn M false false l ++ Z)) = true then [32] else [])) := by
        conv => lhs; unfold pieM
        rw [hin, if_neg hm]
      rw [this, hAA, hZZ]
    · rw [hA, if_pos (.inl h1)]
      simp [fre, h0]
theorem firm_id {l : List Int} (h : fre M l = true) : firmL M l = l := by
  unfold firmL
  rw [if_pos h]
/-- P11.5: a piece of a piece. -/
theorem pie_again (h0 : M 32 = false) (k : Int) (l : List Int) : pieL M k (pieL M k l) = pieL M k l := by
  by_cases h1 : k = 1
  · subst h1
    obtain ⟨p1, p2⟩ := pieM_again h0 1 (firmL M l) fun _ => fre_firm h0 l
    unfold pieL
    rw [if_pos rfl, if_pos rfl]
    rw [firm_id (p2 rfl), p1]
  · by_cases h2 : k = 2 ∨ k = 3
    · have e : ∀ x, pieL M k x = pieM M k x := fun x => by unfold pieL; rw [if_neg h1, if_pos h2]
      rw [e, e]
      exact (pieM_again h0 k l fun h => absurd h h1).1
    · have e : ∀ x, pieL M k x = [] := fun x => by unfold pieL; rw [if_neg h1, if_neg h2]
      rw [e, e]
end
end Go.Proofs.YtefobkgifigclaaGreatDoor
/- The landed pass, and words: what they do, given what Space answers. -/
namespace Go.Proofs.YtefobkgifigclaaGreatDoor
set_option maxRecDepth 100000
open Go.RowKit

/-- No slice is longer than its room. -/
def Fits (v : Value) : Prop := ∀ a n c, v = .slice a n c → n ≤ c
theorem Rn.fits {w : World} {B : Nat} {v : Value} {l : List Int} (h : Rn B v l w) : Fits v := by
  intro a n c hv
  rcases h.2 with ⟨hv', _⟩ | ⟨g, cap, cur, hv', _, _, hc, _⟩
  · rw [hv'] at hv; cases hv; exact Nat.le_refl _
  · rw [hv'] at hv; cases hv; exact hc
theorem fits_of {a : Option Addr} {n c : Nat} (h : n ≤ c) : Fits (.slice a n c) := fun _ _ _ e => by cases e; exact h

section
variable (M : Int → Bool)
/-- How many stand first that are spaces (or that are none). -/
def skp (b : Bool) : List Int → Nat
  | [] => 0
  | x :: t => if (sp M x t == b) = true then skp b t + 1 else 0
end
section
variable {M : Int → Bool}
theorem skp_le (b : Bool) : ∀ t : List Int, skp M b t ≤ t.length
  | [] => Nat.le_refl _
  | x :: t => by
    have := skp_le b t
    simp only [skp, List.length_cons]
    split <;> omega
theorem skp_yes {b : Bool} {x : Int} {t : List Int} (h : sp M x t = b) : skp M b (x :: t) = skp M b t + 1 := by
  simp [skp, h]
theorem skp_no {b : Bool} {x : Int} {t : List Int} (h : sp M x t = !b) : skp M b (x :: t) = 0 := by
  cases b <;> simp [skp, h]
theorem inn_skp (s : Bool) : ∀ t : List Int, inn M s true t = inn M s true (t.drop (skp M true t))
  | [] => rfl
  | x :: t => by
    cases hs : sp M x t
    · rw [skp_no (b := true) hs]; rfl
    · rw [skp_yes hs, inn_sp hs, List.drop_succ_cons, ← inn_skp s t]
theorem inn_word : ∀ t : List Int, inn M true false t = t.take (skp M false t) ++ inn M true true (t.drop (skp M false t))
  | [] => rfl
  | x :: t => by
    cases hs : sp M x t
    · rw [skp_yes hs, inn_no hs, List.take_succ_cons, List.drop_succ_cons, inn_word t]; rfl
    · rw [skp_no (b := false) hs, inn_sp hs]
      show _ = [] ++ inn M true true (x :: t)
      rw [inn_sp hs]; rfl
/-- Behind the spaces stands a word, or nothing. -/
theorem skp_zero : ∀ t : List Int, skp M false (t.drop (skp M true t)) = 0 → t.drop (skp M true t) = []
  | [], _ => rfl
  | x :: t, h => by
    cases hs : sp M x t
    · rw [skp_no (b := true) hs] at h
      rw [List.drop_zero, skp_yes hs] at h
      omega
    · rw [skp_yes hs, List.drop_succ_cons] at h ⊢
      exact skp_zero t h
theorem inn_two (s : Bool) (t : List Int) (h : 0 < skp M false t) : inn M s true t = (if s then [32, 32] else []) ++ (t.take (skp M false t) ++ inn M true true (t.drop (skp M false t))) := by
  cases t with
  | nil => simp [skp] at h
  | cons x t =>
    cases hs : sp M x t
    · rw [skp_yes hs, inn_no hs, List.take_succ_cons, List.drop_succ_cons, inn_word t]
      simp
    · rw [skp_no (b := false) hs] at h
      omega
end

theorem drop_at' (l : List Int) (k : Nat) (h : k < l.length) : l.drop k = l.getD k 0 :: l.drop (k + 1) := by
  rw [List.drop_eq_getElem_cons h]
  simp [List.getD, h]
/-- What is asked of Space. -/
def SpOk (M : Int → Bool) (w : World) (a : Option Addr) (cap : Nat) (l : List Int) : Prop :=
  ∀ (m : Nat) (W : World), m < l.length → Below w.heap.size w W → Calls Tryz.prog 200 #[.slice a l.length cap, .int .i64 (m : Int)] W fun e w' => e = .returned (.bool (sp M (l.getD m 0) (l.drop (m + 1)))) ∧ Below W.heap.size W w'

set_option maxHeartbeats 1600000 in
theorem pass_walk (M : Int → Bool) (a : Option Addr) (cap : Nat) (l : List Int) (k : Nat) (s : Bool) (w : World) (hlen : l.length ≤ 20000) (hk : k ≤ l.length) (HSP : SpOk M w a cap l) :
    Calls Tryz.prog 230 #[.slice a l.length cap, .int .i64 (k : Int), .bool s] w fun e w' => e = .returned (.int .i64 ((k + skp M s (l.drop k) : Nat) : Int)) ∧ Below w.heap.size w w' := by
  have HS := hide HSP
  clear HSP
  go_enter Tryz.func230, Tryz.ntmps230
  go_wp2
  go_loopw [1] (fun i wr => ∃ m : Nat, m ≤ l.length ∧ i = .int .i64 (m : Int) ∧ Hid (m + skp M s (l.drop m) = k + skp M s (l.drop k)) ∧ Below w.heap.size w wr) (fun i _ => l.length - (intOf i).toNat)
  case atStart => exact ⟨k, hk, rfl, by show _ = _; rfl, Below.refl _ _⟩
  case round =>
    obtain ⟨m, hm, rfl, HE, hb⟩ := hrel
    by_cases hlt : m < l.length
    · have hzl : (m : Int) < (l.length : Int) := by omega
      have HX := hide (unhide HS m wr hlt hb)
      have HD := hide (drop_at' l m hlt)
      generalize l.getD m 0 = x at *
      cases hs : sp M x (l.drop (m + 1)) <;> cases s
      · rw [hs] at HX
        have HE2 : Hid (m + 1 + skp M false (l.drop (m + 1)) = k + skp M false (l.drop k)) := by show _ = _; rw [← unhide HE, unhide HD, skp_yes hs]; omega
        go_wp2_with (go_at_call 200; refine (unhide HX).mono ?_; rintro e w2 ⟨rfl, b2⟩)
        go_roundw
        case rel => exact ⟨m + 1, by omega, by go_num, HE2, hb.trans (b2.mono hb.size)⟩
        case measure => simp [intOf]; omega
      · rw [hs] at HX
        have HE2 : Hid (k + skp M true (l.drop k) = m) := by show _ = _; rw [← unhide HE, unhide HD, skp_no (b := true) hs]; rfl
        go_wp2_with (go_at_call 200; refine (unhide HX).mono ?_; rintro e w2 ⟨rfl, b2⟩)
        go_ret
        exact ⟨ret_int (by rw [unhide HE2]), hb.trans (b2.mono hb.size)⟩
      · rw [hs] at HX
        have HE2 : Hid (k + skp M false (l.drop k) = m) := by show _ = _; rw [← unhide HE, unhide HD, skp_no (b := false) hs]; rfl
        go_wp2_with (go_at_call 200; refine (unhide HX).mono ?_; rintro e w2 ⟨rfl, b2⟩)
        go_ret
        exact ⟨ret_int (by rw [unhide HE2]), hb.trans (b2.mono hb.size)⟩
      · rw [hs] at HX
        have HE2 : Hid (m + 1 + skp M true (l.drop (m + 1)) = k + skp M true (l.drop k)) := by show _ = _; rw [← unhide HE, unhide HD, skp_yes hs]; omega
        go_wp2_with (go_at_call 200; refine (unhide HX).mono ?_; rintro e w2 ⟨rfl, b2⟩)
        go_roundw
        case rel => exact ⟨m + 1, by omega, by go_num, HE2, hb.trans (b2.mono hb.size)⟩
        case measure => simp [intOf]; omega
    · have hzl : ¬ (m : Int) < (l.length : Int) := by omega
      obtain rfl : m = l.length := by omega
      have HE2 : Hid (k + skp M s (l.drop k) = l.length) := by show _ = _; rw [← unhide HE, List.drop_length]; rfl
      go_wp2
      go_ret
      exact ⟨ret_int (by have := unhide HE2; omega), hb⟩
end Go.Proofs.YtefobkgifigclaaGreatDoor
/- The landed words, by a goto. -/
namespace Go.Proofs.YtefobkgifigclaaGreatDoor
set_option maxRecDepth 100000
open Go.RowKit

/-- A scope in which the run jumps back to one label: what is shown of each pass from the label serves for the first as well. -/
theorem jumps11 {P : Program} {a : Act} {w : World} {Q : Exit → Act → World → Prop} {c rest : Code} (l : Nat) (J : Act → World → Prop) (μ : Act → World → Nat) (hf : findLabel c l = some (Code.skip.seq rest))
    (pass : ∀ a w, J a w → rest.wp P (Exit.jump l (fun a' w' => J a' w' ∧ μ a' w' < μ a w) Q) a w)
    (first : (∀ a w, J a w → rest.wp P (Exit.jump l J Q) a w) → c.wp P (Exit.jump l J Q) a w) : (Code.scope c).wp P Q a w := by
  refine wp_scope_jumps l J μ hf (first fun a w h => wp_mono (pass a w h) ?_) fun a w h => wp_seq (wp_skip (pass a w h))
  intro e a' w' h
  cases e with
  | goto l' => exact ⟨h.1, h.2.1⟩
  | normal => exact h
  | exit id => exact h
  | ret => exact h
  | panic ch => exact h
  | outgrown => exact h
theorem news_of11 {w : World} {b off : Nat} {l : List Int} (hcc : ∀ j, j < l.length → w.cell? ⟨b, off + j, none⟩ = some (.int .i32 (l.getD j 0))) : ∀ j u, (l.map (Value.int .i32))[j]? = some u → w.cell? ((⟨b, off, none⟩ : Addr).add j) = some u := fun j u hu => by
  have hj : j < l.length := by have := (List.getElem?_eq_some_iff.1 hu).1; simpa using this
  have e : (⟨b, off, none⟩ : Addr).add j = ⟨b, off + j, none⟩ := by unfold Addr.add; split <;> simp_all
  have hu' : u = .int .i32 (l.getD j 0) := by
    rw [List.getElem?_map, List.getElem?_eq_getElem hj] at hu
    simp at hu
    rw [← hu]
    simp [List.getD, hj]
  rw [e, hu']
  exact hcc j hj
/-- How much is still to be gone through at the label. -/
def muw (n : Nat) (a : Act) (_ : World) : Nat := n - (intOf (a.tmps.getD 5 undef)).toNat
/-- The frame at the label. -/
def Frw (a : Option Addr) (n cap : Nat) (a3 : Option Addr) (N c3 t : Nat) (q : Act) : Prop := ∃ u1 u2 u4 u6 u7 u8 u9 u10 u11 u12 u13 u14 u15 u16 u17 u18 u19 u20 u21 u22 u23 u24 u25 u26 u27 u28 u29 u30 : Value, q = { tmps := #[.slice a n cap, u1, u2, .slice a3 N c3, u4, .int .i64 (t : Int), u6, u7, u8, u9, u10, u11, u12, u13, u14, u15, u16, u17, u18, u19, u20, u21, u22, u23, u24, u25, u26, u27, u28, u29, u30], defers := [] }
theorem inn_len11 {M : Int → Bool} : ∀ (l : List Int) (s o : Bool), (inn M s o l).length ≤ 3 * l.length
  | [], _, _ => by simp [inn]
  | x :: t, s, o => by
    cases hs : sp M x t
    · have h := inn_len11 (M := M) t true false
      rw [inn_no hs, List.length_append]
      simp only [List.length_cons]
      split <;> simp only [List.length_cons, List.length_nil] <;> omega
    · have h := inn_len11 (M := M) t s true
      rw [inn_sp hs, List.length_cons]
      omega
theorem inn_start (M : Int → Bool) (l : List Int) : Hid ([] ++ inn M (decide (0 < 0)) true (l.drop 0) = inn M false false l) := by
  show _ = _
  rw [List.drop_zero, List.nil_append]
  show inn M false true l = _
  cases l with
  | nil => rfl
  | cons x t => simp [inn]
set_option maxHeartbeats 6400000 in
theorem words_walk (M : Int → Bool) (a : Option Addr) (cap : Nat) (l : List Int) (w : World) (hlen : l.length ≤ 6000) (hcap : l.length ≤ cap) (hR : Row w (.slice a l.length cap) l) (HSP : SpOk M w a cap l) :
    Calls Tryz.prog 204 #[.slice a l.length cap] w fun e w' => ∃ v', e = .returned v' ∧ Rn w.heap.size v' (inn M false false l) w' ∧ Below w.heap.size w w' := by
  obtain ⟨i0, hi, hz0, hz1, hz2⟩ := info_parts elem_info
  have HNL := hide (inn_len11 (M := M) l false false)
  have HPS := hide (fun (k : Nat) (s : Bool) (W : World) (hk : k ≤ l.length) (hb : Below w.heap.size w W) => pass_walk M a cap l k s W (by omega) hk (fun m W2 hm hb2 => HSP m W2 hm (hb.trans (hb2.mono hb.size))))
  have HC : Hid (0 < l.length → ∃ b off, a = some ⟨b, off, none⟩ ∧ ∀ j, j < l.length → w.cell? ⟨b, off + j, none⟩ = some (.int .i32 (l.getD j 0))) := by
    obtain ⟨a', cap', hv, hc⟩ := hR
    cases hv
    exact hc
  have hml : l.length ≤ maxLen := by unfold maxLen; omega
  clear hR HSP
  go_enter Tryz.func204, Tryz.ntmps204
  go_wp2
  refine jumps11 0 (fun q wr => ∃ (a3 : Option Addr) (N c3 t : Nat) (out : List Int), Frw a l.length cap a3 N c3 t q ∧ t ≤ l.length ∧ N = out.length ∧ Hid (Rn w.heap.size (.slice a3 N c3) out wr) ∧ Hid (out ++ inn M (decide (0 < N)) true (l.drop t) = inn M false false l) ∧ Below w.heap.size w wr) (muw l.length) rfl ?_ ?_
  · rintro q wl ⟨a3, N, c3, t, out, ⟨u1, u2, u4, u6, u7, u8, u9, u10, u11, u12, u13, u14, u15, u16, u17, u18, u19, u20, u21, u22, u23, u24, u25, u26, u27, u28, u29, u30, rfl⟩, ht, hN, RK, EK, hb⟩
    have P1 := hide (unhide HPS t true wl ht hb)
    have hf1 := skp_le (M := M) true (l.drop t)
    rw [List.length_drop] at hf1
    have EI := hide (inn_skp (M := M) (decide (0 < N)) (l.drop t))
    have EZ := hide (skp_zero (M := M) (l.drop t))
    rw [List.drop_drop] at EI EZ
    obtain ⟨f, hf⟩ : ∃ f, f = t + skp M true (l.drop t) := ⟨_, rfl⟩
    rw [← hf] at P1 EI EZ
    have hfl : f ≤ l.length := by omega
    have htf : t ≤ f := by omega
    have P2 := hide (fun W hW => unhide HPS f false W hfl hW)
    have hd1 := skp_le (M := M) false (l.drop f)
    rw [List.length_drop] at hd1
    have ET := hide (inn_two (M := M) (decide (0 < N)) (l.drop f))
    rw [List.drop_drop] at ET
    have hol : out.length ≤ 3 * l.length := by
      have := congrArg List.length (unhide EK)
      rw [List.length_append] at this
      have := unhide HNL
      omega
    rw [unhide EI] at EK
    generalize skp M false (l.drop f) = d at *
    clear hf hf1 EI
    by_cases hd : d = 0
    · subst hd
      have HE : Hid (out = inn M false false l) := by show _ = _; rw [← unhide EK, unhide EZ rfl]; simp [inn]
      rw [unhide HE] at RK
      clear ET EZ EK hol hN
      go_wp2_with (first
        | (go_at_call 230; refine (unhide P2 w2 (hb.trans (b2.mono hb.size))).mono ?_; rintro e w3 ⟨rfl, b3⟩)
        | (go_at_call 230; refine (unhide P1).mono ?_; rintro e w2 ⟨rfl, b2⟩))
      simp only [Exit.jump]
      go_ret
      exact ⟨_, rfl, (unhide RK).below (b2.trans (b3.mono b2.size)), hb.trans ((b2.trans (b3.mono b2.size)).mono hb.size)⟩
    · obtain ⟨b, off, rfl, hcc⟩ := unhide HC (by omega)
      obtain ⟨T, hT⟩ : ∃ T, T = f + d := ⟨_, rfl⟩
      rw [← hT] at P2 ET
      obtain rfl : d = T - f := by omega
      have hTl : T ≤ l.length := by omega
      have hfT : f < T := by omega
      have HW : Hid (∀ W, Below w.heap.size w W → ∀ j u, (((l.drop f).take (T - f)).map (Value.int .i32))[j]? = some u → W.cell? ((⟨b, off + f, none⟩ : Addr).add j) = some u) := fun W hW => news_of11 fun j hj => by
        rw [List.length_take, List.length_drop] at hj
        have h := hcc (f + j) (by omega)
        rw [Nat.add_assoc, (hW.cell (by exact cell_lt h)).trans h]
        have hj2 : j < T - f := by omega
        simp [List.getD, hj2]
      have HWL : Hid (((l.drop f).take (T - f)).length = T - f) := by show _ = _; rw [List.length_take, List.length_drop]; omega
      have HLM : Hid ((((l.drop f).take (T - f)).map (Value.int .i32)).length = (T - f) * 1) := by show _ = _; rw [List.length_map, unhide HWL]; omega
      have HON := hide (ints_one ((l.drop f).take (T - f)))
      have E2 := hide (unhide ET (by omega))
      rw [unhide E2] at EK
      clear ET EZ E2 hcc hT hd
      generalize hWD : (l.drop f).take (T - f) = WD at *
      clear hWD
      obtain ⟨news, hnews⟩ : ∃ x, x = WD.map (Value.int .i32) := ⟨_, rfl⟩
      rw [← hnews] at HW HLM HON
      have HNE := hide hnews
      clear hnews
      have hz0' : (0 : Int) ≤ (f : Int) := by omega
      have hz1' : (f : Int) ≤ (T : Int) := by omega
      have hz2' : (T : Int) ≤ (cap : Int) := by omega
      have hz3' : ¬ (f : Int) = (T : Int) := by omega
      have hz4' : ((f : Int) == (T : Int)) = false := by simpa using hz3'
      have hz5' : ¬ cap = f := by omega
      have hz6' : ¬ f = T := by omega
      have hd0 : 0 < T - f := by omega
      have HN := hide hN
      rw [← hN] at hol
      by_cases hN0 : 0 < N
      · have hNz : (0 : Int) < (N : Int) := by omega
        have hm1 : N + 2 ≤ maxLen := by unfold maxLen; omega
        have hm2 : (N + 2) * 4 ≤ 140737488355328 := by omega
        have hm3 : N + 2 + (T - f) ≤ maxLen := by unfold maxLen; omega
        have hm4 : (N + 2 + (T - f)) * 4 ≤ 140737488355328 := by omega
        rw [decide_eq_true hN0, if_pos rfl] at EK
        clear hN
        go_wp2_with (first
          | (at_builtin; refine wpList_append_lies _ rfl _ _ 131 rfl w.heap.size 21 i0 _ 1 4 Tryz.underlying131 hi hz0 hz1 hz2 rfl (by omega) _ (N + 2) _ rfl (unhide HO8) ⟨b, off + f, none⟩ (T - f) (cap - f) news rfl (unhide HLM) (unhide HW _ hb8) (unhide HON) hd0 hm3 hm4 hs8 _ rfl ?_; intro g9 cap9 w9 hown9 hgrow9 hat9 hlt9)
          | (at_builtin; refine wpList_append_lies _ rfl _ _ 131 rfl w.heap.size 21 i0 _ 1 4 Tryz.underlying131 hi hz0 hz1 hz2 rfl (by omega) _ N _ rfl (World.ownsRow.alloc (Rn.own (unhide HN) (unhide HO3)) _) ⟨w3.heap.size, 0, none⟩ 2 2 [.int .i32 32, .int .i32 32] rfl rfl (World.news_of_block (cs := #[.int .i32 32, .int .i32 32]) (t := 21) (fr := (0, 0)) (heap_new w3 _)) (by simp [Value.oneCell']) (by omega) hm1 hm2 (by simp; omega) (w3.heap.size + 1) (by simp) ?_; intro g8 cap8 w8 hown8 hgrow8 hat8 hlt8; have hb8 := (hb3.alloc (by omega) _).trans (below_own hgrow8 (by simp; omega) (own_block (Rn.own (unhide HN) (unhide HO3)))); have hs8 := hb8.size; have HO8 := hide hown8; clear hown8 hgrow8 hat8 hlt8)
          | (go_at_call 230; refine (unhide P2 w2 hb2).mono ?_; rintro e w3 ⟨rfl, b3⟩; have hb3 := hb2.trans (b3.mono hb2.size); have hs3 := hb3.size; have HO3 := hide ((unhide RK).below (b2.trans (b3.mono b2.size))))
          | (go_at_call 230; refine (unhide P1).mono ?_; rintro e w2 ⟨rfl, b2⟩; have hb2 := hb.trans (b2.mono hb.size)))
        go_step3
        refine ⟨rfl, ⟨_, _, _, T, out ++ [32, 32] ++ WD, ⟨_, _, _, _, _, _, _, _, _, _, _, _, _, _, _, _, _, _, _, _, _, _, _, _, _, _, _, _, rfl⟩, hTl, ?_, ?_, ?_, hb8.trans (below_own hgrow9 hs8 (own_block (unhide HO8)))⟩, ?_⟩
        · rw [List.length_append, List.length_append, ← unhide HN, unhide HWL]; rfl
        · show Rn _ _ _ _
          unfold Rn
          rw [List.length_append, List.length_append, ← unhide HN, unhide HWL]
          rw [unhide HNE] at hown9
          simpa using hown9
        · show _ = _
          rw [← unhide EK, decide_eq_true (by omega)]
          simp
        · simp [muw, intOf]
          omega
      · obtain rfl : N = 0 := by omega
        obtain rfl : out = [] := List.length_eq_zero_iff.1 hN.symm
        have hm3 : 0 + (T - f) ≤ maxLen := by unfold maxLen; omega
        have hm4 : (0 + (T - f)) * 4 ≤ 140737488355328 := by omega
        rw [decide_eq_false hN0, if_neg (by decide)] at EK
        clear hN
        go_wp2_with (first
          | (at_builtin; refine wpList_append_lies _ rfl _ _ 131 rfl w.heap.size 21 i0 _ 1 4 Tryz.underlying131 hi hz0 hz1 hz2 rfl (by omega) _ 0 _ rfl (Rn.own rfl (unhide HO3)) ⟨b, off + f, none⟩ (T - f) (cap - f) news rfl (unhide HLM) (unhide HW _ hb3) (unhide HON) hd0 hm3 hm4 hs3 _ rfl ?_; intro g9 cap9 w9 hown9 hgrow9 hat9 hlt9)
          | (go_at_call 230; refine (unhide P2 w2 hb2).mono ?_; rintro e w3 ⟨rfl, b3⟩; have hb3 := hb2.trans (b3.mono hb2.size); have hs3 := hb3.size; have HO3 := hide ((unhide RK).below (b2.trans (b3.mono b2.size))))
          | (go_at_call 230; refine (unhide P1).mono ?_; rintro e w2 ⟨rfl, b2⟩; have hb2 := hb.trans (b2.mono hb.size)))
        go_step3
        refine ⟨rfl, ⟨_, _, _, T, WD, ⟨_, _, _, _, _, _, _, _, _, _, _, _, _, _, _, _, _, _, _, _, _, _, _, _, _, _, _, _, rfl⟩, hTl, ?_, ?_, ?_, hb3.trans (below_own hgrow9 hs3 (own_block (Rn.own rfl (unhide HO3))))⟩, ?_⟩
        · rw [unhide HWL]
        · show Rn _ _ _ _
          unfold Rn
          rw [unhide HWL]
          rw [unhide HNE] at hown9
          simpa using hown9
        · show _ = _
          rw [← unhide EK, decide_eq_true (by omega)]
          simp
        · simp [muw, intOf]
          omega
  · intro hfirst
    have HF := hide hfirst
    clear hfirst
    go_wp2_with (refine wpList_make_own _ rfl _ _ 131 rfl w.heap.size 21 i0 (.int .i32 0) 1 Tryz.underlying131 hi hz0 hz1 .i64 .i64 _ l.length rfl rfl rfl (by rw [hz2]; omega) hml (Nat.le_refl _) ?_; intro w1 hown1 hgrow1)
    go_step3
    rename_i HK
    refine HK _ _ ?_
    have HB : Below w.heap.size w w1 := (Below.refl _ _).grown hgrow1 (Nat.le_refl _) (by intro k h; cases h)
    exact unhide HF _ _ ⟨_, 0, _, 0, [], ⟨_, _, _, _, _, _, _, _, _, _, _, _, _, _, _, _, _, _, _, _, _, _, _, _, _, _, _, _, rfl⟩, Nat.zero_le _, rfl, hown1, inn_start M l, HB⟩
end Go.Proofs.YtefobkgifigclaaGreatDoor
