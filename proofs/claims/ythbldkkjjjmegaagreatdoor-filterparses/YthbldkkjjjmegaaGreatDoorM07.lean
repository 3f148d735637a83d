/- P24.5, P24.6, plainly: a filter is read as it was written. -/
import Derived.Test.YthbldkkjjjmegaaGreatDoorM06
namespace Go.Proofs.YthbldkkjjjmegaaGreatDoor
set_option maxRecDepth 100000
open Go.RowKit

/-- How many parts. -/
def totF : Fl → Nat
  | .mk _ _ _ _ _ _ _ _ _ _ kids => 1 + L kids
  where
  L : List Fl → Nat
  | [] => 0
  | e :: t => totF e + L t
theorem cnt_tot (e : Fl) : cntF e = min 61 (totF e) := by
  induction e using Fl.ind with
  | h c n v i a f hi hf r d kids ih =>
    have : ∀ (l : List Fl), (∀ e, e ∈ l → e ∈ kids) → ∀ n, min 61 (cntF.L l n) = min 61 (n + totF.L l) := fun l => by
      induction l with
      | nil => intro _ n; simp [cntF.L, totF.L]
      | cons a t iht =>
        intro hl n
        have h1 := ih a (hl a (by simp))
        have h2 := iht (fun e he => hl e (by simp [he]))
        simp only [cntF.L, totF.L]
        by_cases hn : n < 61
        · rw [if_pos hn, h2, h1]
          omega
        · rw [if_neg hn]
          omega
    simp only [cntF, totF]
    rw [this kids (fun _ h => h)]
theorem tot_pos (e : Fl) : 1 ≤ totF e := by cases e; simp only [totF]; omega
theorem totL_len : ∀ l : List Fl, l.length ≤ totF.L l
  | [] => by simp [totF.L]
  | e :: t => by have := tot_pos e; have := totL_len t; simp only [totF.L, List.length_cons]; omega
theorem deepL_mem : ∀ (l : List Fl) (k m : Nat), deepF.L l k ≤ m → ∀ e, e ∈ l → deepF e k ≤ m
  | [], _, _, _, e, he => by cases he
  | a :: t, k, m, h, e, he => by
    simp only [deepF.L] at h
    rcases List.mem_cons.1 he with rfl | he
    · omega
    · exact deepL_mem t k m (by omega) e he
theorem allL_mem : ∀ (l : List Fl), allF.L l = true → ∀ e, e ∈ l → allF e = true
  | [], _, e, he => by cases he
  | a :: t, h, e, he => by
    simp only [allF.L, Bool.and_eq_true] at h
    rcases List.mem_cons.1 he with rfl | he
    · exact h.1
    · exact allL_mem t h.2 e he
theorem text_cons (e : Fl) : ∃ t, textF e = 40 :: t := by cases e; simp only [textF]; exact ⟨_, rfl⟩
theorem textL_len : ∀ l : List Fl, l.length ≤ (textF.L l).length
  | [] => by simp [textF.L]
  | e :: t => by
    obtain ⟨u, hu⟩ := text_cons e
    have := textL_len t
    simp only [textF.L, List.length_cons, List.length_append, hu]
    omega
theorem kids_back (tk : Nat → List Int → Option (Fl × List Int × Nat)) (X : List Int) : ∀ (l : List Fl) (n p : Nat) (acc : List Fl), l.length < n →
    (∀ e, e ∈ l → ∀ p Y, p + totF e ≤ 60 → tk p (textF e ++ Y) = some (e, Y, p + totF e)) → p + totF.L l ≤ 60 → kidsG tk n p acc (textF.L l ++ 41 :: X) = some (acc ++ l, X, p + totF.L l)
  | [], 0, _, _, h, _, _ => by simp at h
  | [], n + 1, p, acc, _, _, _ => by
    simp only [textF.L, List.nil_append, totF.L]
    rw [kidsG]
    rw [if_pos rfl]
    simp
  | e :: t, 0, _, _, h, _, _ => by simp at h
  | e :: t, n + 1, p, acc, h, hk, hp => by
    simp only [totF.L] at hp
    obtain ⟨u, hu⟩ := text_cons e
    have h1 := hk e (by simp) p (textF.L t ++ 41 :: X) (by omega)
    have h2 := kids_back tk X t n (p + totF e) (acc ++ [e]) (by simpa using h) (fun e' he => hk e' (by simp [he])) (by omega)
    simp only [textF.L, totF.L]
    rw [List.append_assoc]
    rw [hu, List.cons_append] at h1 ⊢
    rw [kidsG]
    rw [if_neg (by decide), h1]
    dsimp only
    rw [h2, List.append_assoc, Nat.add_assoc]
    rfl
/-- A filter of a kind without kids. -/
theorem item_back {k : Int} {n v i : ByteArray} {a : List ByteArray} {f : ByteArray} {hi hf : Bool} {r : ByteArray} {d : Bool} {m : Nat} (h : oneF k n v i a f hi hf r d m = true) (h0 : ¬ k = 0) (h1 : ¬ k = 1) (h2 : ¬ k = 2) :
    m = 0 ∧ itemP (headF k n i a f r d ++ vTxt (nums v)) = some (.mk k n v i a f hi hf r d []) ∧ (∀ x ∈ headF k n i a f r d, x ≠ 41) ∧ headF k n i a f r d ≠ [] ∧ ¬ 0 ≤ boolK ((headF k n i a f r d).getD 0 0) := by
  unfold oneF oneQ at h
  rw [if_neg (by omega), if_neg h2] at h
  by_cases hm : m ≠ 0 ∨ decide (400 < v.size) = true
  · rw [if_pos hm] at h; cases h
  · rw [if_neg hm] at h
    have hm0 : m = 0 := by omega
    refine ⟨hm0, ?_⟩
    have hh : headF k n i a f r d = nums n ++ (if k = 3 then [61] else if k = 5 then [62, 61] else if k = 6 then [60, 61] else if k = 8 then [126, 61] else if k = 7 then [61, 42] else if k = 4 then 61 :: starT i a f else extT r d) := by
      unfold headF
      rw [if_neg h0, if_neg h1, if_neg h2]
    have word : ∀ (t : List Int), wrdB (nums n) = true → (∀ x ∈ t, x ≠ 41) → (∀ x ∈ nums n ++ t, x ≠ 41) ∧ nums n ++ t ≠ [] ∧ ¬ 0 ≤ boolK ((nums n ++ t).getD 0 0) := fun t hn ht => by
      refine ⟨fun x hx => ?_, fun e => wrd_ne hn (List.append_eq_nil_iff.1 e).1, ?_⟩
      · rcases List.mem_append.1 hx with hx | hx
        · have := wrd_in hn x hx; omega
        · exact ht x hx
      · rw [fst_app (wrd_ne hn)]
        have := wrd_fst hn
        exact bool_no (by omega)
    by_cases h3 : k = 3 ∨ k = 5 ∨ k = 6 ∨ k = 8
    · rw [if_pos h3, Bool.and_eq_true] at h
      obtain ⟨hb, hn⟩ := h
      obtain ⟨_, _, p3, p4⟩ := bar_parts hb
      obtain ⟨rfl, rfl⟩ := p3 rfl
      obtain ⟨rfl, rfl, rfl, rfl, rfl⟩ := p4 rfl
      rw [hh]
      rcases h3 with rfl | rfl | rfl | rfl
      · rw [if_pos rfl]
        exact ⟨item3 hn, word _ hn (by simp)⟩
      · rw [if_neg (by decide), if_pos rfl]
        exact ⟨itemx hn (.inl ⟨rfl, rfl⟩), word _ hn (by simp)⟩
      · rw [if_neg (by decide), if_neg (by decide), if_pos rfl]
        exact ⟨itemx hn (.inr (.inl ⟨rfl, rfl⟩)), word _ hn (by simp)⟩
      · rw [if_neg (by decide), if_neg (by decide), if_neg (by decide), if_pos rfl]
        exact ⟨itemx hn (.inr (.inr ⟨rfl, rfl⟩)), word _ hn (by simp)⟩
    · rw [if_neg h3] at h
      rw [if_neg (by omega), if_neg (by omega), if_neg (by omega), if_neg (by omega)] at hh
      by_cases h7 : k = 7
      · rw [if_pos h7, Bool.and_eq_true] at h
        obtain ⟨hb, hn⟩ := h
        obtain ⟨_, p2, p3, p4⟩ := bar_parts hb
        obtain rfl := p2 rfl
        obtain ⟨rfl, rfl⟩ := p3 rfl
        obtain ⟨rfl, rfl, rfl, rfl, rfl⟩ := p4 rfl
        rw [if_pos h7] at hh
        subst h7
        rw [hh, nums_emp (s := ByteArray.empty) rfl, vTxt, List.append_nil]
        exact ⟨item7 hn, word _ hn (by simp)⟩
      · rw [if_neg h7] at h hh
        by_cases h4 : k = 4
        · rw [if_pos h4, Bool.and_eq_true, Bool.and_eq_true] at h
          obtain ⟨hb, hn, hp⟩ := h
          obtain ⟨_, p2, p3, _⟩ := bar_parts hb
          obtain rfl := p2 rfl
          obtain ⟨rfl, rfl⟩ := p3 rfl
          rw [if_pos h4] at hh
          subst h4
          unfold finPc at hp
          rw [Bool.and_eq_true] at hp
          have no41 : ∀ a : List ByteArray, ∀ x ∈ anyT a, x ≠ 41 := fun a => by
            induction a with
            | nil => simp [anyT]
            | cons y t ih =>
              intro x hx
              rw [anyT] at hx
              rcases List.mem_append.1 hx with hx | hx
              · have := nums_in y x hx; omega
              · rcases List.mem_cons.1 hx with rfl | hx
                · decide
                · exact ih x hx
          rw [hh, nums_emp (s := ByteArray.empty) rfl, vTxt, List.append_nil]
          refine ⟨item4 hn hp.1, word _ hn fun x hx => ?_⟩
          unfold starT at hx
          simp only [List.mem_cons, List.mem_append] at hx
          rcases hx with rfl | hx | rfl | hx | hx
          · decide
          · have := nums_in i x hx; omega
          · decide
          · exact no41 a x hx
          · have := nums_in f x hx; omega
        · rw [if_neg h4] at h hh
          by_cases h9 : k = 9
          · rw [if_pos h9, Bool.and_eq_true, Bool.and_eq_true, Bool.and_eq_true] at h
            obtain ⟨hb, hne, hre, hnr⟩ := h
            obtain ⟨_, _, _, p4⟩ := bar_parts hb
            obtain ⟨rfl, rfl, rfl, rfl, rfl⟩ := p4 rfl
            subst h9
            simp only [Bool.or_eq_true, Bool.and_eq_true, Bool.not_eq_true', decide_eq_true_eq, decide_eq_false_iff_not] at hne hre hnr
            rw [hh]
            refine ⟨item9 hne hre, ?_⟩
            have ex41 : ∀ x ∈ extT r d, x ≠ 41 := fun x hx => by
              unfold extT at hx
              simp only [List.mem_append] at hx
              rcases hx with hx | hx | hx
              · cases d
                · simp at hx
                · simp at hx; omega
              · split at hx
                · cases hx
                · rcases List.mem_cons.1 hx with rfl | hx
                  · decide
                  · rcases hre with ⟨h, _⟩ | h
                    · have := wrd_in h x hx; omega
                    · rw [nums_emp h] at hx; cases hx
              · simp at hx; omega
            rcases hne with hn | hn
            · exact word _ hn ex41
            · rw [nums_emp hn, List.nil_append]
              have e1 : (extT r d).getD 0 0 = 58 := by
                unfold extT
                cases d
                · rw [if_neg (by decide)]
                  by_cases hr0 : r = ⟨#[]⟩
                  · rw [if_pos hr0]; rfl
                  · rw [if_neg hr0]; rfl
                · rfl
              refine ⟨ex41, fun e => ?_, ?_⟩
              · rw [e] at e1; cases e1
              · rw [e1]; decide
          · rw [if_neg h9] at h; cases h
/-- What stands at the beginning is read, and the rest is left. -/
theorem take_back : ∀ (m : Nat) (e : Fl) (p : Nat) (X : List Int), allF e = true → deepF e (m + 1) ≤ m → p + totF e ≤ 60 → takeL m p (textF e ++ X) = some (e, X, p + totF e)
  | 0, .mk k n v i a f hi hf r d kids, p, X, _, hd, _ => by simp only [deepF] at hd; omega
  | m + 1, .mk k n v i a f hi hf r d kids, p, X, ha, hd, hp => by
    simp only [allF, Bool.and_eq_true] at ha
    simp only [deepF] at hd
    rw [if_pos (by omega)] at hd
    have hdk := deepL_mem kids (m + 1) m (by simpa using hd)
    have hak := allL_mem kids ha.1
    have h1 := ha.2
    simp only [totF] at hp
    have et : textF (.mk k n v i a f hi hf r d kids) ++ X = 40 :: (headF k n i a f r d ++ (textF.L kids ++ (vTxt (nums v) ++ 41 :: X))) := by
      simp only [textF]
      simp
    rw [et, takeL, if_neg (by omega), if_neg (by decide)]
    simp only [totF]
    by_cases hk : k = 0 ∨ k = 1 ∨ k = 2
    · have hb : barF n v i a f hi hf r d true true true true = true := by
        unfold oneF oneQ at h1
        rcases hk with rfl | rfl | rfl
        · rw [if_pos (.inl rfl)] at h1; exact h1
        · rw [if_pos (.inr rfl)] at h1; exact h1
        · rw [if_neg (by decide), if_pos rfl, Bool.and_eq_true] at h1; exact h1.1
      obtain ⟨p1, p2, p3, p4⟩ := bar_parts hb
      obtain rfl := p1 rfl
      obtain rfl := p2 rfl
      obtain ⟨rfl, rfl⟩ := p3 rfl
      obtain ⟨rfl, rfl, rfl, rfl, rfl⟩ := p4 rfl
      rw [nums_emp (s := ByteArray.empty) rfl, vTxt, List.nil_append]
      have hlen := textL_len kids
      have kb := kids_back (takeL m) X kids ((textF.L kids ++ 41 :: X).length + 1 + 1) (p + 1) [] (by simp only [List.length_append, List.length_cons]; omega) (fun e he p Y h => take_back m e p Y (hak e he) (hdk e he) h) (by omega)
      have fin : p + 1 + totF.L kids = p + (1 + totF.L kids) := by omega
      have go : ∀ c : Int, boolK c = k → headF k ByteArray.empty ByteArray.empty [] ByteArray.empty ByteArray.empty false = [c] → 0 ≤ k → (if 0 ≤ boolK ((headF k ByteArray.empty ByteArray.empty [] ByteArray.empty ByteArray.empty false ++ (textF.L kids ++ 41 :: X)).getD 0 0) then (kidsG (takeL m) ((headF k ByteArray.empty ByteArray.empty [] ByteArray.empty ByteArray.empty false ++ (textF.L kids ++ 41 :: X)).length + 1) (p + 1) [] ((headF k ByteArray.empty ByteArray.empty [] ByteArray.empty ByteArray.empty false ++ (textF.L kids ++ 41 :: X)).drop 1)).map (fun x => (kndF (boolK ((headF k ByteArray.empty ByteArray.empty [] ByteArray.empty ByteArray.empty false ++ (textF.L kids ++ 41 :: X)).getD 0 0)) x.1, x.2.1, x.2.2)) else match cutL 41 (headF k ByteArray.empty ByteArray.empty [] ByteArray.empty ByteArray.empty false ++ (textF.L kids ++ 41 :: X)) with | none => none | some (x, r) => (itemP x).map fun g => (g, r, p + 1)) = some (.mk k ByteArray.empty ByteArray.empty ByteArray.empty [] ByteArray.empty false false ByteArray.empty false kids, X, p + (1 + totF.L kids)) := fun c hc hd k0 => by
        rw [hd, List.singleton_append]
        rw [show (c :: (textF.L kids ++ 41 :: X)).getD 0 0 = c from rfl, hc, if_pos k0, List.drop_one, List.tail_cons, List.length_cons, kb]
        simp only [Option.map_some, List.nil_append, fin]
        rfl
      rcases hk with rfl | rfl | rfl
      · exact go 38 rfl rfl (by decide)
      · exact go 124 rfl rfl (by decide)
      · exact go 33 rfl rfl (by decide)
    · obtain ⟨hm, hit, hno, hne, hbl⟩ := item_back h1 (fun h => hk (.inl h)) (fun h => hk (.inr (.inl h))) (fun h => hk (.inr (.inr h)))
      obtain rfl := List.length_eq_zero_iff.1 hm
      rw [if_neg (show ¬ 0 ≤ boolK ((headF k n i a f r d ++ (textF.L [] ++ (vTxt (nums v) ++ 41 :: X))).getD 0 0) by rw [fst_app hne]; exact hbl)]
      simp only [textF.L, List.nil_append, totF.L]
      rw [← List.append_assoc, cut_at 41 _ X (fun x hx => by
        rcases List.mem_append.1 hx with hx | hx
        · exact hno x hx
        · have := nums_in v x hx; omega)]
      dsimp only
      rw [hit]
      rfl
theorem chk_parts {e : Fl} (h : chkF e = 0) : allF e = true ∧ deepF e 9 ≤ 8 ∧ totF e ≤ 60 := by
  unfold chkF at h
  by_cases hb : 8 < deepF e 9 ∨ 60 < countF e ∨ allF e = false
  · rw [if_pos hb] at h; cases h
  · have h1 : ¬ 8 < deepF e 9 := fun x => hb (.inl x)
    have h2 : ¬ 60 < countF e := fun x => hb (.inr (.inl x))
    have h3 : ¬ allF e = false := fun x => hb (.inr (.inr x))
    unfold countF at h2
    rw [if_neg h1, cnt_tot] at h2
    exact ⟨by simpa using h3, by omega, by omega⟩
/-- P24.5. -/
theorem par_text {e : Fl} (h : chkF e = 0) : parO (textF e) = some e := by
  obtain ⟨h1, h2, h3⟩ := chk_parts h
  have := take_back 8 e 0 [] h1 h2 (by omega)
  rw [List.append_nil] at this
  unfold parO
  rw [this]
  dsimp only
  rw [if_pos ⟨rfl, h⟩]
theorem par_good {l : List Int} {e : Fl} (h : parO l = some e) : chkF e = 0 := by
  unfold parO at h
  split at h
  · cases h
  · split at h
    · next hh => cases h; exact hh.2
    · cases h
end Go.Proofs.YthbldkkjjjmegaaGreatDoor
