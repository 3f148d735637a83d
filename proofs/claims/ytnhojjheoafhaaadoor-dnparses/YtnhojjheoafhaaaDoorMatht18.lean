/- The document's reading of names, plainly: pairs, parts, names; it is the landed one. -/
import Derived.Test.YtnhojjheoafhaaaDoorMathr18
namespace Go.Proofs.YtnhojjheoafhaaaDoor
set_option maxRecDepth 100000
open Go.RowKit

theorem cutE_has : ∀ l : List Int, (∃ x ∈ l, x = 61) → l = (cutE l).1 ++ 61 :: (cutE l).2
  | [], h => by simp at h
  | c :: t, h => by
    unfold cutE
    by_cases hc : c = 61
    · rw [if_pos hc]; simp [hc]
    · rw [if_neg hc]
      have := cutE_has t (by
        obtain ⟨x, hx, e⟩ := h
        rcases List.mem_cons.1 hx with q | q
        · exact absurd (q ▸ e) hc
        · exact ⟨x, q, e⟩)
      simp only [List.cons_append]
      rw [← this]
theorem cutE_not : ∀ l : List Int, (¬ ∃ x ∈ l, x = 61) → cutE l = (l, [])
  | [], _ => rfl
  | c :: t, h => by
    unfold cutE
    rw [if_neg (fun e => h ⟨c, by simp, e⟩), cutE_not t (fun ⟨x, hx, e⟩ => h ⟨x, by simp [hx], e⟩)]
theorem cutE_no61 : ∀ l : List Int, ∀ x ∈ (cutE l).1, x ≠ 61
  | [], x, hx => by simp [cutE] at hx
  | c :: t, x, hx => by
    unfold cutE at hx
    by_cases hc : c = 61
    · rw [if_pos hc] at hx; simp at hx
    · rw [if_neg hc] at hx
      rcases List.mem_cons.1 hx with q | q
      · rw [q]; exact hc
      · exact cutE_no61 t x q
/-- The pair of a piece, as the document reads it. -/
def pR (P : List Int) : Option Pr :=
  if P.any (fun x => decide (x = 61)) = true then
    match valL true false (cutE P).2 with
    | some (c :: v, []) => some ⟨strOfNums ((cutE P).1.map smlC), strOfNums (c :: v)⟩
    | _ => none
  else none
theorem any61 (P : List Int) : P.any (fun x => decide (x = 61)) = true ↔ ∃ x ∈ P, x = 61 := by simp
theorem word_seg : ∀ (w Q : List Int), (∀ x ∈ w, x ≠ 92 ∧ x ≠ 44 ∧ x ≠ 43) → segB (w ++ 61 :: Q) = segB Q
  | [], Q, _ => by rw [List.nil_append, segB_one 61 Q (by decide)]; simp
  | c :: t, Q, h => by
    have hc := h c (by simp)
    rw [List.cons_append, segB_one c _ hc.1, word_seg t Q (fun x hx => h x (by simp [hx])), decide_eq_true hc.2]
    rfl
theorem sml_by {x : Int} (h : 0 ≤ x ∧ x < 256) : 0 ≤ smlC x ∧ smlC x < 256 := by
  unfold smlC
  split <;> omega
theorem word_ok {w : List Int} {v : ByteArray} (hb : ∀ x ∈ w, 0 ≤ x ∧ x < 256) (h : okP ⟨strOfNums (w.map smlC), v⟩ = true) : ∀ x ∈ w, x ≠ 92 ∧ x ≠ 44 ∧ x ≠ 43 := by
  have h1 := wrd_all (okP_parts h).1
  simp only at h1
  rw [nums_strOfNums _ (fun y hy => by
    obtain ⟨x, hx, rfl⟩ := List.mem_map.1 hy
    exact sml_by (hb x hx))] at h1
  intro x hx
  have := wrdC_in (h1 (smlC x) (List.mem_map_of_mem hx))
  unfold smlC at this
  split at this <;> omega
theorem val_ne {l v X : List Int} (h : strOfNums v ≠ strOfNums []) (_ : valL true false l = some (v, X)) : v ≠ [] := fun e => h (by rw [e])
theorem okP_val {n : ByteArray} {v : List Int} (h : okP ⟨n, strOfNums v⟩ = true) : v ≠ [] := fun e => by
  have := (okP_parts h).2.1
  rw [e] at this
  simp [strOfNums_size] at this
def sepX (X : List Int) : Prop := X = [] ∨ ∃ c t, X = c :: t ∧ (c = 44 ∨ c = 43)
/-- A pair that is read with a rest behind it is the document's pair of the piece ahead. -/
theorem K1 {l X : List Int} {p : Pr} (hb : ∀ x ∈ l, 0 ≤ x ∧ x < 256) (h : pairL l = some (p, X)) (hk : okP p = true) : sepX X ∧ ∃ P, l = P ++ X ∧ segB P = true ∧ pR P = some p := by
  unfold pairL at h
  cases hv : valL true false (cutE l).2 with
  | none => rw [hv] at h; cases h
  | some y =>
    obtain ⟨v, X'⟩ := y
    rw [hv] at h
    simp only [Option.map_some, Option.some.injEq, Prod.mk.injEq] at h
    obtain ⟨rfl, rfl⟩ := h
    have hvn := okP_val hk
    have h61 : ∃ x ∈ l, x = 61 := by
      by_cases q : ∃ x ∈ l, x = 61
      · exact q
      · rw [cutE_not l q, val_nil] at hv
        simp at hv
        exact absurd hv.1 hvn
    obtain ⟨hX, Q, hQ, hQv⟩ := val_alone _ _ _ _ _ _ (Nat.le_refl _) hv
    have hl := cutE_has l h61
    have hw : ∀ x ∈ (cutE l).1, 0 ≤ x ∧ x < 256 := fun x hx => hb x (by rw [hl]; simp [hx])
    refine ⟨hX, (cutE l).1 ++ 61 :: Q, ?_, ?_, ?_⟩
    · conv => lhs; rw [hl, hQ]
      simp
    · rw [word_seg _ _ (word_ok hw hk)]
      exact (val_rest [] (.inl rfl) _ Q true false v (Nat.le_refl _) hQv).2
    · unfold pR
      rw [if_pos (by simp), cutE_word Q _ (cutE_no61 l)]
      simp only
      rw [hQv]
      cases v with
      | nil => exact absurd rfl hvn
      | cons c v => rfl
theorem K2 {P X : List Int} {p : Pr} (hb : ∀ x ∈ P, 0 ≤ x ∧ x < 256) (hX : sepX X) (h : pR P = some p) (hk : okP p = true) : pairL (P ++ X) = some (p, X) ∧ segB P = true := by
  unfold pR at h
  split at h
  · rename_i h61
    rw [any61] at h61
    have hl := cutE_has P h61
    split at h
    · rename_i c v hv
      simp only [Option.some.injEq] at h
      subst h
      have hw : ∀ x ∈ (cutE P).1, 0 ≤ x ∧ x < 256 := fun x hx => hb x (by rw [hl]; simp [hx])
      obtain ⟨a1, a2⟩ := val_rest X hX _ (cutE P).2 true false _ (Nat.le_refl _) hv
      refine ⟨?_, ?_⟩
      · unfold pairL
        have e : cutE (P ++ X) = ((cutE P).1, (cutE P).2 ++ X) := by
          conv => lhs; rw [hl]
          rw [List.append_assoc, List.cons_append]
          exact cutE_word _ _ (cutE_no61 P)
        rw [e]
        simp only
        rw [a1]
        rfl
      · rw [hl, word_seg _ _ (word_ok hw hk)]
        exact a2
    · cases h
  · cases h
/-- The pairs of a part, the parts of a name, as the document reads them. -/
def rdR : List (List Int) → Option (List Pr)
  | [] => some []
  | q :: t =>
    match pR q with
    | none => none
    | some p =>
      match rdR t with
      | none => none
      | some r => some (p :: r)
def nmR : List (List Int) → Option (List (List Pr))
  | [] => some []
  | q :: t =>
    match rdR (cutG 43 [] q) with
    | none => none
    | some r =>
      match nmR t with
      | none => none
      | some n => some (r :: n)
theorem rdR_cons {q : List Int} {t : List (List Int)} {r : List Pr} : rdR (q :: t) = some r ↔ ∃ p r', pR q = some p ∧ rdR t = some r' ∧ r = p :: r' := by
  rw [rdR]
  cases h1 : pR q with
  | none => simp
  | some p =>
    cases h2 : rdR t with
    | none => simp
    | some r' => simp [eq_comm]
theorem nmR_cons {q : List Int} {t : List (List Int)} {n : List (List Pr)} : nmR (q :: t) = some n ↔ ∃ r n', rdR (cutG 43 [] q) = some r ∧ nmR t = some n' ∧ n = r :: n' := by
  rw [nmR]
  cases h1 : rdR (cutG 43 [] q) with
  | none => simp
  | some p =>
    cases h2 : nmR t with
    | none => simp
    | some r' => simp [eq_comm]
theorem cutG_pre (d : Int) : ∀ (k : Nat) (l a cur : List Int), l.length ≤ k → ∃ h t, cutG d cur l = h :: t ∧ cutG d (a ++ cur) l = (a ++ h) :: t := by
  intro k
  induction k with
  | zero =>
    intro l a cur hl
    obtain rfl : l = [] := List.length_eq_zero_iff.1 (by omega)
    exact ⟨cur, [], cutG_nil d cur, cutG_nil d _⟩
  | succ k ih =>
    intro l a cur hl
    match l with
    | [] => exact ⟨cur, [], cutG_nil d cur, cutG_nil d _⟩
    | c :: t =>
      by_cases h92 : c = 92
      · subst h92
        match t with
        | [] => exact ⟨cur ++ [92], [], cutG_last d cur, by rw [cutG_last]; simp⟩
        | e :: u =>
          obtain ⟨h, s, h1, h2⟩ := ih u a (cur ++ [92, e]) (by simp at hl; omega)
          exact ⟨h, s, by rw [cutG_esc]; exact h1, by rw [cutG_esc, List.append_assoc]; exact h2⟩
      · by_cases hd : c = d
        · subst hd
          exact ⟨cur, cutG c [] t, cutG_sep c cur t h92, cutG_sep c _ t h92⟩
        · obtain ⟨h, s, h1, h2⟩ := ih t a (cur ++ [c]) (by simp at hl; omega)
          exact ⟨h, s, by rw [cutG_one d cur c t h92 hd]; exact h1, by rw [cutG_one d _ c t h92 hd, List.append_assoc]; exact h2⟩
theorem cut_P (d : Int) (hd : d = 44 ∨ d = 43) (P : List Int) (h : segB P = true) : cutG d [] P = [P] := by
  have := cutG_seg d hd [] _ P [] (Nat.le_refl _) h
  rw [List.append_nil, List.nil_append] at this
  rw [this, cutG_nil]
theorem cut_sep (d : Int) (hd : d = 44 ∨ d = 43) (P t : List Int) (h : segB P = true) : cutG d [] (P ++ d :: t) = P :: cutG d [] t := by
  rw [cutG_seg d hd (d :: t) _ P [] (Nat.le_refl _) h, List.nil_append, cutG_sep d P t (by omega)]
theorem cut_plus (P t : List Int) (h : segB P = true) : ∃ q qs, cutG 44 [] t = q :: qs ∧ cutG 44 [] (P ++ 43 :: t) = (P ++ 43 :: q) :: qs := by
  obtain ⟨q, qs, h1, h2⟩ := cutG_pre 44 _ t (P ++ [43]) [] (Nat.le_refl _)
  refine ⟨q, qs, h1, ?_⟩
  rw [cutG_seg 44 (.inl rfl) (43 :: t) _ P [] (Nat.le_refl _) h, List.nil_append, cutG_one 44 P 43 t (by decide) (by decide)]
  rw [List.append_nil] at h2
  rw [h2]
  simp
def okA (N : List (List Pr)) : Prop := ∀ r ∈ N, ∀ p ∈ r, okP p = true
theorem parts_mem : ∀ (k : Nat) (n : List (List Pr)) (r : List Pr) (l : List Int) (N : List (List Pr)), partsL k n r l = some N → (∀ q ∈ n, q ∈ N) ∧ ∃ q ∈ N, ∀ p ∈ r, p ∈ q
  | 0, _, _, _, _, h => by simp [partsL] at h
  | k + 1, n, r, l, N, h => by
    rw [partsL] at h
    split at h
    · cases h
    · rename_i p0 _
      cases h
      exact ⟨fun q hq => by simp [hq], r ++ [p0], by simp, fun p hp => by simp [hp]⟩
    · rename_i p0 c0 t0 _
      split at h
      · obtain ⟨h1, q, hq, h2⟩ := parts_mem k _ _ _ _ h
        exact ⟨h1, q, hq, fun p hp => h2 p (by simp [hp])⟩
      · obtain ⟨h1, _⟩ := parts_mem k _ _ _ _ h
        exact ⟨fun q hq => h1 q (by simp [hq]), r ++ [p0], h1 _ (by simp), fun p hp => by simp [hp]⟩
theorem parts_first {k : Nat} {n : List (List Pr)} {r : List Pr} {l X : List Int} {p : Pr} {N : List (List Pr)} (h : partsL (k + 1) n r l = some N) (hp : pairL l = some (p, X)) (hk : okA N) : okP p = true := by
  cases X with
  | nil =>
    rw [partsL, hp] at h
    cases h
    exact hk (r ++ [p]) (by simp) p (by simp)
  | cons c t =>
    rw [partsL, hp] at h
    simp only at h
    split at h
    · obtain ⟨_, q, hq, h2⟩ := parts_mem k _ _ _ _ h
      exact hk q hq p (h2 p (by simp))
    · obtain ⟨h1, _⟩ := parts_mem k _ _ _ _ h
      exact hk (r ++ [p]) (h1 _ (by simp)) p (by simp)
theorem to_doc : ∀ (k : Nat) (n : List (List Pr)) (r : List Pr) (l : List Int) (N : List (List Pr)), (∀ x ∈ l, 0 ≤ x ∧ x < 256) → partsL k n r l = some N → okA N → ∃ q qs r' ns, cutG 44 [] l = q :: qs ∧ rdR (cutG 43 [] q) = some r' ∧ nmR qs = some ns ∧ N = n ++ [r ++ r'] ++ ns
  | 0, _, _, _, _, _, h, _ => by simp [partsL] at h
  | k + 1, n, r, l, N, hb, h, hk => by
    cases hp : pairL l with
    | none => rw [partsL, hp] at h; cases h
    | some y =>
      obtain ⟨p, X⟩ := y
      have hpk := parts_first h hp hk
      obtain ⟨hX, P, hP, hs, hpr⟩ := K1 hb hp hpk
      rcases hX with hX | ⟨c, t, hX, hc⟩
      · subst hX
        rw [List.append_nil] at hP
        subst hP
        rw [partsL, hp] at h
        cases h
        refine ⟨l, [], [p], [], cut_P 44 (.inl rfl) l hs, ?_, rfl, by simp⟩
        rw [cut_P 43 (.inr rfl) l hs, rdR_cons]
        exact ⟨p, [], hpr, rfl, rfl⟩
      · subst hX
        rw [partsL, hp] at h
        simp only at h
        have hbt : ∀ x ∈ t, 0 ≤ x ∧ x < 256 := fun x hx => hb x (by rw [hP]; simp [hx])
        by_cases h43 : c = 43
        · subst h43
          rw [if_pos rfl] at h
          obtain ⟨q, qs, r', ns, a1, a2, a3, a4⟩ := to_doc k n (r ++ [p]) t N hbt h hk
          obtain ⟨q2, qs2, b1, b2⟩ := cut_plus P t hs
          rw [a1] at b1
          cases b1
          refine ⟨P ++ 43 :: q, qs, p :: r', ns, by rw [hP]; exact b2, ?_, a3, by rw [a4]; simp⟩
          rw [cut_sep 43 (.inr rfl) P q hs, rdR_cons]
          exact ⟨p, r', hpr, a2, rfl⟩
        · obtain rfl : c = 44 := by omega
          rw [if_neg (by decide)] at h
          obtain ⟨q, qs, r', ns, a1, a2, a3, a4⟩ := to_doc k (n ++ [r ++ [p]]) [] t N hbt h hk
          refine ⟨P, q :: qs, [p], r' :: ns, by rw [hP, cut_sep 44 (.inl rfl) P t hs, a1], ?_, ?_, by rw [a4]; simp⟩
          · rw [cut_P 43 (.inr rfl) P hs, rdR_cons]
            exact ⟨p, [], hpr, rfl, rfl⟩
          · rw [nmR_cons]
            exact ⟨r', ns, a2, a3, rfl⟩
/-- A text is a piece without a bare comma or plus, and a rest; or its last byte is a slash that stands alone. -/
theorem sep_split : ∀ (k : Nat) (l : List Int), l.length ≤ k → ∃ P X, l = P ++ X ∧ sepX X ∧ (segB P = true ∨ (X = [] ∧ segB P = false ∧ (∀ d, d = 44 ∨ d = 43 → ∀ cur, cutG d cur P = [cur ++ P]))) := by
  intro k
  induction k with
  | zero =>
    intro l hl
    obtain rfl : l = [] := List.length_eq_zero_iff.1 (by omega)
    exact ⟨[], [], rfl, .inl rfl, .inl rfl⟩
  | succ k ih =>
    intro l hl
    match l with
    | [] => exact ⟨[], [], rfl, .inl rfl, .inl rfl⟩
    | c :: t =>
      by_cases hs : c = 44 ∨ c = 43
      · exact ⟨[], c :: t, rfl, .inr ⟨c, t, rfl, hs⟩, .inl rfl⟩
      · by_cases h92 : c = 92
        · subst h92
          match t with
          | [] => exact ⟨[92], [], rfl, .inl rfl, .inr ⟨rfl, segB_last, fun d _ cur => cutG_last d cur⟩⟩
          | e :: u =>
            obtain ⟨P, X, h1, h2, h3⟩ := ih u (by simp at hl; omega)
            refine ⟨92 :: e :: P, X, by rw [h1]; rfl, h2, ?_⟩
            rw [segB_esc]
            rcases h3 with h3 | ⟨h3, h4, h5⟩
            · exact .inl h3
            · exact .inr ⟨h3, h4, fun d hd cur => by rw [cutG_esc, h5 d hd]; simp⟩
        · obtain ⟨P, X, h1, h2, h3⟩ := ih t (by simp at hl; omega)
          refine ⟨c :: P, X, by rw [h1]; rfl, h2, ?_⟩
          rw [segB_one c P h92, decide_eq_true (by omega), Bool.true_and]
          rcases h3 with h3 | ⟨h3, h4, h5⟩
          · exact .inl h3
          · exact .inr ⟨h3, h4, fun d hd cur => by rw [cutG_one d cur c P h92 (by omega), h5 d hd]; simp⟩
theorem of_doc : ∀ (k : Nat) (n : List (List Pr)) (r : List Pr) (l q : List Int) (qs : List (List Int)) (r' : List Pr) (ns : List (List Pr)), (∀ x ∈ l, 0 ≤ x ∧ x < 256) → l.length < k → cutG 44 [] l = q :: qs → rdR (cutG 43 [] q) = some r' → nmR qs = some ns → (∀ p ∈ r', okP p = true) → okA ns → partsL k n r l = some (n ++ [r ++ r'] ++ ns)
  | 0, _, _, _, _, _, _, _, _, h, _, _, _, _, _ => absurd h (Nat.not_lt_zero _)
  | k + 1, n, r, l, q, qs, r', ns, hb, hl, hc, hr, hn, hk, hka => by
    obtain ⟨P, X, h1, h2, h3⟩ := sep_split _ l (Nat.le_refl _)
    have hbP : ∀ x ∈ P, 0 ≤ x ∧ x < 256 := fun x hx => hb x (by rw [h1]; simp [hx])
    rcases h3 with hs | ⟨hX, hs, hcut⟩
    · rcases h2 with hX | ⟨c, t, hX, hsep⟩
      · subst hX
        rw [List.append_nil] at h1
        subst h1
        rw [cut_P 44 (.inl rfl) l hs] at hc
        cases hc
        rw [cut_P 43 (.inr rfl) l hs, rdR_cons] at hr
        obtain ⟨p, r2, hp, hr2, rfl⟩ := hr
        cases hr2
        cases hn
        have hK := (K2 hb (.inl rfl) hp (hk p (by simp))).1
        rw [List.append_nil] at hK
        rw [partsL, hK]
        simp
      · subst hX
        have hbt : ∀ x ∈ t, 0 ≤ x ∧ x < 256 := fun x hx => hb x (by rw [h1]; simp [hx])
        have hlt : t.length < k := by rw [h1] at hl; simp at hl; omega
        by_cases h43 : c = 43
        · subst h43
          obtain ⟨q2, qs2, b1, b2⟩ := cut_plus P t hs
          rw [h1, b2] at hc
          cases hc
          rw [cut_sep 43 (.inr rfl) P q2 hs, rdR_cons] at hr
          obtain ⟨p, r2, hp, hr2, rfl⟩ := hr
          have hK := (K2 hbP (.inr ⟨43, t, rfl, .inr rfl⟩) hp (hk p (by simp))).1
          rw [← h1] at hK
          rw [partsL, hK]
          simp only
          rw [if_pos trivial, of_doc k n (r ++ [p]) t q2 qs r2 ns hbt hlt b1 hr2 hn (fun y hy => hk y (by simp [hy])) hka]
          simp
        · obtain rfl : c = 44 := by omega
          rw [h1, cut_sep 44 (.inl rfl) P t hs, List.cons.injEq] at hc
          obtain ⟨hq, hqs⟩ := hc
          subst hq
          subst hqs
          rw [cut_P 43 (.inr rfl) P hs, rdR_cons] at hr
          obtain ⟨p, r2, hp, hr2, rfl⟩ := hr
          cases hr2
          obtain ⟨q2, qs2, b1, _⟩ := cutG_pre 44 _ t [] [] (Nat.le_refl _)
          rw [b1, nmR_cons] at hn
          obtain ⟨r3, n3, c1, c2, rfl⟩ := hn
          have hK := (K2 hbP (.inr ⟨44, t, rfl, .inl rfl⟩) hp (hk p (by simp))).1
          rw [← h1] at hK
          rw [partsL, hK]
          simp only
          rw [if_neg (by decide), of_doc k (n ++ [r ++ [p]]) [] t q2 qs2 r3 n3 hbt hlt b1 c1 c2 (hka r3 (by simp)) (fun y hy => hka y (by simp [hy]))]
          simp
    · subst hX
      rw [List.append_nil] at h1
      subst h1
      rw [hcut 44 (.inl rfl) []] at hc
      simp only [List.nil_append, List.cons.injEq] at hc
      obtain ⟨rfl, _⟩ := hc
      rw [hcut 43 (.inr rfl) [], List.nil_append, rdR_cons] at hr
      obtain ⟨p, r2, hp, hr2, rfl⟩ := hr
      have := (K2 hb (.inl rfl) hp (hk p (by simp))).2
      rw [this] at hs
      cases hs
theorem okN_A {N : List (List Pr)} (h : okN N = true) : okA N := fun r hr => (okR_parts ((okN_parts h).2 r hr)).2
/-- The document's reading is the landed one. -/
theorem doc_same (l : List Int) (hb : ∀ x ∈ l, 0 ≤ x ∧ x < 256) : parR l = match nmR (cutG 44 [] l) with
    | none => none
    | some N => if okN N = true then some N else none := by
  obtain ⟨q, qs, hc, _⟩ := cutG_pre 44 _ l [] [] (Nat.le_refl _)
  cases hn : nmR (cutG 44 [] l) with
  | none =>
    simp only
    unfold parR
    cases hp : partsL (l.length + 1) [] [] l with
    | none => rfl
    | some N =>
      simp only
      split
      · rename_i hk
        obtain ⟨q2, qs2, r', ns, a1, a2, a3, a4⟩ := to_doc _ _ _ _ _ hb hp (okN_A hk)
        rw [a1] at hn
        have := (nmR_cons (q := q2) (t := qs2) (n := r' :: ns)).2 ⟨r', ns, a2, a3, rfl⟩
        rw [this] at hn
        cases hn
      · rfl
  | some N =>
    simp only
    rw [hc, nmR_cons] at hn
    obtain ⟨r', ns, a2, a3, rfl⟩ := hn
    by_cases hk : okN (r' :: ns) = true
    · rw [if_pos hk]
      have hA := okN_A hk
      have := of_doc (l.length + 1) [] [] l q qs r' ns hb (by omega) hc a2 a3 (hA r' (by simp)) (fun y hy => hA y (by simp [hy]))
      rw [parR_some this]
      simp only [List.nil_append, List.singleton_append]
      rw [if_pos hk]
    · rw [if_neg hk]
      unfold parR
      cases hp : partsL (l.length + 1) [] [] l with
      | none => rfl
      | some N =>
        simp only
        split
        · rename_i hk2
          obtain ⟨q2, qs2, r2, n2, b1, b2, b3, b4⟩ := to_doc _ _ _ _ _ hb hp (okN_A hk2)
          rw [hc] at b1
          cases b1
          rw [a2] at b2
          cases b2
          rw [a3] at b3
          cases b3
          rw [b4] at hk2
          exact absurd hk2 (by simpa using hk)
        · rfl
end Go.Proofs.YtnhojjheoafhaaaDoor
