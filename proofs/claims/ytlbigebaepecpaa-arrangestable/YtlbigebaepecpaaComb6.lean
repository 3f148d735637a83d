/- Marks far apart change places till none stands wrongly, plainly: what is left is the run, class by class. -/
import Derived.Test.YtlbigebaepecpaaOrd6
namespace Go.Proofs.Ytlbigebaepecpaa

/-- A mark: its number, its class, where it stood. -/
structure Mk where
  r : Int
  c : Int
  p : Int
def mk0 : Mk := ⟨0, 0, 0⟩
/-- Does one belong ahead of the other? -/
def Mk.ahead (a b : Mk) : Bool := if a.c ≠ b.c then decide (a.c < b.c) else decide (a.p < b.p)
def Mk.key (m : Mk) : Int := m.c * 1000 + m.p
def Mk.good (m : Mk) : Prop := 0 ≤ m.p ∧ m.p < 1000 ∧ 0 ≤ m.c ∧ m.c ≤ 230
theorem Mk.ahead_key {a b : Mk} (ha : a.good) (hb : b.good) : a.ahead b = decide (a.key < b.key) := by
  obtain ⟨a1, a2, a3, a4⟩ := ha
  obtain ⟨b1, b2, b3, b4⟩ := hb
  unfold Mk.ahead Mk.key
  split
  · rename_i h
    rw [decide_eq_decide]
    omega
  · rename_i h
    rw [decide_eq_decide]
    omega
theorem Mk.key_le {m : Mk} (h : m.good) : 0 ≤ m.key ∧ m.key ≤ 231000 := by
  obtain ⟨a1, a2, a3, a4⟩ := h
  unfold Mk.key
  omega

/-- Two change places. -/
def exch (d : List Mk) (i j : Nat) : List Mk := (d.set i (d.getD j mk0)).set j (d.getD i mk0)
theorem exch_len (d : List Mk) (i j : Nat) : (exch d i j).length = d.length := by simp [exch]
theorem exch_right (d : List Mk) (i j : Nat) (hj : j < d.length) : (exch d i j).getD j mk0 = d.getD i mk0 := by
  simp [exch, List.getD, hj]
theorem exch_left (d : List Mk) (i j : Nat) (hi : i < d.length) (h : i ≠ j) : (exch d i j).getD i mk0 = d.getD j mk0 := by
  simp only [exch, List.getD]
  rw [List.getElem?_set_ne (by omega), List.getElem?_set_self hi]
  rfl
theorem exch_other (d : List Mk) (i j k : Nat) (hi : k ≠ i) (hj : k ≠ j) : (exch d i j).getD k mk0 = d.getD k mk0 := by
  simp only [exch, List.getD]
  rw [List.getElem?_set_ne (by omega), List.getElem?_set_ne (by omega)]
theorem exch_perm (d : List Mk) (i j : Nat) (hi : i < d.length) (hj : j < d.length) : (exch d i j).Perm d := by
  classical
  rw [List.perm_iff_count]
  intro m
  have gi : d.getD i mk0 = d[i] := by simp [List.getD, hi]
  have gj : d.getD j mk0 = d[j] := by simp [List.getD, hj]
  unfold exch
  rw [gi, gj, List.count_set (by simpa using hj), List.count_set hi]
  have ci : d[i] = m → 0 < d.count m := fun h => List.count_pos_iff.2 (h ▸ List.getElem_mem hi)
  have cj : d[j] = m → 0 < d.count m := fun h => List.count_pos_iff.2 (h ▸ List.getElem_mem hj)
  rw [List.getElem_set]
  by_cases hij : i = j
  · subst hij
    rw [if_pos rfl]
    by_cases h : d[i] = m
    · have := ci h
      simp [h]
      omega
    · simp [h]
  · rw [if_neg hij]
    by_cases h1 : d[i] = m
    · have := ci h1
      by_cases h2 : d[j] = m
      · simp [h1, h2]
        omega
      · simp [h1, h2]
        omega
    · by_cases h2 : d[j] = m
      · have := cj h2
        simp [h1, h2]
      · simp [h1, h2]

/-- How far what has a great key stands behind. -/
def pot : Int → List Mk → Int
  | _, [] => 0
  | s, m :: t => s * m.key + pot (s + 1) t
theorem pot_set : ∀ (d : List Mk) (s : Int) (i : Nat) (x : Mk), i < d.length → pot s (d.set i x) = pot s d + (s + i) * (x.key - (d.getD i mk0).key)
  | [], _, _, _, h => by simp at h
  | m :: t, s, 0, x, _ => by
    simp only [List.set_cons_zero, pot]
    have : (m :: t).getD 0 mk0 = m := rfl
    rw [this, Int.mul_sub]
    simp
    omega
  | m :: t, s, i + 1, x, h => by
    have ih := pot_set t (s + 1) i x (by simpa using h)
    simp only [List.set_cons_succ, pot]
    have e : (m :: t).getD (i + 1) mk0 = t.getD i mk0 := rfl
    have e2 : s + 1 + (i : Int) = s + ((i + 1 : Nat) : Int) := by omega
    rw [ih, e, e2]
    omega
theorem pot_exch (d : List Mk) (i j : Nat) (hi : i < d.length) (h : j < i) (hk : (d.getD i mk0).key < (d.getD j mk0).key) : pot 0 d < pot 0 (exch d i j) := by
  unfold exch
  rw [pot_set _ _ _ _ (by simp; omega), pot_set _ _ _ _ hi]
  have e : (d.set i (d.getD j mk0)).getD j mk0 = d.getD j mk0 := by simp [List.getD, List.getElem?_set_ne (by omega : i ≠ j)]
  rw [e]
  generalize (d.getD i mk0).key = x at *
  generalize (d.getD j mk0).key = y at *
  have : 0 < ((i : Int) - j) * (y - x) := Int.mul_pos (by omega) (by omega)
  have e1 : ((i : Int) - j) * (y - x) = i * (y - x) + j * (x - y) := by
    rw [Int.sub_mul, Int.mul_sub, Int.mul_sub, Int.mul_sub]; omega
  rw [e1] at this
  simp only [Int.zero_add]
  omega
theorem pot_le (Kb : Int) (hK : 0 ≤ Kb) : ∀ (d : List Mk) (s : Int), 0 ≤ s → (∀ m, m ∈ d → m.key ≤ Kb) → pot s d ≤ d.length * ((s + d.length) * Kb)
  | [], _, _, _ => by simp [pot]
  | m :: t, s, hs, h => by
    have ih := pot_le Kb hK t (s + 1) (by omega) fun x hx => h x (by simp [hx])
    have h1 : s * m.key ≤ s * Kb := Int.mul_le_mul_of_nonneg_left (h m (by simp)) hs
    have e2 : s + 1 + (t.length : Int) = s + ((m :: t).length : Int) := by simp; omega
    rw [e2] at ih
    have h3 : s * Kb ≤ (s + ((m :: t).length : Int)) * Kb := Int.mul_le_mul_of_nonneg_right (by omega) hK
    simp only [pot]
    generalize (s + ((m :: t).length : Int)) * Kb = X at *
    have e4 : ((m :: t).length : Int) * X = t.length * X + X := by
      simp only [List.length_cons]
      rw [Int.natCast_add, Int.add_mul]; simp
    rw [e4]
    omega
def potMax : Int := 1000 * (1000 * 231000)
theorem pot_max (d : List Mk) (hl : d.length ≤ 1000) (hg : ∀ m, m ∈ d → m.good) : pot 0 d ≤ potMax := by
  have h := pot_le 231000 (by decide) d 0 (by omega) fun m hm => (Mk.key_le (hg m hm)).2
  rw [Int.zero_add] at h
  have h1 : (d.length : Int) * 231000 ≤ 1000 * 231000 := by omega
  have h2 : (d.length : Int) * ((d.length : Int) * 231000) ≤ d.length * (1000 * 231000) := Int.mul_le_mul_of_nonneg_left h1 (by omega)
  unfold potMax
  omega

/-- The marks of a run, as they stand. -/
def mks (c : Int → Int) : Nat → List Int → List Mk
  | _, [] => []
  | s, x :: t => ⟨x, c x, s⟩ :: mks c (s + 1) t
section
variable {c : Int → Int} {K : List Int}
theorem mks_len : ∀ (l : List Int) (s : Nat), (mks c s l).length = l.length
  | [], _ => rfl
  | x :: t, s => by simp [mks, mks_len t (s + 1)]
theorem mks_getD : ∀ (l : List Int) (s i : Nat), i < l.length → (mks c s l).getD i mk0 = ⟨l.getD i 0, c (l.getD i 0), ((s + i : Nat) : Int)⟩
  | [], _, _, h => by simp at h
  | x :: t, s, 0, _ => rfl
  | x :: t, s, i + 1, h => by
    have ih := mks_getD t (s + 1) i (by simpa using h)
    have e : (mks c s (x :: t)).getD (i + 1) mk0 = (mks c (s + 1) t).getD i mk0 := rfl
    have e2 : (x :: t).getD (i + 1) 0 = t.getD i 0 := rfl
    rw [e, ih, e2]
    congr 1
    omega
theorem mks_mem : ∀ (l : List Int) (s : Nat) (m : Mk), m ∈ mks c s l → m.c = c m.r ∧ (s : Int) ≤ m.p ∧ m.p < ((s + l.length : Nat) : Int)
  | [], _, _, h => by simp [mks] at h
  | x :: t, s, m, h => by
    simp only [mks, List.mem_cons] at h
    rcases h with rfl | h
    · simp; omega
    · have := mks_mem t (s + 1) m h
      simp only [List.length_cons]
      omega
theorem mks_inj : ∀ (l : List Int) (s : Nat) (a b : Mk), a ∈ mks c s l → b ∈ mks c s l → a.p = b.p → a = b
  | [], _, _, _, h, _, _ => by simp [mks] at h
  | x :: t, s, a, b, ha, hb, hp => by
    simp only [mks, List.mem_cons] at ha hb
    rcases ha with rfl | ha
    · rcases hb with rfl | hb
      · rfl
      · have := mks_mem t (s + 1) b hb
        simp at hp
        omega
    · rcases hb with rfl | hb
      · have := mks_mem t (s + 1) a ha
        simp at hp
        omega
      · exact mks_inj t (s + 1) a b ha hb hp
theorem mks_rise : ∀ (l : List Int) (s : Nat), (mks c s l).Pairwise fun a b => a.p < b.p
  | [], _ => List.Pairwise.nil
  | x :: t, s => List.pairwise_cons.2 ⟨fun b hb => by
      have := mks_mem t (s + 1) b hb
      simp only
      omega, mks_rise t (s + 1)⟩
theorem mks_of (k : Int) : ∀ (l : List Int) (s : Nat), ((mks c s l).filter fun m => decide (m.c = k)).map Mk.r = ofK c k l
  | [], _ => rfl
  | x :: t, s => by
    have ih := mks_of k t (s + 1)
    simp only [mks, ofK, List.filter_cons] at ih ⊢
    by_cases h : c x = k
    · simp [h, ih]
    · simp [h, ih]
/-- The marks, class by class. -/
def byK (K : List Int) (M : List Mk) : List Mk := K.flatMap fun k => M.filter fun m => decide (m.c = k)
theorem byK_map (l : List Int) (s : Nat) : ∀ K : List Int, (byK K (mks c s l)).map Mk.r = srt c K l
  | [] => rfl
  | k :: K => by
    have ih := byK_map l s K
    unfold byK srt at ih ⊢
    rw [List.flatMap_cons, List.flatMap_cons, List.map_append, ih, mks_of]
theorem byK_perm : ∀ (K : List Int), K.Pairwise (· < ·) → ∀ (M : List Mk), (∀ m, m ∈ M → m.c ∈ K) → (byK K M).Perm M
  | [], _, M, h => by
    cases M with
    | nil => exact List.Perm.refl _
    | cons m M => have := h m (by simp); simp at this
  | k :: K, hp, M, h => by
    have ih := byK_perm K hp.of_cons (M.filter fun m => !decide (m.c = k)) fun m hm => by
      simp only [List.mem_filter, Bool.not_eq_true', decide_eq_false_iff_not] at hm
      rcases List.mem_cons.1 (h m hm.1) with e | e
      · exact absurd e hm.2
      · exact e
    have e : ∀ (L : List Int), (∀ j, j ∈ L → j ∈ K) → byK L (M.filter fun m => !decide (m.c = k)) = byK L M := by
      intro L
      induction L with
      | nil => intro _; rfl
      | cons j L ihL =>
        intro hL
        have hj := (List.pairwise_cons.1 hp).1 j (hL j (by simp))
        have i2 := ihL fun i hi => hL i (by simp [hi])
        unfold byK at i2 ⊢
        rw [List.flatMap_cons, List.flatMap_cons, i2, List.filter_filter]
        congr 1
        congr 1
        funext m
        by_cases hx : m.c = j
        · simp [hx]; omega
        · simp [hx]
    rw [e K fun _ h => h] at ih
    have h2 : (byK (k :: K) M) = (M.filter fun m => decide (m.c = k)) ++ byK K M := by unfold byK; rw [List.flatMap_cons]
    rw [h2]
    exact (List.Perm.append_left _ ih).trans (List.filter_append_perm (fun m : Mk => decide (m.c = k)) M)
theorem byK_mem {K : List Int} {M : List Mk} {m : Mk} (h : m ∈ byK K M) : m ∈ M ∧ m.c ∈ K := by
  unfold byK at h
  rw [List.mem_flatMap] at h
  obtain ⟨k, hk, hm⟩ := h
  simp only [List.mem_filter, decide_eq_true_eq] at hm
  exact ⟨hm.1, by rw [hm.2]; exact hk⟩
theorem byK_sorted : ∀ (K : List Int), K.Pairwise (· < ·) → ∀ (M : List Mk), (∀ m, m ∈ M → m.good) → (M.Pairwise fun a b => a.p < b.p) → (byK K M).Pairwise fun a b => a.key ≤ b.key
  | [], _, _, _, _ => List.Pairwise.nil
  | k :: K, hp, M, hg, hr => by
    have ih := byK_sorted K hp.of_cons M hg hr
    have h2 : (byK (k :: K) M) = (M.filter fun m => decide (m.c = k)) ++ byK K M := by unfold byK; rw [List.flatMap_cons]
    rw [h2, List.pairwise_append]
    refine ⟨?_, ih, fun a ha b hb => ?_⟩
    · refine List.Pairwise.imp_of_mem (fun {a b} ha hb h => ?_) (hr.filter _)
      simp only [List.mem_filter, decide_eq_true_eq] at ha hb
      unfold Mk.key
      rw [ha.2, hb.2]
      omega
    · simp only [List.mem_filter, decide_eq_true_eq] at ha
      obtain ⟨b1, b2⟩ := byK_mem hb
      have := (List.pairwise_cons.1 hp).1 _ b2
      obtain ⟨p1, p2, p3, p4⟩ := hg a ha.1
      obtain ⟨q1, q2, q3, q4⟩ := hg b b1
      unfold Mk.key
      rw [ha.2] at *
      omega
theorem mks_good (hn : ∀ x, 0 ≤ c x) (hm : ∀ x, c x ≤ 230) (l : List Int) (hl : l.length ≤ 1000) : ∀ m, m ∈ mks c 0 l → m.good := fun m h => by
  obtain ⟨h1, h2, h3⟩ := mks_mem l 0 m h
  have := hn m.r
  have := hm m.r
  refine ⟨by omega, by omega, by omega, by omega⟩
/-- What is sorted, and holds the marks of a run, is the run, class by class. -/
theorem comb_end (hp : K.Pairwise (· < ·)) (hK : ∀ x, c x ∈ K) (hn : ∀ x, 0 ≤ c x) (hm : ∀ x, c x ≤ 230) (l : List Int) (hl : l.length ≤ 1000) (d : List Mk) (hd : d.Perm (mks c 0 l)) (hs : d.Pairwise fun a b => a.key ≤ b.key) :
    d.map Mk.r = srt c K l := by
  have hg := mks_good hn hm l hl
  have hk : ∀ m, m ∈ mks c 0 l → m.c ∈ K := fun m h => by rw [(mks_mem l 0 m h).1]; exact hK _
  have hP := byK_perm K hp (mks c 0 l) hk
  have e : d = byK K (mks c 0 l) := by
    refine List.Perm.eq_of_pairwise (le := fun a b => a.key ≤ b.key) (fun a b ha hb h1 h2 => ?_) hs (byK_sorted K hp _ hg (mks_rise l 0)) (hd.trans hP.symm)
    have ha' := hd.mem_iff.1 ha
    have hb' := hP.mem_iff.1 hb
    refine mks_inj l 0 a b ha' hb' ?_
    obtain ⟨p1, p2, p3, p4⟩ := hg a ha'
    obtain ⟨q1, q2, q3, q4⟩ := hg b hb'
    unfold Mk.key at h1 h2
    omega
  rw [e, byK_map]
/-- Where none stands wrongly behind the one ahead, all is sorted. -/
theorem side_sorted (d : List Mk) (h : ∀ j, 1 ≤ j → j < d.length → (d.getD (j - 1) mk0).key ≤ (d.getD j mk0).key) : d.Pairwise fun a b => a.key ≤ b.key := by
  rw [List.pairwise_iff_getElem]
  intro i j hi hj hij
  have key : ∀ n, i + n < d.length → (d.getD i mk0).key ≤ (d.getD (i + n) mk0).key := by
    intro n
    induction n with
    | zero => intro _; exact Int.le_refl _
    | succ n ih =>
      intro hn
      have h1 := ih (by omega)
      have h2 := h (i + n + 1) (by omega) hn
      have e : i + n + 1 - 1 = i + n := by omega
      rw [e] at h2
      exact Int.le_trans h1 h2
  have := key (j - i) (by omega)
  have e : i + (j - i) = j := by omega
  rw [e] at this
  simpa [List.getD, hi, hj] using this
end
end Go.Proofs.Ytlbigebaepecpaa
