/- Marks far apart change places till none stands wrongly, plainly: what is left is the run, class by class. -/
import Derived.Test.YticgeabmhmojfaaGreatDoorM07
import Derived.Test.YticgeabmhmojfaaGreatDoorM02
import Derived.ScopeJumps
import Derived.WalkMore
import Derived.Test.YticgeabmhmojfaaGreatDoorM05
import Derived.Deep.AppendLies
namespace Go.Proofs.YticgeabmhmojfaaGreatDoor
set_option maxRecDepth 100000

/-- A mark: its number, its class, where it stood. -/
structure Mk where
  r : Int
  c : Int
  p : Int
def mk0 : Mk := ⟨0, 0, 0⟩
/-- Does one belong ahead of the other? -/
def Mk.ahead (a b : Mk) : Bool := if a.c ≠ b.c then decide (a.c < b.c) else decide (a.p < b.p)
def Mk.key (m : Mk) : Int := m.c * 1000 + m.p
def Mk.good (m : Mk) : Prop := 0 ≤ m.p ∧ m.p < 1000 ∧ 0 ≤ m.c ∧ m.c ≤ 230
theorem Mk.ahead_key {a b : Mk} (ha : a.good) (hb : b.good) : a.ahead b = decide (a.key < b.key) := by
  obtain ⟨a1, a2, a3, a4⟩ := ha
  obtain ⟨b1, b2, b3, b4⟩ := hb
  unfold Mk.ahead Mk.key
  split
  · rename_i h
    rw [decide_eq_decide]
    omega
  · rename_i h
    rw [decide_eq_decide]
    omega
theorem Mk.key_le {m : Mk} (h : m.good) : 0 ≤ m.key ∧ m.key ≤ 231000 := by
  obtain ⟨a1, a2, a3, a4⟩ := h
  unfold Mk.key
  omega

/-- Two change places. -/
def exch (d : List Mk) (i j : Nat) : List Mk := (d.set i (d.getD j mk0)).set j (d.getD i mk0)
theorem exch_len (d : List Mk) (i j : Nat) : (exch d i j).length = d.length := by simp [exch]
theorem exch_right (d : List Mk) (i j : Nat) (hj : j < d.length) : (exch d i j).getD j mk0 = d.getD i mk0 := by
  simp [exch, List.getD, hj]
theorem exch_left (d : List Mk) (i j : Nat) (hi : i < d.length) (h : i ≠ j) : (exch d i j).getD i mk0 = d.getD j mk0 := by
  simp only [exch, List.getD]
  rw [List.getElem?_set_ne (by omega), List.getElem?_set_self hi]
  rfl
theorem exch_other (d : List Mk) (i j k : Nat) (hi : k ≠ i) (hj : k ≠ j) : (exch d i j).getD k mk0 = d.getD k mk0 := by
  simp only [exch, List.getD]
  rw [List.getElem?_set_ne (by omega), List.getElem?_set_ne (by omega)]
theorem exch_perm (d : List Mk) (i j : Nat) (hi : i < d.length) (hj : j < d.length) : (exch d i j).Perm d := by
  classical
  rw [List.perm_iff_count]
  intro m
  have gi : d.getD i mk0 = d[i] := by simp [List.getD, hi]
  have gj : d.getD j mk0 = d[j] := by simp [List.getD, hj]
  unfold exch
  rw [gi, gj, List.count_set (by simpa using hj), List.count_set hi]
  have ci : d[i] = m → 0 < d.count m := fun h => List.count_pos_iff.2 (h ▸ List.getElem_mem hi)
  have cj : d[j] = m → 0 < d.count m := fun h => List.count_pos_iff.2 (h ▸ List.getElem_mem hj)
  rw [List.getElem_set]
  by_cases hij : i = j
  · subst hij
    rw [if_pos rfl]
    by_cases h : d[i] = m
    · have := ci h
      simp [h]
      omega
    · simp [h]
  · rw [if_neg hij]
    by_cases h1 : d[i] = m
    · have := ci h1
      by_cases h2 : d[j] = m
      · simp [h1, h2]
        omega
      · simp [h1, h2]
        omega
    · by_cases h2 : d[j] = m
      · have := cj h2
        simp [h1, h2]
      · simp [h1, h2]

/-- How far what has a great key stands behind. -/
def pot : Int → List Mk → Int
  | _, [] => 0
  | s, m :: t => s * m.key + pot (s + 1) t
theorem pot_set : ∀ (d : List Mk) (s : Int) (i : Nat) (x : Mk), i < d.length → pot s (d.set i x) = pot s d + (s + i) * (x.key - (d.getD i mk0).key)
  | [], _, _, _, h => by simp at h
  | m :: t, s, 0, x, _ => by
    simp only [List.set_cons_zero, pot]
    have : (m :: t).getD 0 mk0 = m := rfl
    rw [this, Int.mul_sub]
    simp
    omega
  | m :: t, s, i + 1, x, h => by
    have ih := pot_set t (s + 1) i x (by simpa using h)
    simp only [List.set_cons_succ, pot]
    have e : (m :: t).getD (i + 1) mk0 = t.getD i mk0 := rfl
    have e2 : s + 1 + (i : Int) = s + ((i + 1 : Nat) : Int) := by omega
    rw [ih, e, e2]
    omega
theorem pot_exch (d : List Mk) (i j : Nat) (hi : i < d.length) (h : j < i) (hk : (d.getD i mk0).key < (d.getD j mk0).key) : pot 0 d < pot 0 (exch d i j) := by
  unfold exch
  rw [pot_set _ _ _ _ (by simp; omega), pot_set _ _ _ _ hi]
  have e : (d.set i (d.getD j mk0)).getD j mk0 = d.getD j mk0 := by simp [List.getD, List.getElem?_set_ne (by omega : i ≠ j)]
  rw [e]
  generalize (d.getD i mk0).key = x at *
  generalize (d.getD j mk0).key = y at *
  have : 0 < ((i : Int) - j) * (y - x) := Int.mul_pos (by omega) (by omega)
  have e1 : ((i : Int) - j) * (y - x) = i * (y - x) + j * (x - y) := by
    rw [Int.sub_mul, Int.mul_sub, Int.mul_sub, Int.mul_sub]; omega
  rw [e1] at this
  simp only [Int.zero_add]
  omega
theorem pot_le (Kb : Int) (hK : 0 ≤ Kb) : ∀ (d : List Mk) (s : Int), 0 ≤ s → (∀ m, m ∈ d → m.key ≤ Kb) → pot s d ≤ d.length * ((s + d.length) * Kb)
  | [], _, _, _ => by simp [pot]
  | m :: t, s, hs, h => by
    have ih := pot_le Kb hK t (s + 1) (by omega) fun x hx => h x (by simp [hx])
    have h1 : s * m.key ≤ s * Kb := Int.mul_le_mul_of_nonneg_left (h m (by simp)) hs
    have e2 : s + 1 + (t.length : Int) = s + ((m :: t).length : Int) := by simp; omega
    rw [e2] at ih
    have h3 : s * Kb ≤ (s + ((m :: t).length : Int)) * Kb := Int.mul_le_mul_of_nonneg_right (by omega) hK
    simp only [pot]
    generalize (s + ((m :: t).length : Int)) * Kb = X at *
    have e4 : ((m :: t).length : Int) * X = t.length * X + X := by
      simp only [List.length_cons]
      rw [Int.natCast_add, Int.add_mul]; simp
    rw [e4]
    omega
def potMax : Int := 1000 * (1000 * 231000)
theorem pot_max (d : List Mk) (hl : d.length ≤ 1000) (hg : ∀ m, m ∈ d → m.good) : pot 0 d ≤ potMax := by
  have h := pot_le 231000 (by decide) d 0 (by omega) fun m hm => (Mk.key_le (hg m hm)).2
  rw [Int.zero_add] at h
  have h1 : (d.length : Int) * 231000 ≤ 1000 * 231000 := by omega
  have h2 : (d.length : Int) * ((d.length : Int) * 231000) ≤ d.length * (1000 * 231000) := Int.mul_le_mul_of_nonneg_left h1 (by omega)
  unfold potMax
  omega

/-- The marks of a run, as they stand. -/
def mks (c : Int → Int) : Nat → List Int → List Mk
  | _, [] => []
  | s, x :: t => ⟨x, c x, s⟩ :: mks c (s + 1) t
section
variable {c : Int → Int} {K : List Int}
theorem mks_len : ∀ (l : List Int) (s : Nat), (mks c s l).length = l.length
  | [], _ => rfl
  | x :: t, s => by simp [mks, mks_len t (s + 1)]
theorem mks_getD : ∀ (l : List Int) (s i : Nat), i < l.length → (mks c s l).getD i mk0 = ⟨l.getD i 0, c (l.getD i 0), ((s + i : Nat) : Int)⟩
  | [], _, _, h => by simp at h
  | x :: t, s, 0, _ => rfl
  | x :: t, s, i + 1, h => by
    have ih := mks_getD t (s + 1) i (by simpa using h)
    have e : (mks c s (x :: t)).getD (i + 1) mk0 = (mks c (s + 1) t).getD i mk0 := rfl
    have e2 : (x :: t).getD (i + 1) 0 = t.getD i 0 := rfl
    rw [e, ih, e2]
    congr 1
    omega
theorem mks_mem : ∀ (l : List Int) (s : Nat) (m : Mk), m ∈ mks c s l → m.c = c m.r ∧ (s : Int) ≤ m.p ∧ m.p < ((s + l.length : Nat) : Int)
  | [], _, _, h => by simp [mks] at h
  | x :: t, s, m, h => by
    simp only [mks, List.mem_cons] at h
    rcases h with rfl | h
    · simp; omega
    · have := mks_mem t (s + 1) m h
      simp only [List.length_cons]
      omega
theorem mks_inj : ∀ (l : List Int) (s : Nat) (a b : Mk), a ∈ mks c s l → b ∈ mks c s l → a.p = b.p → a = b
  | [], _, _, _, h, _, _ => by simp [mks] at h
  | x :: t, s, a, b, ha, hb, hp => by
    simp only [mks, List.mem_cons] at ha hb
    rcases ha with rfl | ha
    · rcases hb with rfl | hb
      · rfl
      · have := mks_mem t (s + 1) b hb
        simp at hp
        omega
    · rcases hb with rfl | hb
      · have := mks_mem t (s + 1) a ha
        simp at hp
        omega
      · exact mks_inj t (s + 1) a b ha hb hp
theorem mks_rise : ∀ (l : List Int) (s : Nat), (mks c s l).Pairwise fun a b => a.p < b.p
  | [], _ => List.Pairwise.nil
  | x :: t, s => List.pairwise_cons.2 ⟨fun b hb => by
      have := mks_mem t (s + 1) b hb
      simp only
      omega, mks_rise t (s + 1)⟩
theorem mks_of (k : Int) : ∀ (l : List Int) (s : Nat), ((mks c s l).filter fun m => decide (m.c = k)).map Mk.r = ofK c k l
  | [], _ => rfl
  | x :: t, s => by
    have ih := mks_of k t (s + 1)
    simp only [mks, ofK, List.filter_cons] at ih ⊢
    by_cases h : c x = k
    · simp [h, ih]
    · simp [h, ih]
/-- The marks, class by class. -/
def byK (K : List Int) (M : List Mk) : List Mk := K.flatMap fun k => M.filter fun m => decide (m.c = k)
theorem byK_map (l : List Int) (s : Nat) : ∀ K : List Int, (byK K (mks c s l)).map Mk.r = srt c K l
  | [] => rfl
  | k :: K => by
    have ih := byK_map l s K
    unfold byK srt at ih ⊢
    rw [List.flatMap_cons, List.flatMap_cons, List.map_append, ih, mks_of]
theorem byK_perm : ∀ (K : List Int), K.Pairwise (· < ·) → ∀ (M : List Mk), (∀ m, m ∈ M → m.c ∈ K) → (byK K M).Perm M
  | [], _, M, h => by
    cases M with
    | nil => exact List.Perm.refl _
    | cons m M => have := h m (by simp); simp at this
  | k :: K, hp, M, h => by
    have ih := byK_perm K hp.of_cons (M.filter fun m => !decide (m.c = k)) fun m hm => by
      simp only [List.mem_filter, Bool.not_eq_true', decide_eq_false_iff_not] at hm
      rcases List.mem_cons.1 (h m hm.1) with e | e
      · exact absurd e hm.2
      · exact e
    have e : ∀ (L : List Int), (∀ j, j ∈ L → j ∈ K) → byK L (M.filter fun m => !decide (m.c = k)) = byK L M := by
      intro L
      induction L with
      | nil => intro _; rfl
      | cons j L ihL =>
        intro hL
        have hj := (List.pairwise_cons.1 hp).1 j (hL j (by simp))
        have i2 := ihL fun i hi => hL i (by simp [hi])
        unfold byK at i2 ⊢
        rw [List.flatMap_cons, List.flatMap_cons, i2, List.filter_filter]
        congr 1
        congr 1
        funext m
        by_cases hx : m.c = j
        · simp [hx]; omega
        · simp [hx]
    rw [e K fun _ h => h] at ih
    have h2 : (byK (k :: K) M) = (M.filter fun m => decide (m.c = k)) ++ byK K M := by unfold byK; rw [List.flatMap_cons]
    rw [h2]
    exact (List.Perm.append_left _ ih).trans (List.filter_append_perm (fun m : Mk => decide (m.c = k)) M)
theorem byK_mem {K : List Int} {M : List Mk} {m : Mk} (h : m ∈ byK K M) : m ∈ M ∧ m.c ∈ K := by
  unfold byK at h
  rw [List.mem_flatMap] at h
  obtain ⟨k, hk, hm⟩ := h
  simp only [List.mem_filter, decide_eq_true_eq] at hm
  exact ⟨hm.1, by rw [hm.2]; exact hk⟩
theorem byK_sorted : ∀ (K : List Int), K.Pairwise (· < ·) → ∀ (M : List Mk), (∀ m, m ∈ M → m.good) → (M.Pairwise fun a b => a.p < b.p) → (byK K M).Pairwise fun a b => a.key ≤ b.key
  | [], _, _, _, _ => List.Pairwise.nil
  | k :: K, hp, M, hg, hr => by
    have ih := byK_sorted K hp.of_cons M hg hr
    have h2 : (byK (k :: K) M) = (M.filter fun m => decide (m.c = k)) ++ byK K M := by unfold byK; rw [List.flatMap_cons]
    rw [h2, List.pairwise_append]
    refine ⟨?_, ih, fun a ha b hb => ?_⟩
    · refine List.Pairwise.imp_of_mem (fun {a b} ha hb h => ?_) (hr.filter _)
      simp only [List.mem_filter, decide_eq_true_eq] at ha hb
      unfold Mk.key
      rw [ha.2, hb.2]
      omega
    · simp only [List.mem_filter, decide_eq_true_eq] at ha
      obtain ⟨b1, b2⟩ := byK_mem hb
      have := (List.pairwise_cons.1 hp).1 _ b2
      obtain ⟨p1, p2, p3, p4⟩ := hg a ha.1
      obtain ⟨q1, q2, q3, q4⟩ := hg b b1
      unfold Mk.key
      rw [ha.2] at *
      omega
theorem mks_good (hn : ∀ x, 0 ≤ c x) (hm : ∀ x, c x ≤ 230) (l : List Int) (hl : l.length ≤ 1000) : ∀ m, m ∈ mks c 0 l → m.good := fun m h => by
  obtain ⟨h1, h2, h3⟩ := mks_mem l 0 m h
  have := hn m.r
  have := hm m.r
  refine ⟨by omega, by omega, by omega, by omega⟩
/-- What is sorted, and holds the marks of a run, is the run, class by class. -/
theorem comb_end (hp : K.Pairwise (· < ·)) (hK : ∀ x, c x ∈ K) (hn : ∀ x, 0 ≤ c x) (hm : ∀ x, c x ≤ 230) (l : List Int) (hl : l.length ≤ 1000) (d : List Mk) (hd : d.Perm (mks c 0 l)) (hs : d.Pairwise fun a b => a.key ≤ b.key) :
    d.map Mk.r = srt c K l := by
  have hg := mks_good hn hm l hl
  have hk : ∀ m, m ∈ mks c 0 l → m.c ∈ K := fun m h => by rw [(mks_mem l 0 m h).1]; exact hK _
  have hP := byK_perm K hp (mks c 0 l) hk
  have e : d = byK K (mks c 0 l) := by
    refine List.Perm.eq_of_pairwise (le := fun a b => a.key ≤ b.key) (fun a b ha hb h1 h2 => ?_) hs (byK_sorted K hp _ hg (mks_rise l 0)) (hd.trans hP.symm)
    have ha' := hd.mem_iff.1 ha
    have hb' := hP.mem_iff.1 hb
    refine mks_inj l 0 a b ha' hb' ?_
    obtain ⟨p1, p2, p3, p4⟩ := hg a ha'
    obtain ⟨q1, q2, q3, q4⟩ := hg b hb'
    unfold Mk.key at h1 h2
    omega
  rw [e, byK_map]
/-- Where none stands wrongly behind the one ahead, all is sorted. -/
theorem side_sorted (d : List Mk) (h : ∀ j, 1 ≤ j → j < d.length → (d.getD (j - 1) mk0).key ≤ (d.getD j mk0).key) : d.Pairwise fun a b => a.key ≤ b.key := by
  rw [List.pairwise_iff_getElem]
  intro i j hi hj hij
  have key : ∀ n, i + n < d.length → (d.getD i mk0).key ≤ (d.getD (i + n) mk0).key := by
    intro n
    induction n with
    | zero => intro _; exact Int.le_refl _
    | succ n ih =>
      intro hn
      have h1 := ih (by omega)
      have h2 := h (i + n + 1) (by omega) hn
      have e : i + n + 1 - 1 = i + n := by omega
      rw [e] at h2
      exact Int.le_trans h1 h2
  have := key (j - i) (by omega)
  have e : i + (j - i) = j := by omega
  rw [e] at this
  simpa [List.getD, hi, hj] using this
end
end Go.Proofs.YticgeabmhmojfaaGreatDoor
/- Marks in memory; how near the marks are that are looked at next, and which belongs ahead. -/
namespace Go.Proofs.YticgeabmhmojfaaGreatDoor
set_option maxRecDepth 100000
open Go.RowKit

def Mk.vals (m : Mk) : List Value := [.int .i32 m.r, .int .i64 m.c, .int .i64 m.p]
def Mk.val (m : Mk) : Value := .agg #[.int .i32 m.r, .int .i64 m.c, .int .i64 m.p]
def mflat (d : List Mk) : List Value := d.flatMap Mk.vals
theorem mflat_len : ∀ d : List Mk, (mflat d).length = d.length * 3
  | [] => rfl
  | m :: t => by
    have := mflat_len t
    unfold mflat at this ⊢
    rw [List.flatMap_cons, List.length_append, this]
    simp [Mk.vals]
    omega
theorem mflat_cons (m : Mk) (t : List Mk) : mflat (m :: t) = .int .i32 m.r :: .int .i64 m.c :: .int .i64 m.p :: mflat t := by
  unfold mflat
  rw [List.flatMap_cons]; rfl
theorem mflat_get : ∀ (d : List Mk) (i : Nat), i < d.length → (mflat d)[i * 3]? = some (.int .i32 (d.getD i mk0).r) ∧ (mflat d)[i * 3 + 1]? = some (.int .i64 (d.getD i mk0).c) ∧ (mflat d)[i * 3 + 2]? = some (.int .i64 (d.getD i mk0).p)
  | [], _, h => by simp at h
  | m :: t, 0, _ => by rw [mflat_cons]; exact ⟨rfl, rfl, rfl⟩
  | m :: t, i + 1, h => by
    have ih := mflat_get t i (by simpa using h)
    rw [mflat_cons]
    have e1 : (i + 1) * 3 = i * 3 + 3 := by omega
    rw [e1]
    exact ih
theorem mflat_set : ∀ (d : List Mk) (i : Nat) (x : Mk), i < d.length → (((mflat d).set (i * 3) (.int .i32 x.r)).set (i * 3 + 1) (.int .i64 x.c)).set (i * 3 + 2) (.int .i64 x.p) = mflat (d.set i x)
  | [], _, _, h => by simp at h
  | m :: t, 0, x, _ => by
    show _ = mflat (x :: t)
    rw [mflat_cons, mflat_cons]; rfl
  | m :: t, i + 1, x, h => by
    have ih := mflat_set t i x (by simpa using h)
    rw [mflat_cons, List.set_cons_succ, mflat_cons, ← ih]
    have e1 : (i + 1) * 3 = i * 3 + 3 := by omega
    rw [e1]
    rfl
/-- A row of marks of the call's own. -/
def Mr (B : Nat) (v : Value) (d : List Mk) (w : World) : Prop := w.ownsRow B 91 3 v d.length (mflat d)
theorem Mr.cell {B g n cap : Nat} {d : List Mk} {w : World} (h : Mr B (.slice (some ⟨g, 0, none⟩) n cap) d w) (hn : n = d.length) (i : Nat) (hi : i < n) :
    w.cell? ⟨g, i * 3, none⟩ = some (.int .i32 (d.getD i mk0).r) ∧ w.cell? ⟨g, i * 3 + 1, none⟩ = some (.int .i64 (d.getD i mk0).c) ∧ w.cell? ⟨g, i * 3 + 2, none⟩ = some (.int .i64 (d.getD i mk0).p) := by
  subst hn
  obtain ⟨h1, h2, h3⟩ := mflat_get d i hi
  exact ⟨(World.ownsRow.cellAt h _ (by omega)).trans h1, (World.ownsRow.cellAt h _ (by omega)).trans h2, (World.ownsRow.cellAt h _ (by omega)).trans h3⟩
theorem Mr.free {B g n cap : Nat} {d : List Mk} {w : World} (h : Mr B (.slice (some ⟨g, 0, none⟩) n cap) d w) (hn : n = d.length) (o : Nat) : w.frozen? ⟨g, o, none⟩ = false := by
  subst hn
  exact World.ownsRow.frozenAt h o
theorem Mr.below {B : Nat} {v : Value} {d : List Mk} {w w2 : World} (h : Mr B v d w) (hb : Below w.heap.size w w2) : Mr B v d w2 := own_below h hb
theorem Mr.lt {B g n cap : Nat} {d : List Mk} {w : World} (h : Mr B (.slice (some ⟨g, 0, none⟩) n cap) d w) : B ≤ g ∧ g < w.heap.size := World.ownsRow.lt h g rfl
theorem Mr.base {B C : Nat} {v : Value} {d : List Mk} {w : World} (h : Mr B v d w) (hc : C ≤ B) : Mr C v d w := by
  refine ⟨h.1, ?_⟩
  rcases h.2 with h' | ⟨g, cap, cur, hv, hB, rest⟩
  · exact .inl h'
  · exact .inr ⟨g, cap, cur, hv, Nat.le_trans hc hB, rest⟩
theorem grownBy_trans {a b c : World} {row : Option Nat} (h : a.grownBy b row) (k : b.grownBy c row) : a.grownBy c row := by
  obtain ⟨h1, h2, h3, h4, h5⟩ := h
  obtain ⟨k1, k2, k3, k4, k5⟩ := k
  exact ⟨k1.trans h1, k2.trans h2, k3.trans h3, by omega, fun i hi hne => (k5 i (by omega) hne).trans (h5 i hi hne)⟩
/-- A mark is written. -/
theorem Mr.put {B g n cap : Nat} {d : List Mk} {w : World} (h : Mr B (.slice (some ⟨g, 0, none⟩) n cap) d w) (hn : n = d.length) (i : Nat) (hi : i < n) (x : Mk) :
    Mr B (.slice (some ⟨g, 0, none⟩) n cap) (d.set i x) (((w.setCell ⟨g, i * 3, none⟩ (.int .i32 x.r)).setCell ⟨g, i * 3 + 1, none⟩ (.int .i64 x.c)).setCell ⟨g, i * 3 + 2, none⟩ (.int .i64 x.p)) ∧
      w.grownBy (((w.setCell ⟨g, i * 3, none⟩ (.int .i32 x.r)).setCell ⟨g, i * 3 + 1, none⟩ (.int .i64 x.c)).setCell ⟨g, i * 3 + 2, none⟩ (.int .i64 x.p)) (some g) := by
  subst hn
  obtain ⟨a1, a2⟩ := World.ownsRow.stored h (i * 3) (.int .i32 x.r)
  obtain ⟨b1, b2⟩ := World.ownsRow.stored a1 (i * 3 + 1) (.int .i64 x.c)
  obtain ⟨c1, c2⟩ := World.ownsRow.stored b1 (i * 3 + 2) (.int .i64 x.p)
  refine ⟨?_, grownBy_trans (grownBy_trans a2 b2) c2⟩
  unfold Mr
  rw [← mflat_set d i x hi, List.length_set]
  exact c1

set_option maxHeartbeats 400000 in
theorem nearer_any (n : Nat) (h : 1 ≤ n) (hn : n ≤ 1000) (w : World) : Calls Tryz.prog 64 #[.int .i64 n] w fun e w' => (∃ m : Nat, e = .returned (.int .i64 m) ∧ 1 ≤ m ∧ m ≤ n ∧ (m < n ∨ m = 1)) ∧ w' = w := by
  go_enter Tryz.func64, Tryz.ntmps64
  go_wp2
  · go_ret
    exact ⟨⟨n - n / 4 - 1, ret_int (by omega), by omega, by omega, by omega⟩, rfl⟩
  · go_ret
    exact ⟨⟨1, ret_int (by omega), by omega, by omega, by omega⟩, rfl⟩
set_option maxHeartbeats 800000 in
theorem ahead_any (a b : Mk) (w : World) : Calls Tryz.prog 65 #[a.val, b.val] w fun e w' => e = .returned (.bool (a.ahead b)) ∧ Gr w w' := by
  obtain ⟨r1, c1, p1⟩ := a
  obtain ⟨r2, c2, p2⟩ := b
  unfold Mk.val
  dsimp only
  generalize hm : Mk.ahead ⟨r1, c1, p1⟩ ⟨r2, c2, p2⟩ = m
  have HM := hide hm
  clear hm
  by_cases h : c1 = c2
  · subst h
    go_enter Tryz.func65, Tryz.ntmps65
    go_wp2
    go_ret
    exact ⟨ret_bool (by rw [← unhide HM]; simp [Mk.ahead]), ((Gr.refl _).alloc _).alloc _⟩
  · have hz : (c1 == c2) = false := by simpa using h
    go_enter Tryz.func65, Tryz.ntmps65
    go_wp2
    go_ret
    exact ⟨ret_bool (by rw [← unhide HM]; simp [Mk.ahead, h]), ((Gr.refl _).alloc _).alloc _⟩
end Go.Proofs.YticgeabmhmojfaaGreatDoor
/- How a run stands while its marks are put in order; a scope whose label is jumped back to. -/
namespace Go.Proofs.YticgeabmhmojfaaGreatDoor
set_option maxRecDepth 100000
open Go.RowKit

/-- A scope in which the run jumps back to one label: what is shown of each pass from the label serves for the first as well. -/
theorem scope_jumps {P : Program} {a : Act} {w : World} {Q : Exit → Act → World → Prop} {c rest : Code} (l : Nat) (J : Act → World → Prop) (μ : Act → World → Nat) (hf : findLabel c l = some (Code.skip.seq rest))
    (pass : ∀ a w, J a w → rest.wp P (Exit.jump l (fun a' w' => J a' w' ∧ μ a' w' < μ a w) Q) a w)
    (first : (∀ a w, J a w → rest.wp P (Exit.jump l J Q) a w) → c.wp P (Exit.jump l J Q) a w) : (Code.scope c).wp P Q a w := by
  refine wp_scope_jumps l J μ hf (first fun a w h => wp_mono (pass a w h) ?_) fun a w h => wp_seq (wp_skip (pass a w h))
  intro e a' w' h
  cases e with
  | goto l' => exact ⟨h.1, h.2.1⟩
  | normal => exact h
  | exit id => exact h
  | ret => exact h
  | panic ch => exact h
  | outgrown => exact h

theorem below_grown {w w' : World} (h : Below w.heap.size w w') (row : Option Nat) : w.grownBy w' row := ⟨h.os, h.tape, h.output, h.size, fun i hi _ => h.block i hi⟩
/-- What was grown by a new row, or by the row itself, was grown by the row. -/
theorem grownBy_new {a b c : World} {g g2 : Nat} (h : a.grownBy b (some g)) (k : b.grownBy c (some g2)) (hg : a.heap.size ≤ g2) : a.grownBy c (some g) := by
  obtain ⟨h1, h2, h3, h4, h5⟩ := h
  obtain ⟨k1, k2, k3, k4, k5⟩ := k
  exact ⟨k1.trans h1, k2.trans h2, k3.trans h3, by omega, fun i hi hne => (k5 i (by omega) (by simp; omega)).trans (h5 i hi hne)⟩
theorem Rn.set {B g N cap : Nat} {L : List Int} {w : World} (h : Rn B (.slice (some ⟨g, 0, none⟩) N cap) L w) (hN : N = L.length) (j : Nat) (z : Int) :
    Rn B (.slice (some ⟨g, 0, none⟩) N cap) (L.set j z) (w.setCell ⟨g, j, none⟩ (.int .i32 z)) ∧ w.grownBy (w.setCell ⟨g, j, none⟩ (.int .i32 z)) (some g) := by
  subst hN
  obtain ⟨h3, h4⟩ := World.ownsRow.stored h j (.int .i32 z)
  refine ⟨?_, h4⟩
  unfold Rn
  rw [List.length_set, List.map_set]
  exact h3

/-- The row that is put in order, and the marks of a run of it. -/
structure St (w : World) (B C g g2 N cap n cap2 : Nat) (L : List Int) (d : List Mk) (wr : World) : Prop where
  rn : Rn B (.slice (some ⟨g, 0, none⟩) N cap) L wr
  mr : Mr C (.slice (some ⟨g2, 0, none⟩) n cap2) d wr
  gb : w.grownBy wr (some g)
  ln : N = L.length
  dn : n = d.length
  gw : g < w.heap.size
  wg : w.heap.size ≤ g2
section
variable {w wr : World} {B C g g2 N cap n cap2 : Nat} {L : List Int} {d : List Mk}
theorem St.gr {wr' : World} (h : St w B C g g2 N cap n cap2 L d wr) (k : Gr wr wr') : St w B C g g2 N cap n cap2 L d wr' :=
  ⟨h.rn.below k.below, h.mr.below k.below, grownBy_trans h.gb (k.grown _), h.ln, h.dn, h.gw, h.wg⟩
theorem St.cell (h : St w B C g g2 N cap n cap2 L d wr) (i : Nat) (hi : i < n) :
    wr.cell? ⟨g2, i * 3, none⟩ = some (.int .i32 (d.getD i mk0).r) ∧ wr.cell? ⟨g2, i * 3 + 1, none⟩ = some (.int .i64 (d.getD i mk0).c) ∧ wr.cell? ⟨g2, i * 3 + 2, none⟩ = some (.int .i64 (d.getD i mk0).p) := h.mr.cell h.dn i hi
theorem St.free (h : St w B C g g2 N cap n cap2 L d wr) (o : Nat) : wr.frozen? ⟨g2, o, none⟩ = false := h.mr.free h.dn o
theorem St.freeL (h : St w B C g g2 N cap n cap2 L d wr) (o : Nat) : wr.frozen? ⟨g, o, none⟩ = false := h.rn.free h.ln o
theorem St.lt2 (h : St w B C g g2 N cap n cap2 L d wr) : g2 < wr.heap.size := h.mr.lt.2
theorem St.lt (h : St w B C g g2 N cap n cap2 L d wr) : g < wr.heap.size := Nat.lt_of_lt_of_le h.gw h.gb.size
theorem St.cellL (h : St w B C g g2 N cap n cap2 L d wr) (j : Nat) (hj : j < N) : wr.cell? ⟨g, j, none⟩ = some (.int .i32 (L.getD j 0)) := by
  have hl := h.ln
  have h1 := h.rn
  subst hl
  rw [World.ownsRow.cellAt h1 j (by omega)]
  simp [List.getD, hj]
theorem St.put (h : St w B C g g2 N cap n cap2 L d wr) (i : Nat) (hi : i < n) (x : Mk) :
    St w B C g g2 N cap n cap2 L (d.set i x) (((wr.setCell ⟨g2, i * 3, none⟩ (.int .i32 x.r)).setCell ⟨g2, i * 3 + 1, none⟩ (.int .i64 x.c)).setCell ⟨g2, i * 3 + 2, none⟩ (.int .i64 x.p)) := by
  obtain ⟨h1, h2⟩ := h.mr.put h.dn i hi x
  refine ⟨h.rn.kept h2 ?_, h1, grownBy_new h.gb h2 h.wg, h.ln, by rw [List.length_set]; exact h.dn, h.gw, h.wg⟩
  have a := h.gw
  have b := h.wg
  simp [Value.ownBlock]
  omega
theorem St.exch (h : St w B C g g2 N cap n cap2 L d wr) (i j : Nat) (hi : i < n) (hj : j < n) (x y : Mk) (hx : x = d.getD i mk0) (hy : y = d.getD j mk0) :
    St w B C g g2 N cap n cap2 L (exch d i j) ((((((wr.setCell ⟨g2, i * 3, none⟩ (.int .i32 y.r)).setCell ⟨g2, i * 3 + 1, none⟩ (.int .i64 y.c)).setCell ⟨g2, i * 3 + 2, none⟩ (.int .i64 y.p)).setCell ⟨g2, j * 3, none⟩ (.int .i32 x.r)).setCell ⟨g2, j * 3 + 1, none⟩ (.int .i64 x.c)).setCell ⟨g2, j * 3 + 2, none⟩ (.int .i64 x.p)) := by
  subst hx hy
  exact (h.put i hi (d.getD j mk0)).put j hj (d.getD i mk0)
theorem St.write (h : St w B C g g2 N cap n cap2 L d wr) (j : Nat) (z : Int) : St w B C g g2 N cap n cap2 (L.set j z) d (wr.setCell ⟨g, j, none⟩ (.int .i32 z)) := by
  obtain ⟨h1, h2⟩ := h.rn.set h.ln j z
  refine ⟨h1, World.ownsRow.kept h.mr h2 (.inr ?_), grownBy_trans h.gb h2, by rw [List.length_set]; exact h.ln, h.dn, h.gw, h.wg⟩
  have a := h.gw
  have b := h.wg
  simp [Value.ownBlock]
  omega
end
/-- The row while k of a run's marks are written back. -/
def wb (A S r Z : List Int) (k : Nat) : List Int := A ++ (S.take k ++ (r.drop k ++ Z))
theorem wb_zero (A S r Z : List Int) : wb A S r Z 0 = A ++ (r ++ Z) := by simp [wb]
theorem wb_set (A S r Z : List Int) (k : Nat) (hk : k < r.length) (hs : S.length = r.length) : (wb A S r Z k).set (A.length + k) (S.getD k 0) = wb A S r Z (k + 1) := by
  unfold wb
  rw [List.set_append_right _ _ (by omega)]
  congr 1
  have e1 : A.length + k - A.length = k := by omega
  rw [e1, List.set_append_right _ _ (by rw [List.length_take]; omega), List.length_take, Nat.min_eq_left (by omega), Nat.sub_self, List.drop_eq_getElem_cons hk, take_snoc S k (by omega), List.cons_append, List.set_cons_zero, List.append_assoc]
  rfl
theorem wb_all (A S r Z : List Int) (hs : S.length = r.length) : wb A S r Z r.length = A ++ (S ++ Z) := by
  unfold wb
  rw [List.drop_length, ← hs, List.take_length]; rfl
/-- What a word of memory holds. -/
def intAt (w : World) (b o : Nat) : Int := match w.cell? ⟨b, o, none⟩ with | some (.int _ q) => q | _ => 0
/-- The marks that lie there. -/
def marksAt (w : World) (b n : Nat) : List Mk := (List.range n).map fun i => ⟨intAt w b (i * 3), intAt w b (i * 3 + 1), intAt w b (i * 3 + 2)⟩
theorem St.read {w wr : World} {B C g g2 N cap n cap2 : Nat} {L : List Int} {d : List Mk} (h : St w B C g g2 N cap n cap2 L d wr) : marksAt wr g2 n = d := by
  have hd := h.dn
  refine List.ext_getElem (by simp [marksAt, hd]) fun i h1 h2 => ?_
  have hi : i < n := by omega
  obtain ⟨c1, c2, c3⟩ := h.cell i hi
  have e : d.getD i mk0 = d[i] := by simp [List.getD, h2]
  rw [e] at c1 c2 c3
  simp only [marksAt, List.getElem_map, List.getElem_range, intAt, c1, c2, c3]
/-- How a pass stands: some changed places, and more stands well; or none did, and none stands wrongly so far. -/
def Pas (d dk : List Mk) (m k : Nat) (ch : Bool) : Prop := (ch = true → pot 0 d < pot 0 dk) ∧ (ch = false → dk = d ∧ ∀ j, m ≤ j → j < k → (d.getD (j - m) mk0).key ≤ (d.getD j mk0).key)
theorem Pas.start (d : List Mk) (m : Nat) : Pas d d m m false := ⟨(fun h => by cases h), fun _ => ⟨rfl, fun j h1 h2 => by omega⟩⟩
theorem Pas.swap {d dk : List Mk} {m k : Nat} {ch : Bool} (h : Pas d dk m k ch) (h1 : 1 ≤ m) (hm : m ≤ k) (hk : k < dk.length) (hlt : (dk.getD k mk0).key < (dk.getD (k - m) mk0).key) : Pas d (exch dk k (k - m)) m (k + 1) true := by
  refine ⟨fun _ => ?_, (fun h => by cases h)⟩
  have := pot_exch dk k (k - m) hk (by omega) hlt
  cases ch
  · rw [← (h.2 rfl).1]
    exact this
  · exact Int.lt_trans (h.1 rfl) this
theorem Pas.skip {d dk : List Mk} {m k : Nat} {ch : Bool} (h : Pas d dk m k ch) (hle : (dk.getD (k - m) mk0).key ≤ (dk.getD k mk0).key) : Pas d dk m (k + 1) ch := by
  refine ⟨h.1, fun hc => ⟨(h.2 hc).1, fun j h1 h2 => ?_⟩⟩
  by_cases hj : j < k
  · exact (h.2 hc).2 j h1 hj
  · have : j = k := by omega
    subst this
    rw [← (h.2 hc).1]
    exact hle
theorem Pas.end_ {d dk : List Mk} {n : Nat} (h : Pas d dk 1 n false) (hn : n = d.length) : dk.Pairwise fun a b => a.key ≤ b.key := by
  obtain ⟨rfl, h2⟩ := h.2 rfl
  exact side_sorted dk fun j h1 h2' => h2 j h1 (by omega)
end Go.Proofs.YticgeabmhmojfaaGreatDoor
/- The document's rows: lower, upper, planes, Rows. -/
namespace Go.Proofs.YticgeabmhmojfaaGreatDoor
set_option maxRecDepth 100000
open Go.RowKit
open Go.Sort (grow)

theorem grown_trans {a b c : World} {row : Option Nat} (h : a.grownBy b row) (k : b.grownBy c row) : a.grownBy c row :=
  ⟨k.os.trans h.os, k.tape.trans h.tape, k.output.trans h.output, Nat.le_trans h.size k.size, fun i hi hne => (k.block i (Nat.lt_of_lt_of_le hi h.size) hne).trans (h.block i hi hne)⟩
theorem own_gr3 {B e size n : Nat} {v : Value} {xs : List Value} {w w2 : World} (h : w.ownsRow B e size v n xs) (hg : Gr w w2) : w2.ownsRow B e size v n xs :=
  h.kept (row := none) ⟨hg.below.os, hg.below.tape, hg.below.output, hg.size, fun k hk _ => hg.below.block k hk⟩ (by cases hv : v.ownBlock <;> simp)
def cellsL : Array Value := (spcs rowsL).toArray
def cellsU : Array Value := (spcs rowsU).toArray
def frameL : Act := { tmps := (.slice none 0 0 :: ((rowsL.map fun s => Value.agg (spc s).toArray) ++ [undef])).toArray, defers := [] }
def frameU : Act := { tmps := (.slice none 0 0 :: ((rowsU.map fun s => Value.agg (spc s).toArray) ++ [undef])).toArray, defers := [] }
def frameL' (x v : Value) : Act := { tmps := (x :: ((rowsL.map fun s => Value.agg (spc s).toArray) ++ [v])).toArray, defers := [] }
def frameU' (x v : Value) : Act := { tmps := (x :: ((rowsU.map fun s => Value.agg (spc s).toArray) ++ [v])).toArray, defers := [] }

section

end

theorem takeP (k : Nat) (h : k < 16) : rowsP.take (k + 1) = rowsP.take k ++ [lastS ((k : Int) + 1)] := by
  rw [List.take_add_one]
  have : rowsP[k]? = some (lastS ((k : Int) + 1)) := by simp [rowsP, h]
  rw [this]; rfl
theorem spcs_one (s : Sp) : spcs [s] = spc s := by simp [spcs]

theorem own_new (w : World) (e : TypeId) (cs : Array Value) (n : Nat) (hs : cs.size = n * 3) (hn : n ≤ maxLen) : (w.alloc (.cells cs e)).ownsRow w.heap.size e 3 (.slice (some ⟨w.heap.size, 0, none⟩) n n) n cs.toList :=
  ⟨by simpa using hs, .inr ⟨w.heap.size, n, cs, rfl, Nat.le_refl _, heap_new w _, Nat.le_refl _, hn, hs, List.take_of_length_le (by simp [hs])⟩⟩
theorem spcs_oneCell (l : List Sp) : ∀ u ∈ spcs l, u.oneCell' = true := by
  intro u hu
  simp only [spcs, List.mem_flatMap] at hu
  obtain ⟨s, _, hs⟩ := hu
  simp only [spc, List.mem_cons, List.not_mem_nil, or_false] at hs
  rcases hs with rfl | rfl | rfl <;> rfl
theorem sizeL : cellsL.size = 45 * 3 := by kernel_rfl
theorem sizeU : cellsU.size = 45 * 3 := by kernel_rfl
theorem lenU : (spcs rowsU).length = 45 * 3 := by kernel_rfl
theorem lenP : (spcs rowsP).length = 16 * 3 := by kernel_rfl
theorem news_own {w : World} {B e size g n cap : Nat} {xs : List Value} (h : w.ownsRow B e size (.slice (some ⟨g, 0, none⟩) n cap) n xs) : ∀ j u, xs[j]? = some u → w.cell? ((⟨g, 0, none⟩ : Addr).add j) = some u :=
  fun j u hu => World.ownsRow.cells h (g := g) rfl j u hu


end Go.Proofs.YticgeabmhmojfaaGreatDoor
/- The document's ascii. -/
namespace Go.Proofs.YticgeabmhmojfaaGreatDoor
set_option maxRecDepth 100000
open Go.RowKit

def asc (r : Int) : Int := if (97 ≤ r ∧ r ≤ 122) ∨ (65 ≤ r ∧ r ≤ 90) then 1 else if 48 ≤ r ∧ r ≤ 57 then 2 else if r = 32 ∨ (9 ≤ r ∧ r ≤ 13) then 5 else if r < 32 ∨ r = 127 then 6 else 4
theorem asc_all : ((List.range 128).all fun (n : Nat) => decide (kd (n : Int) = asc (n : Int))) = true := by kernel_rfl
theorem asc_kd (r : Int) (h0 : 0 ≤ r) (h1 : r < 128) : asc r = kd r := by
  have := List.all_eq_true.1 asc_all r.toNat (by simp; omega)
  rw [show ((r.toNat : Nat) : Int) = r by omega] at this
  exact (of_decide_eq_true this).symm

end Go.Proofs.YticgeabmhmojfaaGreatDoor
/- The document's Kind, Is and Class. -/
namespace Go.Proofs.YticgeabmhmojfaaGreatDoor
set_option maxRecDepth 100000
open Go.RowKit

theorem rowsT_len : rowsT.length = 106 := by kernel_rfl

theorem Ints.below {w w2 : World} {v : Value} {l : List Int} (h : Ints w v l) (hb : Below w.heap.size w w2) : Ints w2 v l := by
  obtain ⟨a, cap, rfl, hc⟩ := h
  refine ⟨a, cap, rfl, fun i => ?_⟩
  obtain ⟨b, off, rfl, hcc⟩ := hc i
  exact ⟨b, off, rfl, fun j hj => (hb.cell (p := ⟨b, off + j, none⟩) (cell_lt (hcc j hj))).trans (hcc j hj)⟩



end Go.Proofs.YticgeabmhmojfaaGreatDoor
/- Rows of rows; the document's Runs. -/
namespace Go.Proofs.YticgeabmhmojfaaGreatDoor
set_option maxRecDepth 100000
open Go.RowKit

/-- A slice of slices that holds the rows ls. -/
def RR (w : World) (v : Value) (ls : List (List Int)) : Prop :=
  ∃ a cap, v = .slice a ls.length cap ∧ (0 < ls.length → ∃ b off, a = some ⟨b, off, none⟩ ∧ ∀ i, i < ls.length → ∃ g o c, w.cell? ⟨b, off + i, none⟩ = some (.slice (some ⟨g, o, none⟩) (ls.getD i []).length c) ∧ ∀ j, j < (ls.getD i []).length → w.cell? ⟨g, o + j, none⟩ = some (.int .i32 ((ls.getD i []).getD j 0)))
theorem RR.below {w w2 : World} {v : Value} {ls : List (List Int)} (h : RR w v ls) (hb : Below w.heap.size w w2) : RR w2 v ls := by
  obtain ⟨a, cap, rfl, hc⟩ := h
  refine ⟨a, cap, rfl, fun hi => ?_⟩
  obtain ⟨b, off, rfl, hcc⟩ := hc hi
  refine ⟨b, off, rfl, fun i hi => ?_⟩
  obtain ⟨g, o, c, h1, h2⟩ := hcc i hi
  exact ⟨g, o, c, (hb.cell (by exact cell_lt h1)).trans h1, fun j hj => (hb.cell (by exact cell_lt (h2 j hj))).trans (h2 j hj)⟩
/-- Rows of two types lie in two blocks. -/
theorem own_apart {w : World} {B C e f s t n m : Nat} {v u : Value} {xs ys : List Value} (h1 : w.ownsRow B e s v n xs) (h2 : w.ownsRow C f t u m ys) (hne : e ≠ f) : v.ownBlock = none ∨ v.ownBlock ≠ u.ownBlock := by
  rcases h1.2 with ⟨hv, _⟩ | ⟨g, cap, cur, hv, _, hg, _⟩
  · left; rw [hv]; rfl
  · right
    rcases h2.2 with ⟨hu, _⟩ | ⟨k, cap2, cur2, hu, _, hk, _⟩
    · rw [hv, hu]; simp [Value.ownBlock]
    · rw [hv, hu]
      intro e
      simp only [Value.ownBlock, Option.some.injEq] at e
      subst e
      rw [hg] at hk
      simp only [Option.some.injEq, Obj.cells.injEq] at hk
      exact hne hk.2.1
/-- A value owns one row. -/
theorem own_same {w : World} {B C e s n : Nat} {v : Value} {xs ys : List Value} (h1 : w.ownsRow B e s v n xs) (h2 : w.ownsRow C e s v n ys) : xs = ys := by
  rcases h1.2 with ⟨hv, h0⟩ | ⟨g, cap, cur, hv, _, hg, _, _, _, ht⟩
  · have a := h1.1
    have b := h2.1
    rw [h0, Nat.zero_mul] at a b
    rw [List.length_eq_zero_iff.1 a, List.length_eq_zero_iff.1 b]
  · rcases h2.2 with ⟨hu, _⟩ | ⟨k, cap2, cur2, hu, _, hk, _, _, _, hs⟩
    · rw [hv] at hu; cases hu
    · rw [hv] at hu
      cases hu
      rw [hg] at hk
      cases hk
      rw [← ht, ← hs]
/-- How Runs stands: what is done, and the run that is made. -/
def Stt (B : Nat) (v3 v4 : Value) (out : List (List Int)) (now : List Int) (w : World) : Prop :=
  ∃ vs : List Value, vs.length = out.length ∧ w.ownsRow B 35 1 v3 out.length vs ∧ Rn B v4 now w ∧ ∀ i, i < out.length → ∃ g c, vs[i]? = some (.slice (some ⟨g, 0, none⟩) (out.getD i []).length c) ∧ Rn B (.slice (some ⟨g, 0, none⟩) (out.getD i []).length c) (out.getD i []) w ∧ v4.ownBlock ≠ some g
theorem Stt.nil (B : Nat) (w : World) : Stt B (.slice none 0 0) (.slice none 0 0) [] [] w := ⟨[], rfl, ⟨rfl, .inl ⟨rfl, rfl⟩⟩, Rn.nil B w, fun i hi => by simp at hi⟩
theorem Stt.below {B : Nat} {v3 v4 : Value} {out : List (List Int)} {now : List Int} {w w2 : World} (h : Stt B v3 v4 out now w) (hb : Below w.heap.size w w2) : Stt B v3 v4 out now w2 := by
  obtain ⟨vs, h1, h2, h3, h4⟩ := h
  refine ⟨vs, h1, own_below h2 hb, h3.below hb, fun i hi => ?_⟩
  obtain ⟨g, c, k1, k2, k3⟩ := h4 i hi
  exact ⟨g, c, k1, k2.below hb, k3⟩
theorem Stt.more {B g9 cap9 N : Nat} {v3 v4 : Value} {out : List (List Int)} {now : List Int} {x : Int} {w w9 : World} (h : Stt B v3 v4 out now w) (hN : N = now.length)
    (hown9 : w9.ownsRow B 21 1 (.slice (some ⟨g9, 0, none⟩) (N + 1) cap9) (N + 1) (now.map (Value.int .i32) ++ [.int .i32 x])) (hgrow9 : w.grownBy w9 v4.ownBlock) (hat9 : v4.ownBlock = some g9 ∨ w.heap.size ≤ g9) :
    Stt B v3 (.slice (some ⟨g9, 0, none⟩) (N + 1) cap9) out (now ++ [x]) w9 := by
  obtain ⟨vs, h1, h2, h3, h4⟩ := h
  refine ⟨vs, h1, h2.kept hgrow9 (own_apart h2 h3 (by decide)), Rn.push hN hown9, fun i hi => ?_⟩
  obtain ⟨g, c, k1, k2, k3⟩ := h4 i hi
  refine ⟨g, c, k1, World.ownsRow.kept k2 hgrow9 (.inr (fun e => k3 e.symm)), ?_⟩
  intro e
  simp only [Value.ownBlock, Option.some.injEq] at e
  rcases hat9 with h | h
  · exact k3 (by rw [h, e])
  · have := (World.ownsRow.lt k2 g rfl).2
    omega
theorem Stt.push {B g9 cap9 : Nat} {v3 : Value} {g4 c4 N M : Nat} {out : List (List Int)} {now : List Int} {w w9 : World} (h : Stt B v3 (.slice (some ⟨g4, 0, none⟩) N c4) out now w) (hN : N = now.length) (hM : M = out.length)
    (vs : List Value) (hvs : w.ownsRow B 35 1 v3 M vs) (hown9 : w9.ownsRow B 35 1 (.slice (some ⟨g9, 0, none⟩) (M + 1) cap9) (M + 1) (vs ++ [.slice (some ⟨g4, 0, none⟩) N c4])) (hgrow9 : w.grownBy w9 v3.ownBlock) :
    Stt B (.slice (some ⟨g9, 0, none⟩) (M + 1) cap9) (.slice none 0 0) (out ++ [now]) [] w9 := by
  obtain ⟨us, h1, h2, h3, h4⟩ := h
  subst hN hM
  obtain rfl := own_same h2 hvs
  refine ⟨us ++ [.slice (some ⟨g4, 0, none⟩) now.length c4], by simp [h1], by simpa using hown9, Rn.nil B w9, fun i hi => ?_⟩
  by_cases hl : i < out.length
  · obtain ⟨g, c, k1, k2, k3⟩ := h4 i hl
    have e : (out ++ [now]).getD i [] = out.getD i [] := by simp [List.getD, List.getElem?_append_left hl]
    rw [e]
    exact ⟨g, c, by rw [List.getElem?_append_left (by omega)]; exact k1, World.ownsRow.kept k2 hgrow9 (own_apart k2 h2 (by decide)), by simp [Value.ownBlock]⟩
  · have hi' : i = out.length := by simp at hi; omega
    subst hi'
    have e : (out ++ [now]).getD out.length [] = now := by simp [List.getD]
    rw [e]
    exact ⟨g4, c4, by rw [← h1]; simp, World.ownsRow.kept h3 hgrow9 (own_apart h3 h2 (by decide)), by simp [Value.ownBlock]⟩
theorem Stt.rr {B : Nat} {v3 v4 : Value} {out : List (List Int)} {now : List Int} {w : World} (h : Stt B v3 v4 out now w) : RR w v3 out := by
  obtain ⟨vs, h1, h2, h3, h4⟩ := h
  rcases h2.2 with ⟨hv, h0⟩ | ⟨g, cap, cur, hv, _⟩
  · exact ⟨none, 0, by rw [hv, h0], fun hi => by omega⟩
  · refine ⟨some ⟨g, 0, none⟩, cap, hv, fun _ => ⟨g, 0, rfl, fun i hi => ?_⟩⟩
    obtain ⟨g', c, k1, k2, _⟩ := h4 i hi
    have e1 := World.ownsRow.cells h2 (g := g) (by rw [hv]; rfl) i _ k1
    rw [add_zero3] at e1
    refine ⟨g', 0, c, by rw [Nat.zero_add]; exact e1, fun j hj => ?_⟩
    have e2 := World.ownsRow.cells k2 (g := g') rfl j (.int .i32 (((out.getD i [])).getD j 0)) (by
      generalize out.getD i [] = m at hj
      simp [List.getD, hj])
    rw [add_zero3] at e2
    rw [Nat.zero_add]
    exact e2
theorem Stt.shape3 {B : Nat} {v3 v4 : Value} {out : List (List Int)} {now : List Int} {w : World} (h : Stt B v3 v4 out now w) : ∃ a c, v3 = .slice a out.length c := by
  obtain ⟨vs, h1, h2, _⟩ := h
  rcases h2.2 with ⟨hv, h0⟩ | ⟨g, cap, cur, hv, _⟩
  · exact ⟨none, 0, by rw [hv, h0]⟩
  · exact ⟨_, cap, hv⟩
theorem Stt.rn {B : Nat} {v3 v4 : Value} {out : List (List Int)} {now : List Int} {w : World} (h : Stt B v3 v4 out now w) : Rn B v4 now w := by
  obtain ⟨_, _, _, h3, _⟩ := h
  exact h3
theorem Stt.own {B : Nat} {v3 v4 : Value} {out : List (List Int)} {now : List Int} {w : World} (h : Stt B v3 v4 out now w) : ∃ vs, w.ownsRow B 35 1 v3 out.length vs := by
  obtain ⟨vs, _, h2, _⟩ := h
  exact ⟨vs, h2⟩
theorem elem_info2 : (Tryz.prog.info? 35).map (fun i => (i.zero, i.size, i.bytes)) = some (some (.slice none 0 0), 1, 24) := by kernel_rfl
theorem rfold_len (c : Int → Int) (l : List Int) : (rfold c l).1.length + (rfold c l).2.length ≤ l.length := by
  have h := (rfold_inv (c := c) l).1
  have hr := (rfold_inv (c := c) l).2.1.1
  have h2 : (rfold c l).1.length ≤ (rfold c l).1.flatten.length := by
    have hne : ∀ r, r ∈ (rfold c l).1 → r ≠ [] := fun r hr' => (hr r (by unfold rfin; split <;> simp [hr'])).1
    generalize (rfold c l).1 = rs at hne
    induction rs with
    | nil => simp
    | cons r rs ih =>
      have := ih fun q hq => hne q (by simp [hq])
      have h1 : 0 < r.length := List.length_pos_iff.2 (hne r (by simp))
      simp only [List.length_cons, List.flatten_cons, List.length_append]
      omega
  have := congrArg List.length h
  rw [List.length_append] at this
  omega
theorem rfold_take (c : Int → Int) (l : List Int) (k : Nat) (h : k < l.length) : rfold c (l.take (k + 1)) = rstep c (rfold c (l.take k)) (l.getD k 0) := by rw [take_snoc l k h, rfold_snoc]

end Go.Proofs.YticgeabmhmojfaaGreatDoor
/- The document's Ordered and Order. -/
namespace Go.Proofs.YticgeabmhmojfaaGreatDoor
set_option maxRecDepth 100000
open Go.RowKit

def Kls : List Int := [0, 8, 202, 220, 230]
theorem Kls_rise : Kls.Pairwise (· < ·) := by decide
theorem Kls_zero : ∃ K', Kls = 0 :: K' := ⟨[8, 202, 220, 230], rfl⟩
theorem cls_in (x : Int) : cls x ∈ Kls := by
  unfold cls cl Kls
  split
  · split
    · simp
    · split
      · simp
      · split <;> simp
  · simp
theorem cls_nn (x : Int) : 0 ≤ cls x := by
  have := cls_in x
  unfold Kls at this
  simp at this
  omega
theorem ordered_two (c : Int → Int) : ∀ (a : List Int) (y x : Int), ordered c (a ++ [y, x]) = (ordered c (a ++ [y]) && nxt c y x)
  | [], y, x => by simp [ordered]
  | [z], y, x => by simp [ordered]
  | z :: z2 :: a, y, x => by
    have := ordered_two c (z2 :: a) y x
    simp only [List.cons_append, ordered] at this ⊢
    rw [this, Bool.and_assoc]
theorem ordered_take (c : Int → Int) (l : List Int) (k : Nat) (h0 : 0 < k) (h : k < l.length) : ordered c (l.take (k + 1)) = (ordered c (l.take k) && nxt c (l.getD (k - 1) 0) (l.getD k 0)) := by
  obtain ⟨j, rfl⟩ : ∃ j, k = j + 1 := ⟨k - 1, by omega⟩
  rw [take_snoc l (j + 1) h, take_snoc l j (by omega), Nat.add_sub_cancel, List.append_assoc]
  exact ordered_two c (l.take j) _ _
theorem ordered_bad (c : Int → Int) (l : List Int) (k : Nat) (h : ordered c (l.take k) = false) : ordered c l = false := by
  cases ho : ordered c l
  · rfl
  · have := ordered_left (l.take k) (l.drop k) (by rw [List.take_append_drop]; exact ho)
    rw [h] at this; cases this

end Go.Proofs.YticgeabmhmojfaaGreatDoor
