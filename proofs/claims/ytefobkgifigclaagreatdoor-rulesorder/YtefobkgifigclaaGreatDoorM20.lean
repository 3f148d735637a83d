/- Plain mathematics of PrepSame: texts of ASCII, with more and other spaces, with something left out, in great letters. -/
import Derived.Test.YtefobkgifigclaaGreatDoorM19
namespace Go.Proofs.YtefobkgifigclaaGreatDoor
set_option maxRecDepth 100000
open Go.RowKit

def up (x : Int) : Int := if 97 ≤ x ∧ x ≤ 122 then x - 32 else x
def spx (x : Int) : List Int := if x = 32 then [160, 8195] else [x]
def spL (l : List Int) : List Int := 173 :: (l.flatMap spx ++ [8203])
def dbl (m : List Int) : List Int := m.flatMap fun x => if x = 32 then [32, 32] else [x]
/-- Characters of ASCII from the space on; those that are left of them. -/
def Asc (l : List Int) : Prop := ∀ x, x ∈ l → 32 ≤ x ∧ x < 128
def Prn (l : List Int) : Prop := ∀ x, x ∈ l → 32 ≤ x ∧ x ≤ 126
def rng : List Int := (List.range 96).map fun (n : Nat) => (n : Int) + 32
theorem mem_rng {x : Int} (h0 : 32 ≤ x) (h1 : x < 128) : x ∈ rng := by
  refine List.mem_map.2 ⟨(x - 32).toNat, List.mem_range.2 (by omega), by omega⟩
def okX (fo : Bool) (x : Int) : Bool := ((mapO fo x).all fun y => decide (32 ≤ y ∧ y ≤ 126)) && decide (dbl (mapO fo x) = (spx x).flatMap (mapO fo)) && decide (mapO true (up x) = mapO true x) && decide ((mapO fo x).length ≤ 1)
theorem okX_f : (rng.all (okX false)) = true := by kernel_rfl
theorem okX_t : (rng.all (okX true)) = true := by kernel_rfl
theorem okX_any (fo : Bool) {x : Int} (h0 : 32 ≤ x) (h1 : x < 128) : (∀ y, y ∈ mapO fo x → 32 ≤ y ∧ y ≤ 126) ∧ dbl (mapO fo x) = (spx x).flatMap (mapO fo) ∧ mapO true (up x) = mapO true x ∧ (mapO fo x).length ≤ 1 := by
  have h : okX fo x = true := by
    cases fo
    · exact List.all_eq_true.1 okX_f x (mem_rng h0 h1)
    · exact List.all_eq_true.1 okX_t x (mem_rng h0 h1)
  simp only [okX, Bool.and_eq_true, decide_eq_true_eq] at h
  obtain ⟨⟨⟨a, b⟩, c⟩, d⟩ := h
  exact ⟨fun y hy => by simpa using List.all_eq_true.1 a y hy, b, c, d⟩
def okY (y : Int) : Bool := decide (cls y = 0) && fitB y && !mk11 y
theorem okY_all : (((List.range 95).map fun (n : Nat) => (n : Int) + 32).all okY) = true := by kernel_rfl
theorem okY_any {y : Int} (h0 : 32 ≤ y) (h1 : y ≤ 126) : cls y = 0 ∧ fitB y = true ∧ mk11 y = false := by
  have h := List.all_eq_true.1 okY_all y (List.mem_map.2 ⟨(y - 32).toNat, List.mem_range.2 (by omega), by omega⟩)
  simp only [okY, Bool.and_eq_true, decide_eq_true_eq, Bool.not_eq_true'] at h
  exact ⟨h.1.1, h.1.2, h.2⟩

theorem dbl_append (a b : List Int) : dbl (a ++ b) = dbl a ++ dbl b := by simp [dbl]
theorem map_prn (fo : Bool) {l : List Int} (h : Asc l) : Prn (mapL fo l) := fun y hy => by
  obtain ⟨x, hx, hy'⟩ := List.mem_flatMap.1 hy
  exact (okX_any fo (h x hx).1 (h x hx).2).1 y hy'
theorem map_len (fo : Bool) {l : List Int} (h : Asc l) : (mapL fo l).length ≤ l.length := by
  induction l with
  | nil => simp [mapL]
  | cons x l ih =>
    have h1 := (okX_any fo (h x (by simp)).1 (h x (by simp)).2).2.2.2
    have h2 := ih fun y hy => h y (by simp [hy])
    unfold mapL at h2 ⊢
    rw [List.flatMap_cons, List.length_append, List.length_cons]
    omega
theorem map_spx (fo : Bool) : ∀ {l : List Int}, Asc l → mapL fo (l.flatMap spx) = dbl (mapL fo l)
  | [], _ => rfl
  | x :: l, h => by
    have h1 := (okX_any fo (h x (by simp)).1 (h x (by simp)).2).2.1
    have h2 := map_spx fo (l := l) fun y hy => h y (by simp [hy])
    unfold mapL at h2 ⊢
    rw [List.flatMap_cons, List.flatMap_append, List.flatMap_cons, dbl_append, h1, h2]
theorem mapO_ad (fo : Bool) : mapO fo 173 = [] := by cases fo <;> kernel_rfl
theorem mapO_zw (fo : Bool) : mapO fo 8203 = [] := by cases fo <;> kernel_rfl
theorem map_sp (fo : Bool) {l : List Int} (h : Asc l) : mapL fo (spL l) = dbl (mapL fo l) := by
  rw [← map_spx fo h]
  unfold mapL spL
  rw [List.flatMap_cons, List.flatMap_append, List.flatMap_cons, List.flatMap_nil, mapO_ad, mapO_zw]
  simp
theorem map_up {l : List Int} (h : Asc l) : mapL true (l.map up) = mapL true l := by
  induction l with
  | nil => rfl
  | cons x l ih =>
    have h1 := (okX_any true (h x (by simp)).1 (h x (by simp)).2).2.2.1
    have h2 := ih fun y hy => h y (by simp [hy])
    unfold mapL at h2 ⊢
    rw [List.map_cons, List.flatMap_cons, List.flatMap_cons, h1, h2]
theorem asc_up {l : List Int} (h : Asc l) : Asc (l.map up) := fun y hy => by
  obtain ⟨x, hx, rfl⟩ := List.mem_map.1 hy
  have := h x hx
  unfold up
  split <;> omega
theorem dbl_prn {m : List Int} (h : Prn m) : Prn (dbl m) := fun y hy => by
  obtain ⟨x, hx, hy'⟩ := List.mem_flatMap.1 hy
  have := h x hx
  split at hy'
  · simp at hy'; omega
  · simp at hy'; omega
theorem dbl_len (m : List Int) : (dbl m).length ≤ 2 * m.length := by
  induction m with
  | nil => simp [dbl]
  | cons x m ih =>
    unfold dbl at ih ⊢
    rw [List.flatMap_cons, List.length_append, List.length_cons]
    generalize (m.flatMap fun x => if x = 32 then [32, 32] else [x]).length = q at *
    split
    · simp only [List.length_cons, List.length_nil]; omega
    · simp only [List.length_cons, List.length_nil]; omega

/-- Printed characters of ASCII are their own normal form. -/
theorem prn_dec : ∀ {m : List Int}, Prn m → decL m = m ∧ m.all dOk = true
  | [], _ => ⟨rfl, rfl⟩
  | x :: m, h => by
    have h1 := h x (by simp)
    obtain ⟨h2, h3⟩ := prn_dec (m := m) fun y hy => h y (by simp [hy])
    have hs : selfD x = true := (selfD_iff x).2 (.inl ⟨by omega, by omega⟩)
    refine ⟨?_, ?_⟩
    · unfold decL at h2 ⊢
      rw [List.flatMap_cons, h2]
      unfold decO
      rw [if_pos hs]
      rfl
    · rw [List.all_cons, h3]
      unfold dOk
      rw [hs]
      rfl
theorem prn_ordered : ∀ {m : List Int}, Prn m → ordered cls m = true
  | [], _ => rfl
  | [_], _ => rfl
  | a :: b :: t, h => by
    have h2 := prn_ordered (m := b :: t) fun y hy => h y (List.mem_cons_of_mem _ hy)
    have hb := (okY_any (h b (by simp)).1 (h b (by simp)).2).1
    rw [ordered, h2, nxt, hb]
    simp
theorem prn_ord {m : List Int} (h : Prn m) : ordL cls Kls m = m := ord_self Kls_rise cls_in cls_nn m (prn_ordered h)
theorem prn_jB {a b : Int} (ha : 32 ≤ a ∧ a ≤ 126) : jB a b = false := by
  have : part a = 0 := by unfold part; rw [if_neg (by omega), if_neg (by omega), if_neg (by omega), if_neg (by omega)]
  unfold jB
  rw [this]
  simp
theorem prn_cgo : ∀ {m : List Int} {h : Int} (e : Bool), (32 ≤ h ∧ h ≤ 126) → Prn m → cgo h m = h :: m ∧ cok e h m = true
  | [], _, _, _, _ => ⟨rfl, rfl⟩
  | r :: m, h, e, hh, hm => by
    have hr := hm r (by simp)
    obtain ⟨h2, h3⟩ := prn_cgo (m := m) (h := r) e hr fun y hy => hm y (by simp [hy])
    have hc := (okY_any hr.1 hr.2).1
    have hj := prn_jB (b := r) hh
    rw [cgo, cok, hj, hc, h2, h3]
    simp
theorem prn_cmp {m : List Int} (h : Prn m) : cmpL m = m ∧ cmpOk m = true := by
  cases m with
  | nil => exact ⟨rfl, rfl⟩
  | cons r m =>
    have hr := h r (by simp)
    obtain ⟨h2, h3⟩ := prn_cgo (m := m) (h := r) true hr fun y hy => h y (by simp [hy])
    have hc := (okY_any hr.1 hr.2).1
    rw [cmpL, cmpOk, h2, h3, hc]
    simp
theorem prn_nf {m : List Int} (h : Prn m) (hl : m.length ≤ 400) : nfL m = m ∧ nfOk m = true := by
  obtain ⟨d1, d2⟩ := prn_dec h
  obtain ⟨c1, c2⟩ := prn_cmp h
  unfold nfL nfOk
  rw [d1, prn_ord h, c1, c2, d2]
  simp [hl]
theorem prn_chk : ∀ {m : List Int}, Prn m → chkN m = m.length
  | [], _ => rfl
  | x :: m, h => by
    have hx := h x (by simp)
    rw [chkN, (okY_any hx.1 hx.2).2.1, prn_chk fun y hy => h y (by simp [hy])]
    simp
theorem prn_chkE {m : List Int} (h : Prn m) : chkE m = 0 := by unfold chkE; rw [if_pos (prn_chk h)]

theorem prn_fre {m : List Int} (h : Prn m) : fre mk11 m = true := by
  cases m with
  | nil => rfl
  | cons x m =>
    have hx := h x (by simp)
    rw [fre, (okY_any hx.1 hx.2).2.2]
    rfl
theorem prn_sp {x : Int} {t : List Int} (h : Prn t) : sp mk11 x t = decide (x = 32) := by unfold sp; rw [prn_fre h]; simp
theorem prn_hp {x : Int} {t : List Int} (h : Prn t) : hp mk11 x t = hy x := by unfold hp; rw [prn_fre h]; simp
theorem Prn.tail {x : Int} {m : List Int} (h : Prn (x :: m)) : Prn m := fun y hy => h y (by simp [hy])
theorem dbl_cons (x : Int) (m : List Int) : dbl (x :: m) = (if x = 32 then [32, 32] else [x]) ++ dbl m := by simp [dbl]
theorem prn_cons32 {m : List Int} (h : Prn m) : Prn (32 :: m) := fun y hy => by
  rcases List.mem_cons.1 hy with rfl | hy
  · omega
  · exact h y hy
theorem num_dbl : ∀ {m : List Int}, Prn m → numL mk11 (dbl m) = numL mk11 m
  | [], _ => rfl
  | x :: m, h => by
    have ih := num_dbl h.tail
    have hd := dbl_prn h.tail
    rw [dbl_cons]
    by_cases hx : x = 32
    · subst hx
      rw [if_pos rfl]
      show numL mk11 (32 :: 32 :: dbl m) = _
      rw [numL, prn_sp (prn_cons32 hd), numL, prn_sp hd, numL, prn_sp h.tail, ih]
      simp
    · rw [if_neg hx]
      show numL mk11 (x :: dbl m) = _
      rw [numL, prn_sp hd, numL, prn_sp h.tail, ih]
theorem ph_dbl : ∀ {m : List Int}, Prn m → phL mk11 (dbl m) = phL mk11 m
  | [], _ => rfl
  | x :: m, h => by
    have ih := ph_dbl h.tail
    have hd := dbl_prn h.tail
    rw [dbl_cons]
    by_cases hx : x = 32
    · subst hx
      rw [if_pos rfl]
      show phL mk11 (32 :: 32 :: dbl m) = _
      rw [phL, prn_sp (prn_cons32 hd), phL, prn_sp hd, phL, prn_sp h.tail, ih]
      simp
    · rw [if_neg hx]
      show phL mk11 (x :: dbl m) = _
      rw [phL, prn_sp hd, prn_hp hd, phL, prn_sp h.tail, prn_hp h.tail, ih]
theorem inn_dbl : ∀ {m : List Int} (s o : Bool), Prn m → inn mk11 s o (dbl m) = inn mk11 s o m
  | [], _, _, _ => rfl
  | x :: m, s, o, h => by
    have hd := dbl_prn h.tail
    rw [dbl_cons]
    by_cases hx : x = 32
    · subst hx
      rw [if_pos rfl]
      show inn mk11 s o (32 :: 32 :: dbl m) = _
      have e1 : sp mk11 32 (32 :: dbl m) = true := by rw [prn_sp (prn_cons32 hd)]; rfl
      have e2 : sp mk11 32 (dbl m) = true := by rw [prn_sp hd]; rfl
      have e3 : sp mk11 32 m = true := by rw [prn_sp h.tail]; rfl
      rw [inn_sp e1, inn_sp e2, inn_sp e3, inn_dbl s true h.tail]
    · rw [if_neg hx]
      show inn mk11 s o (x :: dbl m) = _
      have e1 : sp mk11 x (dbl m) = false := by rw [prn_sp hd]; simpa using hx
      have e2 : sp mk11 x m = false := by rw [prn_sp h.tail]; simpa using hx
      rw [inn_no e1, inn_no e2, inn_dbl true false h.tail]
theorem val_dbl {m : List Int} (h : Prn m) : valL mk11 (dbl m) = valL mk11 m := by
  unfold valL firmL
  rw [prn_fre h, prn_fre (dbl_prn h), if_pos rfl, if_pos rfl, inn_dbl _ _ h]
theorem fr_dbl (way : Int) {m : List Int} (h : Prn m) : frL way (dbl m) = frL way m := by
  unfold frL
  rw [num_dbl h, ph_dbl h, val_dbl h]
/-- What is freed is of ASCII, and not long. -/
theorem num_prn : ∀ {m : List Int}, Prn m → Prn (numL mk11 m) ∧ (numL mk11 m).length ≤ m.length
  | [], h => ⟨h, Nat.le_refl _⟩
  | x :: m, h => by
    obtain ⟨a, b⟩ := num_prn h.tail
    rw [numL]
    split
    · exact ⟨a, by simp; omega⟩
    · refine ⟨fun y hy => ?_, by simp; omega⟩
      rcases List.mem_cons.1 hy with rfl | hy
      · exact h y (by simp)
      · exact a y hy
theorem ph_prn : ∀ {m : List Int}, Prn m → Prn (phL mk11 m) ∧ (phL mk11 m).length ≤ m.length
  | [], h => ⟨h, Nat.le_refl _⟩
  | x :: m, h => by
    obtain ⟨a, b⟩ := ph_prn h.tail
    rw [phL]
    split
    · exact ⟨a, by simp; omega⟩
    · refine ⟨fun y hy => ?_, by simp; omega⟩
      rcases List.mem_cons.1 hy with rfl | hy
      · exact h y (by simp)
      · exact a y hy
theorem inn_prn : ∀ {m : List Int} (s o : Bool), Prn m → Prn (inn mk11 s o m) ∧ (inn mk11 s o m).length ≤ 3 * m.length
  | [], _, _, h => ⟨h, Nat.le_refl _⟩
  | x :: m, s, o, h => by
    rw [inn]
    split
    · obtain ⟨a, b⟩ := inn_prn s true h.tail
      exact ⟨a, by simp; omega⟩
    · obtain ⟨a, b⟩ := inn_prn true false h.tail
      have hx := h x (by simp)
      refine ⟨fun y hy => ?_, ?_⟩
      · rcases List.mem_append.1 hy with hy | hy
        · split at hy
          · simp at hy; omega
          · cases hy
        · rcases List.mem_cons.1 hy with rfl | hy
          · exact hx
          · exact a y hy
      · rw [List.length_append, List.length_cons, List.length_cons]
        split
        · simp; omega
        · simp; omega
theorem val_prn {m : List Int} (h : Prn m) : Prn (valL mk11 m) ∧ (valL mk11 m).length ≤ 3 * m.length + 2 := by
  unfold valL firmL
  rw [prn_fre h, if_pos rfl]
  obtain ⟨a, b⟩ := inn_prn false false h
  refine ⟨fun y hy => ?_, by simp; omega⟩
  rcases List.mem_cons.1 hy with rfl | hy
  · omega
  · rcases List.mem_append.1 hy with hy | hy
    · exact a y hy
    · simp at hy; omega
theorem fr_prn (way : Int) {m : List Int} (h : Prn m) (hl : m.length ≤ 400) : Prn (frL way m) ∧ (frL way m).length ≤ 1202 ∧ frOk way m = true := by
  unfold frL frOk
  split
  · obtain ⟨a, b⟩ := num_prn h
    obtain ⟨c, d⟩ := prn_nf a (by omega)
    rw [c]
    exact ⟨a, by omega, d⟩
  · split
    · obtain ⟨a, b⟩ := ph_prn h
      obtain ⟨c, d⟩ := prn_nf a (by omega)
      rw [c]
      exact ⟨a, by omega, d⟩
    · obtain ⟨a, b⟩ := val_prn h
      exact ⟨a, by omega, rfl⟩
theorem prn_okL {m : List Int} (h : Prn m) : okL m = true := List.all_eq_true.2 fun x hx => by
  have := h x hx
  rw [isPt_iff]; omega
/-- Easy texts, by their code points. -/
theorem ru_of {s : ByteArray} {l : List Int} (h : nums s = encL l) (hok : okL l = true) : ruOk s = true ∧ ruP s = l := by
  have hsz : (encL l).length = s.size := by rw [← h, nums_length]
  obtain ⟨h1, h2⟩ := run_enc l hok s.size (by omega)
  have hok2 : ruOk s = true := by unfold ruOk; rw [h, h2, hsz]; simp
  refine ⟨hok2, ?_⟩
  unfold ruP
  rw [hok2, if_pos rfl, h, h1]
theorem easy_of {way : Int} {s : ByteArray} {l m : List Int} (h : nums s = encL l) (hok : okL l = true) (hs : s.size ≤ 1202) (hm : mapL (foW way) l = m) (hp : Prn m) (hl : m.length ≤ 400) : Ez way s ∧ vE way s = 0 ∧ vS way s = encS (frL way m) := by
  obtain ⟨h1, h2⟩ := ru_of h hok
  obtain ⟨n1, n2⟩ := prn_nf hp hl
  obtain ⟨f1, f2, f3⟩ := fr_prn way hp hl
  have hn : nnL way (ruP s) = m := by unfold nnL; rw [h2, hm, n1]
  have hc := prn_chkE hp
  refine ⟨⟨hs, h1, ?_, by rw [hn]; omega⟩, ?_, ?_⟩
  · unfold stOk
    rw [hn, h2, hm, n2, f3]
    simp; omega
  · unfold vE
    rw [hn, hc, if_pos rfl]
    unfold encE
    rw [prn_okL f1]
    rfl
  · unfold vS
    rw [hn, hc, if_pos rfl]
theorem asc_enc {l : List Int} (h : Asc l) : encL l = l ∧ okL l = true := by
  induction l with
  | nil => exact ⟨rfl, rfl⟩
  | cons x l ih =>
    obtain ⟨a, b⟩ := ih fun y hy => h y (by simp [hy])
    have hx := h x (by simp)
    refine ⟨?_, ?_⟩
    · rw [encL, a, enc1, if_pos (by omega)]; rfl
    · unfold okL at b ⊢
      rw [List.all_cons, b, show isPt x = true by rw [isPt_iff]; omega]
      rfl
theorem spL_ok {l : List Int} (h : Asc l) : okL (spL l) = true := by
  refine List.all_eq_true.2 fun y hy => ?_
  rw [isPt_iff]
  unfold spL at hy
  rcases List.mem_cons.1 hy with rfl | hy
  · omega
  · rcases List.mem_append.1 hy with hy | hy
    · obtain ⟨x, hx, hy'⟩ := List.mem_flatMap.1 hy
      have := h x hx
      unfold spx at hy'
      split at hy'
      · simp at hy'; omega
      · simp at hy'; omega
    · simp at hy; omega
/-- A text of ASCII, and what it is with other spaces: the same, prepared. -/
theorem easy_asc (way : Int) {s : ByteArray} (h : Asc (nums s)) (hs : s.size ≤ 150) : Ez way s ∧ vE way s = 0 ∧ vS way s = encS (frL way (mapL (foW way) (nums s))) := by
  obtain ⟨a, b⟩ := asc_enc h
  have hl := map_len (foW way) h
  rw [nums_length] at hl
  exact easy_of (by rw [a]) b (by omega) rfl (map_prn _ h) (by omega)
theorem easy_sp (way : Int) {s t : ByteArray} (h : Asc (nums s)) (hs : s.size ≤ 150) (ht : nums t = encL (spL (nums s))) : Ez way t ∧ vE way t = 0 ∧ vS way t = encS (frL way (mapL (foW way) (nums s))) := by
  have hl := map_len (foW way) h
  rw [nums_length] at hl
  have hd := dbl_len (mapL (foW way) (nums s))
  have hsz : t.size ≤ 1202 := by
    rw [← nums_length, ht]
    have h1 : ∀ l : List Int, (encL (l.flatMap spx)).length ≤ 5 * l.length := fun l => by
      induction l with
      | nil => simp [encL]
      | cons x l ih =>
        have h2 : (encL (spx x)).length ≤ 5 := by
          unfold spx
          split
          · exact Nat.le_refl 5
          · have := enc1_bound x
            simp only [encL, List.append_nil]
            omega
        rw [List.flatMap_cons, encL_append, List.length_append, List.length_cons]
        omega
    have h4 := h1 (nums s)
    have h5 := enc1_bound 173
    have h6 := enc1_bound 8203
    rw [nums_length] at h4
    unfold spL
    rw [encL, encL_append, List.length_append, List.length_append]
    simp only [encL, List.append_nil]
    omega
  rw [← fr_dbl way (map_prn (foW way) h)]
  exact easy_of ht (spL_ok h) hsz (map_sp _ h) (dbl_prn (map_prn _ h)) (by omega)
end Go.Proofs.YtefobkgifigclaaGreatDoor
