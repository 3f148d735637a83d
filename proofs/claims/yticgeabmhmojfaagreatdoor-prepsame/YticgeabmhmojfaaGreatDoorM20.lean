/- Plain mathematics of PrepSame: texts of ASCII, with more and other spaces, with something left out, in great letters. -/
import Derived.Test.YticgeabmhmojfaaGreatDoorM19
namespace Go.Proofs.YticgeabmhmojfaaGreatDoor
set_option maxRecDepth 100000
open Go.RowKit

def up (x : Int) : Int := if 97 ≤ x ∧ x ≤ 122 then x - 32 else x
def spx (x : Int) : List Int := if x = 32 then [160, 8195] else [x]
def spL (l : List Int) : List Int := 173 :: (l.flatMap spx ++ [8203])
def dbl (m : List Int) : List Int := m.flatMap fun x => if x = 32 then [32, 32] else [x]
/-- Characters of ASCII from the space on; those that are left of them. -/
def Asc (l : List Int) : Prop := ∀ x, x ∈ l → 32 ≤ x ∧ x < 128
def Prn (l : List Int) : Prop := ∀ x, x ∈ l → 32 ≤ x ∧ x ≤ 126
def rng : List Int := (List.range 96).map fun (n : Nat) => (n : Int) + 32
theorem mem_rng {x : Int} (h0 : 32 ≤ x) (h1 : x < 128) : x ∈ rng := by
  refine List.mem_map.2 ⟨(x - 32).toNat, List.mem_range.2 (by omega), by omega⟩
def okX (fo : Bool) (x : Int) : Bool := ((mapO fo x).all fun y => decide (32 ≤ y ∧ y ≤ 126)) && decide (dbl (mapO fo x) = (spx x).flatMap (mapO fo)) && decide (mapO true (up x) = mapO true x) && decide ((mapO fo x).length ≤ 1)
theorem okX_f : (rng.all (okX false)) = true := by kernel_rfl
theorem okX_t : (rng.all (okX true)) = true := by kernel_rfl
theorem okX_any (fo : Bool) {x : Int} (h0 : 32 ≤ x) (h1 : x < 128) : (∀ y, y ∈ mapO fo x → 32 ≤ y ∧ y ≤ 126) ∧ dbl (mapO fo x) = (spx x).flatMap (mapO fo) ∧ mapO true (up x) = mapO true x ∧ (mapO fo x).length ≤ 1 := by
  have h : okX fo x = true := by
    cases fo
    · exact List.all_eq_true.1 okX_f x (mem_rng h0 h1)
    · exact List.all_eq_true.1 okX_t x (mem_rng h0 h1)
  simp only [okX, Bool.and_eq_true, decide_eq_true_eq] at h
  obtain ⟨⟨⟨a, b⟩, c⟩, d⟩ := h
  exact ⟨fun y hy => by simpa using List.all_eq_true.1 a y hy, b, c, d⟩
def okY (y : Int) : Bool := decide (cls y = 0) && fitB y && !mk11 y
theorem okY_all : (((List.range 95).map fun (n : Nat) => (n : Int) + 32).all okY) = true := by kernel_rfl
theorem okY_any {y : Int} (h0 : 32 ≤ y) (h1 : y ≤ 126) : cls y = 0 ∧ fitB y = true ∧ mk11 y = false := by
  have h := List.all_eq_true.1 okY_all y (List.mem_map.2 ⟨(y - 32).toNat, List.mem_range.2 (by omega), by omega⟩)
  simp only [okY, Bool.and_eq_true, decide_eq_true_eq, Bool.not_eq_true'] at h
  exact ⟨h.1.1, h.1.2, h.2⟩

theorem dbl_append (a b : List Int) : dbl (a ++ b) = dbl a ++ dbl b := by simp [dbl]
theorem map_prn (fo : Bool) {l : List Int} (h : Asc l) : Prn (mapL fo l) := fun y hy => by
  obtain ⟨x, hx, hy'⟩ := List.mem_flatMap.1 hy
  exact (okX_any fo (h x hx).1 (h x hx).2).1 y hy'
theorem map_len (fo : Bool) {l : List Int} (h : Asc l) : (mapL fo l).length ≤ l.length := by
  induction l with
  | nil => simp [mapL]
  | cons x l ih =>
    have h1 := (okX_any fo (h x (by simp)).1 (h x (by simp)).2).2.2.2
    have h2 := ih fun y hy => h y (by simp [hy])
    unfold mapL at h2 ⊢
    rw [List.flatMap_cons, List.length_append, List.length_cons]
    omega
theorem map_spx (fo : Bool) : ∀ {l : List Int}, Asc l → mapL fo (l.flatMap spx) = dbl (mapL fo l)
  | [], _ => rfl
  | x :: l, h => by
    have h1 := (okX_any fo (h x (by simp)).1 (h x (by simp)).2).2.1
    have h2 := map_spx fo (l := l) fun y hy => h y (by simp [hy])
    unfold mapL at h2 ⊢
    rw [List.flatMap_cons, List.flatMap_append, List.flatMap_cons, dbl_append, h1, h2]
theorem mapO_ad (fo : Bool) : mapO fo 173 = [] := by cases fo <;> kernel_rfl
theorem mapO_zw (fo : Bool) : mapO fo 8203 = [] := by cases fo <;> kernel_rfl
theorem map_sp (fo : Bool) {l : List Int} (h : Asc l) : mapL fo (spL l) = dbl (mapL fo l) := by
  rw [← map_spx fo h]
  unfold mapL spL
  rw [List.flatMap_cons, List.flatMap_append, List.flatMap_cons, List.flatMap_nil, mapO_ad, mapO_zw]
  simp
theorem map_up {l : List Int} (h : Asc l) : mapL true (l.map up) = mapL true l := by
  induction l with
  | nil => rfl
  | cons x l ih =>
    have h1 := (okX_any true (h x (by simp)).1 (h x (by simp)).2).2.2.1
    have h2 := ih fun y hy => h y (by simp [hy])
    unfold mapL at h2 ⊢
    rw [List.map_cons, List.flatMap_cons, List.flatMap_cons, h1, h2]
theorem asc_up {l : List Int} (h : Asc l) : Asc (l.map up) := fun y hy => by
  obtain ⟨x, hx, rfl⟩ := List.mem_map.1 hy
  have := h x hx
  unfold up
  split <;> omega
theorem dbl_prn {m : List Int} (h : Prn m) : Prn (dbl m) := fun y hy => by
  obtain ⟨x, hx, hy'⟩ := List.mem_flatMap.1 hy
  have := h x hx
  split at hy'
  · simp at hy'; omega
  · simp at hy'; omega
theorem dbl_len (m : List Int) : (dbl m).length ≤ 2 * m.length := by
  induction m with
  | nil => simp [dbl]
  | cons x m ih =>
    unfold dbl at ih ⊢
    rw [List.flatMap_cons, List.length_append, List.length_cons]
    generalize (m.flatMap fun x => if x = 32 then [32, 32] else [x]).length = q at *
    split
    · simp only [List.length_cons, List.length_nil]; omega
    · simp only [List.length_cons, List.length_nil]; omega

/-- Printed characters of ASCII are their own normal form. -/
theorem prn_dec : ∀ {m : List Int}, Prn m → decL m = m ∧ m.all dOk = true
  | [], _ => ⟨rfl, rfl⟩
  | x :: m, h => by
    have h1 := h x (by simp)
    obtain ⟨h2, h3⟩ := prn_dec (m := m) fun y hy => h y (by simp [hy])
    have hs : selfD x = true := (selfD_iff x).2 (.inl ⟨by omega, by omega⟩)
    refine ⟨?_, ?_⟩
    · unfold decL at h2 ⊢
      rw [List.flatMap_cons, h2]
      unfold decO
      rw [if_pos hs]
      rfl
    · rw [List.all_cons, h3]
      unfold dOk
      rw [hs]
      rfl
theorem prn_ordered : ∀ {m : List Int}, Prn m → ordered cls m = true
  | [], _ => rfl
  | [_], _ => rfl
  | a :: b :: t, h => by
    have h2 := prn_ordered (m := b :: t) fun y hy => h y (List.mem_cons_of_mem _ hy)
    have hb := (okY_any (h b (by simp)).1 (h b (by simp)).2).1
    rw [ordered, h2, nxt, hb]
    simp
theorem prn_ord {m : List Int} (h : Prn m) : ordL cls Kls m = m := ord_self Kls_rise cls_in cls_nn m (prn_ordered h)
theorem prn_jB {a b : Int} (ha : 32 ≤ a ∧ a ≤ 126) : jB a b = false := by
  have : part a = 0 := by unfold part; rw [if_neg (by omega), if_neg (by omega), if_neg (by omega), if_neg (by omega)]
  unfold jB
  rw [this]
  simp
theorem prn_cgo : ∀ {m : List Int} {h : Int} (e : Bool), (32 ≤ h ∧ h ≤ 126) → Prn m → cgo h m = h :: m ∧ cok e h m = true
  | [], _, _, _, _ => ⟨rfl, rfl⟩
  | r :: m, h, e, hh, hm => by
    have hr := hm r (by simp)
    obtain ⟨h2, h3⟩ := prn_cgo (m := m) (h := r) e hr fun y hy => hm y (by simp [hy])
    have hc := (okY_any hr.1 hr.2).1
    have hj := prn_jB (b := r) hh
    rw [cgo, cok, hj, hc, h2, h3]
    simp
theorem prn_cmp {m : List Int} (h : Prn m) : cmpL m = m ∧ cmpOk m = true := by
  cases m with
  | nil => exact ⟨rfl, rfl⟩
  | cons r m =>
    have hr := h r (by simp)
    obtain ⟨h2, h3⟩ := prn_cgo (m := m) (h := r) true hr fun y hy => h y (by simp [hy])
    have hc := (okY_any hr.1 hr.2).1
    rw [cmpL, cmpOk, h2, h3, hc]
    simp
theorem prn_nf {m : List Int} (h : Prn m) (hl : m.length ≤ 400) : nfL m = m ∧ nfOk m = true := by
  obtain ⟨d1, d2⟩ := prn_dec h
  obtain ⟨c1, c2⟩ := prn_cmp h
  unfold nfL nfOk
  rw [d1, prn_ord h, c1, c2, d2]
  simp [hl]
theorem prn_chk : ∀ {m : List Int}, Prn m → chkN m = m.length
  | [], _ => rfl
  | x :: m, h => by
    have hx := h x (by simp)
    rw [chkN, (okY_any hx.1 hx.2).2.1, prn_chk fun y hy => h y (by simp [hy])]
    simp
theorem prn_chkE {m : List Int} (h : Prn m) : chkE m = 0 := by unfold chkE; rw [if_pos (prn_chk h)]

theorem prn_fre {m : List Int} (h : Prn m) : fre mk11 m = true := by
  cases m with
  | nil => rfl
  | cons x m =>
    have hx := h x (by simp)
    rw [fre, (okY_any hx.1 hx.2).2.2]
    rfl
theorem prn_sp {x : Int} {t : List Int} (h : Prn t) : sp mk11 x t = decide (x = 32) := by unfold sp; rw [prn_fre h]; simp
theorem prn_hp {x : Int} {t : List Int} (h : Prn t) : hp mk11 x t = hy x := by unfold hp; rw [prn_fre h]; simp
theorem Prn.tail {x : Int} {m : List Int} (h : Prn (x :: m)) : Prn m := fun y hy => h y (by simp [hy])
theorem dbl_cons (x : Int) (m : List Int) : dbl (x :: m) = (if x = 32 then [32, 32] else [x]) ++ dbl m := by simp [dbl]
theorem prn_cons32 {m : List Int} (h : Prn m) : Prn (32 :: m) := fun y hy => by
  rcases List.mem_cons.1 hy with rfl | hy
  · omega
  · exact h y hy
theorem num_dbl : ∀ {m : List Int}, Prn m → numL mk11 (dbl m) = numL mk11 m
  | [], _ => rfl
  | x :: m, h => by
    have ih := num_dbl h.tail
    have hd := dbl_prn h.tail
    rw [dbl_cons]
    by_cases hx : x = 32
    · subst hx
      rw [if_pos rfl]
      show numL mk11 (32 :: 32 :: dbl m) = _
      rw [numL, prn_sp (prn_cons32 hd), numL, prn_sp hd, numL, prn_sp h.tail, ih]
      simp
    · rw [if_neg hx]
      show numL mk11 (x :: dbl m) = _
      rw [numL, prn_sp hd, numL, prn_sp h.tail, ih]
theorem ph_dbl : ∀ {m : List Int}, Prn m → phL mk11 (dbl m) = phL mk11 m
  | [], _ => rfl
  | x :: m, h => by
    have ih := ph_dbl h.tail
    have hd := dbl_prn h.tail
    rw [dbl_cons]
    by_cases hx : x = 32
    · subst hx
      rw [if_pos rfl]
      show phL mk11 (32 :: 32 :: dbl m) = _
      rw [phL, prn_sp (prn_cons32 hd), phL, prn_sp hd, phL, prn_sp h.tail, ih]
      simp
    · rw [if_neg hx]
      show phL mk11 (x :: dbl m) = _
      rw [phL, prn_sp hd, prn_hp hd, phL, prn_sp h.tail, prn_hp h.tail, ih]
theorem inn_dbl : ∀ {m : List Int} (s o : Bool), Prn m → inn mk11 s o (dbl m) = inn mk11 s o m
  | [], _, _, _ => rfl
  | x :: m, s, o, h => by
    have hd := dbl_prn h.tail
    rw [dbl_cons]
    by_cases hx : x = 32
    · subst hx
      rw [if_pos rfl]
      show inn mk11 s o (32 :: 32 :: dbl m) = _
      have e1 : sp mk11 32 (32 :: dbl m) = true := by rw [prn_sp (prn_cons32 hd)]; rfl
      have e2 : sp mk11 32 (dbl m) = true := by rw [prn_sp hd]; rfl
      have e3 : sp mk11 32 m = true := by rw [prn_sp h.tail]; rfl
      rw [inn_sp e1, inn_sp e2, inn_sp e3, inn_dbl s true h.tail]
    · rw [if_neg hx]
      show inn mk11 s o (x :: dbl m) = _
      have e1 : sp mk11 x (dbl m) = false := by rw [prn_sp hd]; simpa using hx
      have e2 : sp mk11 x m = false := by rw [prn_sp h.tail]; simpa using hx
      rw [inn_no e1, inn_no e2, inn_dbl true false h.tail]
theorem val_dbl {m : List Int} (h : Prn m) : valL mk11 (dbl m) = valL mk11 m := by
  unfold valL firmL
  rw [prn_fre h, prn_fre (dbl_prn h), if_pos rfl, if_pos rfl, inn_dbl _ _ h]
theorem fr_dbl (way : Int) {m : List Int} (h : Prn m) : frL way (dbl m) = frL way m := by
  unfold frL
  rw [num_dbl h, ph_dbl h, val_dbl h]
/-- What is freed is of ASCII, and not long. -/
theorem num_prn : ∀ {m : List Int}, Prn m → Prn (numL mk11 m) ∧ (numL mk11 m).length ≤ m.length
  | [], h => ⟨h, Nat.le_refl _⟩
  | x :: m, h => by
    obtain ⟨a, b⟩ := num_prn h.tail
    rw [numL]
    split
    · exact ⟨a, by simp; omega⟩
    · refine ⟨fun y hy => ?_, by simp; omega⟩
      rcases List.mem_cons.1 hy with rfl | hy
      · exact h y (by simp)
      · exact a y hy
theorem ph_prn : ∀ {m : List Int}, Prn m → Prn (phL mk11 m) ∧ (phL mk11 m).length ≤ m.length
  | [], h => ⟨h, Nat.le_refl _⟩
  | x :: m, h => by
    obtain ⟨a, b⟩ := ph_prn h.tail
    rw [phL]
    split
    · exact ⟨a, by simp; omega⟩
    · refine ⟨fun y hy => ?_, by simp; omega⟩
      rcases List.mem_cons.1 hy with rfl | hy
      · exact h y (by simp)
      · exact a y hy
theorem inn_prn : ∀ {m : List Int} (s o : Bool), Prn m → Prn (inn mk11 s o m) ∧ (inn mk11 s o m).length ≤ 3 * m.length
  | [], _, _, h => ⟨h, Nat.le_refl _⟩
  | x :: m, s, o, h => by
    rw [inn]
    split
    · obtain ⟨a, b⟩ := inn_prn s true h.tail
      exact ⟨a, by simp; omega⟩
    · obtain ⟨a, b⟩ := inn_prn true false h.tail
      have hx := h x (by simp)
      refine ⟨fun y hy => ?_, ?_⟩
      · rcases List.mem_append.1 hy with hy | hy
        · split at hy
          · simp at hy; omega
          · cases hy
        · rcases List.mem_cons.1 hy with rfl | hy
          · exact hx
          · exact a y hy
      · rw [List.length_append, List.length_cons, List.length_cons]
        split
        · simp; omega
        · simp; omega
theorem val_prn {m : List Int} (h : Prn m) : Prn (valL mk11 m) ∧ (valL mk11 m).length ≤ 3 * m.length + 2 := by
  unfold valL firmL
  rw [prn_fre h, if_pos rfl]
  obtain ⟨a, b⟩ := inn_prn false false h
  refine ⟨fun y hy => ?_, by simp; omega⟩
  rcases List.mem_cons.1 hy with rfl | hy
  · omega
  · rcases List.mem_append.1 hy with hy | hy
    · exact a y hy
    · simp at hy; omega
theorem fr_prn (way : Int) {m : List Int} (h : Prn m) (hl : m.length ≤ 400) : Prn (frL way m) ∧ (frL way m).length ≤ 1202 ∧ frOk way m = true := by
  unfold frL frOk
  split
  · obtain ⟨a, b⟩ := num_prn h
    obtain ⟨c, d⟩ := prn_nf a (by omega)
    rw [c]
    exact ⟨a, by omega, d⟩
  · split
    · obtain ⟨a, b⟩ := ph_prn h
      obtain ⟨c, d⟩ := prn_nf a (by omega)
      rw [c]
      exact ⟨a, by omega, d⟩
    · obtain ⟨a, b⟩ := val_prn h
      exact ⟨a, by omega, rfl⟩
theorem prn_okL {m : List Int} (h : Prn m) : okL m = true := List.all_eq_true.2 fun x hx => by
  have := h x hx
  rw [isPt_iff]; omega
/-- Easy texts, by their code points. -/
theorem ru_of {s : ByteArray} {l : List Int} (h : nums s = encL l) (hok : okL l = true) : ruOk s = true ∧ ruP s = l := by
  have hsz : (encL l).length = s.size := by rw [← h, nums_length]
  obtain ⟨h1, h2⟩ := run_enc l hok s.size (by omega)
  have hok2 : ruOk s = true := by unfold ruOk; rw [h, h2, hsz]; simp
  refine ⟨hok2, ?_⟩
  unfold ruP
  rw [hok2, if_pos rfl, h, h1]
theorem easy_of {way : Int} {s : ByteArray} {l m : List Int} (h : nums s = encL l) (hok : okL l = true) (hs : s.size ≤ 1202) (hm : mapL (foW way) l = m) (hp : Prn m) (hl : m.length ≤ 400) : Ez way s ∧ vE way s = 0 ∧ vS way s = encS (frL way m) := by
  obtain ⟨h1, h2⟩ := ru_of h hok
  obtain ⟨n1, n2⟩ := prn_nf hp hl
  obtain ⟨f1, f2, f3⟩ := fr_prn way hp hl
  have hn : nnL way (ruP s) = m := by unfold nnL; rw [h2, hm, n1]
  have hc := prn_chkE hp
  refine ⟨⟨hs, h1, ?_, by rw [hn]; omega⟩, ?_, ?_⟩
  · unfold stOk
    rw [hn, h2, hm, n2, f3]
    simp; omega
  · unfold vE
    rw [hn, hc, if_pos rfl]
    unfold encE
    rw [prn_okL f1]
    rfl
  · unfold vS
    rw [hn, hc, if_pos rfl]
theorem asc_enc {l : List Int} (h : Asc l) : encL l = l ∧ okL l = true := by
  induction l with
  | nil => exact ⟨rfl, rfl⟩
  | cons x l ih =>
    obtain ⟨a, b⟩ := ih fun y hy => h y (by simp [hy])
    have hx := h x (by simp)
    refine ⟨?_, ?_⟩
    · rw [encL, a, enc1, if_pos (by omega)]; rfl
    · unfold okL at b ⊢
      rw [List.all_cons, b, show isPt x = true by rw [isPt_iff]; omega]
      rfl
theorem spL_ok {l : List Int} (h : Asc l) : okL (spL l) = true := by
  refine List.all_eq_true.2 fun y hy => ?_
  rw [isPt_iff]
  unfold spL at hy
  rcases List.mem_cons.1 hy with rfl | hy
  · omega
  · rcases List.mem_append.1 hy with hy | hy
    · obtain ⟨x, hx, hy'⟩ := List.mem_flatMap.1 hy
      have := h x hx
      unfold spx at hy'
      split at hy'
      · simp at hy'; omega
      · simp at hy'; omega
    · simp at hy; omega
/-- A text of ASCII, and what it is with other spaces: the same, prepared. -/
theorem easy_asc (way : Int) {s : ByteArray} (h : Asc (nums s)) (hs : s.size ≤ 150) : Ez way s ∧ vE way s = 0 ∧ vS way s = encS (frL way (mapL (foW way) (nums s))) := by
  obtain ⟨a, b⟩ := asc_enc h
  have hl := map_len (foW way) h
  rw [nums_length] at hl
  exact easy_of (by rw [a]) b (by omega) rfl (map_prn _ h) (by omega)
theorem easy_sp (way : Int) {s t : ByteArray} (h : Asc (nums s)) (hs : s.size ≤ 150) (ht : nums t = encL (spL (nums s))) : Ez way t ∧ vE way t = 0 ∧ vS way t = encS (frL way (mapL (foW way) (nums s))) := by
  have hl := map_len (foW way) h
  rw [nums_length] at hl
  have hd := dbl_len (mapL (foW way) (nums s))
  have hsz : t.size ≤ 1202 := by
    rw [← nums_length, ht]
    have h1 : ∀ l : List Int, (encL (l.flatMap spx)).length ≤ 5 * l.length := fun l => by
      induction l with
      | nil => simp [encL]
      | cons x l ih =>
        have h2 : (encL (spx x)).length ≤ 5 := by
          unfold spx
          split
          · exact Nat.le_refl 5
          · have := enc1_bound x
            simp only [encL, List.append_nil]
            omega
        rw [List.flatMap_cons, encL_append, List.length_append, List.length_cons]
        omega
    have h4 := h1 (nums s)
    have h5 := enc1_bound 173
    have h6 := enc1_bound 8203
    rw [nums_length] at h4
    unfold spL
    rw [encL, encL_append, List.length_append, List.length_append]
    simp only [encL, List.append_nil]
    omega
  rw [← fr_dbl way (map_prn (foW way) h)]
  exact easy_of ht (spL_ok h) hsz (map_sp _ h) (dbl_prn (map_prn _ h)) (by omega)
end Go.Proofs.YticgeabmhmojfaaGreatDoor
/- The law's own spaced and upper. -/
namespace Go.Proofs.YticgeabmhmojfaaGreatDoor
set_option maxRecDepth 100000
open Go.RowKit

theorem nums_app12 (s t : ByteArray) : nums (s ++ t) = nums s ++ nums t := by
  unfold nums
  simp
/-- The bytes of a text with other spaces. -/
def spb (x : Int) : List Int := if x = 32 then [194, 160, 226, 128, 131] else [x]
def spB (l : List Int) : List Int := [194, 173] ++ l.flatMap spb
theorem spB_snoc (l : List Int) (x : Int) : spB (l ++ [x]) = spB l ++ spb x := by simp [spB]
theorem spB_enc {l : List Int} (h : Asc l) : spB l ++ [226, 128, 139] = encL (spL l) := by
  have h1 : encL (l.flatMap spx) = l.flatMap spb := by
    induction l with
    | nil => rfl
    | cons x l ih =>
      have hx := h x (by simp)
      rw [List.flatMap_cons, encL_append, ih fun y hy => h y (by simp [hy]), List.flatMap_cons]
      congr 1
      unfold spx spb
      split
      · rfl
      · rw [encL, enc1, if_pos (by omega)]; rfl
  unfold spL spB
  rw [encL, encL_append, h1]
  rfl
theorem spB_len (l : List Int) : (spB l).length ≤ 5 * l.length + 2 := by
  have h : (l.flatMap spb).length ≤ 5 * l.length := by
    induction l with
    | nil => simp
    | cons x l ih =>
      rw [List.flatMap_cons, List.length_append, List.length_cons]
      have : (spb x).length ≤ 5 := by unfold spb; split <;> simp
      omega
  unfold spB
  rw [List.length_append]
  simp only [List.length_cons, List.length_nil]
  omega
theorem size_of {t : ByteArray} {l : List Int} (h : nums t = spB l) : t.size ≤ 5 * l.length + 2 := by
  rw [← nums_length, h]; exact spB_len l
set_option maxHeartbeats 1000000 in
theorem spaced_any (s : ByteArray) (w : World) (hs : s.size ≤ 1000) : Calls Tryz.prog 6 #[.string s] w fun e w' => ∃ t, e = .returned (.string t) ∧ nums t = spB (nums s) ++ [226, 128, 139] ∧ w = w' := by
  go_enter Tryz.func6, Tryz.ntmps6
  go_wp2
  go_loop [3, 4] (fun v i => ∃ (k : Nat) (t : ByteArray), k ≤ s.size ∧ i = .int .i64 (k : Int) ∧ v = .string t ∧ Hid (nums t = spB ((nums s).take k))) (fun _ i => s.size - (intOf i).toNat)
  case atStart => exact ⟨0, _, Nat.zero_le _, rfl, rfl, rfl⟩
  case round =>
    obtain ⟨k, t, hk, rfl, rfl, HT⟩ := hrel
    have hts : t.size ≤ 5002 := by
      have h1 := size_of (unhide HT)
      have h2 : ((nums s).take k).length ≤ s.size := by rw [List.length_take, nums_length]; exact Nat.min_le_right _ _
      omega
    by_cases hlt : k < s.size
    · have hzl : (k : Int) < (s.size : Int) := by omega
      have hz0 : (0 : Int) ≤ (k : Int) := by omega
      have hat := nums_at s k hlt
      have hsn : Hid ((nums s).take (k + 1) = (nums s).take k ++ [(s[k].toNat : Int)]) := by
        show _ = _
        rw [take_snoc (nums s) k (by rw [nums_length]; exact hlt), hat]
      have hex : Hid (nums (s.extract k (k + 1)) = [(s[k].toNat : Int)]) := by
        show _ = _
        rw [nums_extract, show k + 1 - k = 1 by omega, ← hat, drop_getD12 (nums s) 0 k (by rw [nums_length]; exact hlt)]
        rfl
      clear hat
      by_cases hx : (s[k].toNat : Int) = 32
      · have hxz : ((s[k].toNat : Int) == 32) = true := by simpa using hx
        have HS : Hid (nums (t ++ ⟨#[194, 160, 226, 128, 131]⟩) = spB ((nums s).take (k + 1))) := by
          show _ = _
          rw [nums_app12, unhide HT, unhide hsn, spB_snoc, hx]
          rfl
        have hq : t.size + 5 ≤ 9223372036854775807 := by omega
        have hq2 : t.size + (⟨#[194, 160, 226, 128, 131]⟩ : ByteArray).size ≤ 9223372036854775807 := hq
        clear hx hex hsn HT
        go_wp2
        go_round
        case rel => exact ⟨k + 1, _, by omega, by go_num, rfl, HS⟩
        case measure => simp [intOf]; omega
      · have hxz : ((s[k].toNat : Int) == 32) = false := by simpa using hx
        have HS : Hid (nums (t ++ s.extract k (k + 1)) = spB ((nums s).take (k + 1))) := by
          show _ = _
          rw [nums_app12, unhide HT, unhide hsn, spB_snoc, unhide hex, spb, if_neg hx]
        have h1 : (k : Int) + 1 ≤ (s.size : Int) := by omega
        have hes : (s.extract k (k + 1)).size = 1 := by rw [← nums_length, unhide hex]; rfl
        have hq : t.size + (s.extract k (k + 1)).size ≤ 9223372036854775807 := by omega
        clear hx hex hsn HT hes
        go_wp2
        go_round
        case rel => exact ⟨k + 1, _, by omega, by go_num, rfl, HS⟩
        case measure => simp [intOf]; omega
    · have hzl : ¬ (k : Int) < (s.size : Int) := by omega
      obtain rfl : k = s.size := by omega
      have HS : Hid (nums (t ++ ⟨#[226, 128, 139]⟩) = spB (nums s) ++ [226, 128, 139]) := by
        show _ = _
        rw [nums_app12, unhide HT, ← nums_length s, List.take_length]
        rfl
      have hq : t.size + 3 ≤ 9223372036854775807 := by omega
      have hq2 : t.size + (⟨#[226, 128, 139]⟩ : ByteArray).size ≤ 9223372036854775807 := hq
      clear HT
      go_wp2
      go_ret
      exact ⟨_, rfl, unhide HS, rfl⟩

/-- Bytes in a block, that may be written. -/
def Bs (g n : Nat) (L : List Int) (w : World) : Prop := L.length = n ∧ ∀ j, j < n → w.cell? ⟨g, j, none⟩ = some (.int .u8 (L.getD j 0)) ∧ w.frozen? ⟨g, j, none⟩ = false
theorem Bs.set {g n : Nat} {L : List Int} {w : World} (h : Bs g n L w) (k : Nat) (hk : k < n) (z : Int) : Bs g n (L.set k z) (w.setCell ⟨g, k, none⟩ (.int .u8 z)) := by
  obtain ⟨h0, h1⟩ := h
  refine ⟨by rw [List.length_set]; exact h0, fun j hj => ⟨?_, ?_⟩⟩
  · by_cases e : j = k
    · subst e
      rw [World.cell?_setCell_same (h := (h1 j hj).1)]
      simp [List.getD, h0, hj]
    · rw [World.cell?_setCell_other (h := by intro he; injection he with _ he2 _; exact e he2.symm), (h1 j hj).1]
      simp [List.getD, List.getElem?_set_ne (Ne.symm e)]
  · rw [World.frozen?_setCell]
    exact (h1 j hj).2
theorem bs_new (t : ByteArray) (w : World) : ∃ (w1 : World) (cap1 : Nat), (convert 9 34 (.string t)).run Tryz.prog w = .ok (.slice (some ⟨w.heap.size, 0, none⟩) t.size cap1) w1 ∧ Bs w.heap.size t.size (nums t) w1 ∧ Below w.heap.size w w1 := by
  refine ⟨_, _, run_bytes_of_string w 9 34 5 t Tryz.underlying9 Tryz.underlying34 Tryz.underlying5, ⟨nums_length t, fun j hj => ⟨?_, ?_⟩⟩, ((Below.refl _ _).drew).alloc (Nat.le_refl _) _⟩
  · have := World.cell?_alloc_mark w.drew (bytesRow t (grownCap w t.size 0 5)) 5 ((bytesRow t (grownCap w t.size 0 5)).size, (bytesRow t (grownCap w t.size 0 5)).size + 1) j
    refine this.trans ?_
    rw [bytesRow_at t _ j (by simpa using hj), nums_at t j hj]
    rfl
  · have hsz : t.size ≤ (bytesRow t (grownCap w t.size 0 5)).size := by unfold bytesRow; simp
    unfold World.frozen?
    rw [show (w.drew.alloc (.cells (bytesRow t (grownCap w t.size 0 5)) 5 ((bytesRow t (grownCap w t.size 0 5)).size, (bytesRow t (grownCap w t.size 0 5)).size + 1))).heap[w.heap.size]? = some _ from heap_new w.drew _]
    dsimp only
    simp; omega
theorem up_step (l : List Int) (k : Nat) (h : k < l.length) (z : Int) (hz : z = up (l.getD k 0)) : ((l.take k).map up ++ l.drop k).set k z = (l.take (k + 1)).map up ++ l.drop (k + 1) := by
  have h1 : ((l.take k).map up).length = k := by simp; omega
  rw [take_snoc l k h, List.map_append, drop_getD12 l 0 k h, List.set_append_right _ _ (by omega), h1, hz]
  simp
theorem up_at (l : List Int) (k : Nat) (h : k < l.length) : ((l.take k).map up ++ l.drop k).getD k 0 = l.getD k 0 := by
  have h1 : ((l.take k).map up).length = k := by simp; omega
  rw [List.getD_eq_getElem?_getD, List.getElem?_append_right (by omega), h1]
  simp [List.getD]
theorem up_keep (l : List Int) (k : Nat) (h : k < l.length) (hz : l.getD k 0 = up (l.getD k 0)) : (l.take k).map up ++ l.drop k = (l.take (k + 1)).map up ++ l.drop (k + 1) := by
  rw [take_snoc l k h, List.map_append, drop_getD12 l 0 k h, List.map_cons, ← hz]
  simp
set_option maxHeartbeats 1000000 in
theorem upS_any (s : ByteArray) (w : World) (hs : s.size ≤ 1000) : Calls Tryz.prog 7 #[.string s] w fun e w' => e = .returned (.string (strOfNums ((nums s).map up))) ∧ Below w.heap.size w w' := by
  obtain ⟨w1, cap1, hcv, hbs, hb1⟩ := bs_new s w
  have HBS := hide hbs
  have HBD := hide (nums_bound s)
  clear hbs
  go_enter Tryz.func7, Tryz.ntmps7
  go_wp2
  go_loopw [4] (fun i wr => ∃ k : Nat, k ≤ s.size ∧ i = .int .i64 (k : Int) ∧ Bs w.heap.size s.size (((nums s).take k).map up ++ (nums s).drop k) wr ∧ Below w.heap.size w wr) (fun i _ => s.size - (intOf i).toNat)
  case atStart => exact ⟨0, Nat.zero_le _, rfl, unhide HBS, hb1⟩
  case round =>
    clear HBS
    obtain ⟨k, hk, rfl, hb, hbw⟩ := hrel
    by_cases hlt : k < s.size
    · have hzl : (k : Int) < (s.size : Int) := by omega
      have hz0 : (0 : Int) ≤ (k : Int) := by omega
      have hlen : k < (nums s).length := by rw [nums_length]; exact hlt
      obtain ⟨c1, f1⟩ := hb.2 k hlt
      rw [up_at (nums s) k hlen] at c1
      have hx0 : 0 ≤ (nums s).getD k 0 ∧ (nums s).getD k 0 < 256 := unhide HBD _ (by simp [List.getD, hlen])
      have HU := hide (up_step (nums s) k hlen)
      have HK := hide (up_keep (nums s) k hlen)
      have HB := hide hb
      clear hb
      generalize (nums s).getD k 0 = x at *
      obtain ⟨hx0, hx1⟩ := hx0
      by_cases h1 : 97 ≤ x
      · by_cases h2 : x ≤ 122
        · have hu : up x = x - 32 := by unfold up; rw [if_pos ⟨h1, h2⟩]
          have HU2 := hide (unhide HU (x - 32) hu.symm)
          clear HU HK hu
          have e1 : IntKind.u8.wrap (x - 32) = x - 32 := by rw [IntKind.wrap_u8']; omega
          go_wp2
          go_roundw
          case rel => exact ⟨k + 1, by omega, by go_num, by rw [← unhide HU2]; exact (unhide HB).set k hlt (x - 32), hbw.setCell (p := ⟨w.heap.size, k, none⟩) (Nat.le_refl _) _⟩
          case measure => simp [intOf]; omega
        · have hu : x = up x := by unfold up; rw [if_neg (by omega)]
          have HK2 := hide (unhide HK hu)
          clear HU HK hu
          go_wp2
          go_roundw
          case rel => exact ⟨k + 1, by omega, by go_num, by rw [← unhide HK2]; exact unhide HB, hbw⟩
          case measure => simp [intOf]; omega
      · have hu : x = up x := by unfold up; rw [if_neg (by omega)]
        have HK2 := hide (unhide HK hu)
        have z1 : decide (97 ≤ x) = false := by simpa using h1
        clear HU HK hu
        go_wp2
        go_roundw
        case rel => exact ⟨k + 1, by omega, by go_num, by rw [← unhide HK2]; exact unhide HB, hbw⟩
        case measure => simp [intOf]; omega
    · have hzl : ¬ (k : Int) < (s.size : Int) := by omega
      obtain rfl : k = s.size := by omega
      have e1 : ((nums s).take s.size).map up ++ (nums s).drop s.size = (nums s).map up := by rw [← nums_length s, List.take_length, List.drop_length, List.append_nil]
      rw [e1] at hb
      have hl : ((nums s).map up).length = s.size := by rw [List.length_map, nums_length]
      have hcv2 := run_convert_bytes_arg wr 34 5 Tryz.underlying34 Tryz.underlying5 w.heap.size 0 s.size cap1 ((nums s).map up) hl (fun i hi => by rw [Nat.zero_add]; exact (hb.2 i hi).1) 9 Tryz.underlying9
      clear hb hl e1
      go_wp2
      go_ret
      exact ⟨rfl, hbw⟩
end Go.Proofs.YticgeabmhmojfaaGreatDoor
/- awake, and the law PrepSame. -/
namespace Go.Proofs.YticgeabmhmojfaaGreatDoor
set_option maxRecDepth 100000
open Go.RowKit

def aw1 : ByteArray := ⟨#[70, 117, 195, 159, 103, 195, 132, 110, 103, 101, 114, 194, 160, 32, 90, 111, 110, 101]⟩
def aw2 : ByteArray := ⟨#[239, 172, 129]⟩
def aw3 : ByteArray := ⟨#[49, 32, 50]⟩
def aw4 : ByteArray := ⟨#[238, 128, 128]⟩
def aw5 : ByteArray := ⟨#[43, 49, 32, 50, 45, 51]⟩
def aw6 : ByteArray := ⟨#[43, 49, 50, 51]⟩
def aw7 : ByteArray := ⟨#[32, 97, 32]⟩
def aw8 : ByteArray := ⟨#[97]⟩
theorem aw1_ru : ruP aw1 = [70, 117, 223, 103, 196, 110, 103, 101, 114, 160, 32, 90, 111, 110, 101] := by kernel_rfl
theorem aw1_nn : nnL 2 [70, 117, 223, 103, 196, 110, 103, 101, 114, 160, 32, 90, 111, 110, 101] = [102, 117, 115, 115, 103, 228, 110, 103, 101, 114, 32, 32, 122, 111, 110, 101] := by kernel_rfl
theorem aw1_st : stOk 2 [70, 117, 223, 103, 196, 110, 103, 101, 114, 160, 32, 90, 111, 110, 101] = true := by kernel_rfl
theorem aw1_ez : Ez 2 aw1 ∧ vE 2 aw1 = 0 ∧ vS 2 aw1 = ⟨#[32, 102, 117, 115, 115, 103, 195, 164, 110, 103, 101, 114, 32, 32, 122, 111, 110, 101, 32]⟩ := by
  refine ⟨⟨by decide, by kernel_rfl, by rw [aw1_ru]; exact aw1_st, by rw [aw1_ru, aw1_nn]; decide⟩, ?_, ?_⟩
  · unfold vE; rw [aw1_ru, aw1_nn]; kernel_rfl
  · unfold vS; rw [aw1_ru, aw1_nn]; kernel_rfl
theorem aw2_ru : ruP aw2 = [64257] := by kernel_rfl
theorem aw2_ez : Ez 1 aw2 ∧ vE 1 aw2 = 0 ∧ vS 1 aw2 = ⟨#[32, 102, 105, 32]⟩ := by
  refine ⟨⟨by decide, by kernel_rfl, by rw [aw2_ru]; kernel_rfl, by rw [aw2_ru]; decide +kernel⟩, ?_, ?_⟩
  · unfold vE; rw [aw2_ru]; kernel_rfl
  · unfold vS; rw [aw2_ru]; kernel_rfl
theorem aw3_ru : ruP aw3 = [49, 32, 50] := by kernel_rfl
theorem aw3_ez : Ez 3 aw3 ∧ vE 3 aw3 = 0 ∧ vS 3 aw3 = ⟨#[49, 50]⟩ := by
  refine ⟨⟨by decide, by kernel_rfl, by rw [aw3_ru]; kernel_rfl, by rw [aw3_ru]; decide +kernel⟩, ?_, ?_⟩
  · unfold vE; rw [aw3_ru]; kernel_rfl
  · unfold vS; rw [aw3_ru]; kernel_rfl
theorem aw4_ru : ruP aw4 = [57344] := by kernel_rfl
theorem aw4_ez : Ez 2 aw4 ∧ vE 2 aw4 = 30 ∧ vS 2 aw4 = ⟨#[]⟩ := by
  refine ⟨⟨by decide, by kernel_rfl, by rw [aw4_ru]; kernel_rfl, by rw [aw4_ru]; decide +kernel⟩, ?_, ?_⟩
  · unfold vE; rw [aw4_ru]; kernel_rfl
  · unfold vS; rw [aw4_ru]; kernel_rfl
theorem aw5_ez : Ez 4 aw5 ∧ vE 4 aw5 = 0 ∧ vS 4 aw5 = aw6 := by
  have h : ruP aw5 = [43, 49, 32, 50, 45, 51] := by kernel_rfl
  refine ⟨⟨by decide, by kernel_rfl, by rw [h]; kernel_rfl, by rw [h]; decide +kernel⟩, ?_, ?_⟩
  · unfold vE; rw [h]; kernel_rfl
  · unfold vS; rw [h]; kernel_rfl
theorem aw6_ez : Ez 4 aw6 ∧ vE 4 aw6 = 0 ∧ vS 4 aw6 = aw6 := by
  have h : ruP aw6 = [43, 49, 50, 51] := by kernel_rfl
  refine ⟨⟨by decide, by kernel_rfl, by rw [h]; kernel_rfl, by rw [h]; decide +kernel⟩, ?_, ?_⟩
  · unfold vE; rw [h]; kernel_rfl
  · unfold vS; rw [h]; kernel_rfl
theorem aw7_ez : Ez 2 aw7 ∧ vE 2 aw7 = 0 ∧ vS 2 aw7 = aw7 := by
  have h : ruP aw7 = [32, 97, 32] := by kernel_rfl
  refine ⟨⟨by decide, by kernel_rfl, by rw [h]; kernel_rfl, by rw [h]; decide +kernel⟩, ?_, ?_⟩
  · unfold vE; rw [h]; kernel_rfl
  · unfold vS; rw [h]; kernel_rfl
theorem aw8_ez : Ez 2 aw8 ∧ vE 2 aw8 = 0 ∧ vS 2 aw8 = aw7 := by
  have h : ruP aw8 = [97] := by kernel_rfl
  refine ⟨⟨by decide, by kernel_rfl, by rw [h]; kernel_rfl, by rw [h]; decide +kernel⟩, ?_, ?_⟩
  · unfold vE; rw [h]; kernel_rfl
  · unfold vS; rw [h]; kernel_rfl
theorem aw78 : (aw7.toList == aw8.toList) = false := by
  rw [show aw7.toList = [32, 97, 32] from ByteArray.toList_mk [32, 97, 32], show aw8.toList = [97] from ByteArray.toList_mk [97]]
  rfl
end Go.Proofs.YticgeabmhmojfaaGreatDoor
/- awake, and the law PrepSame: over the contracts. -/
namespace Go.Proofs.YticgeabmhmojfaaGreatDoor
set_option maxRecDepth 100000
open Go.RowKit

theorem below_next12 {a b c : World} (h : Below a.heap.size a b) (k : Below b.heap.size b c) : Below a.heap.size a c := h.trans (k.mono h.size)
set_option maxHeartbeats 2000000 in
theorem awake12 (w : World) (hL : L12 w) : Calls Tryz.prog 4 #[] w fun e w' => e = .returned (.bool true) ∧ Below w.heap.size w w' := by
  have H1 := hide (fun W hW => value_any 2 aw1 W hW (by omega) (by omega) aw1_ez.1)
  have H2 := hide (fun W hW => value_any 1 aw2 W hW (by omega) (by omega) aw2_ez.1)
  have H3 := hide (fun W hW => value_any 3 aw3 W hW (by omega) (by omega) aw3_ez.1)
  have H4 := hide (fun W hW => value_any 2 aw4 W hW (by omega) (by omega) aw4_ez.1)
  have H5 : Hid (∀ v W, L12 W → Strs W v [aw5, aw6] → Calls Tryz.prog 5 #[.int .i64 4, v] W fun e w' => e = .returned (.tuple #[.bool true, .int .i64 0]) ∧ Below W.heap.size W w') :=
    fun v W hW hv => same_yes 4 v [aw5, aw6] aw6 W hW (by omega) (by omega) (by simp) (fun j hj => by
      have hj' : j = 0 ∨ j = 1 := by simp at hj; omega
      rcases hj' with rfl | rfl
      · exact aw5_ez
      · exact aw6_ez) hv
  have H7 := hide (fun W hW => prepared_any 2 aw7 W hW (by omega) (by omega) aw7_ez.1 aw7_ez.2.1)
  have H8 := hide (fun W hW => prepared_any 2 aw8 W hW (by omega) (by omega) aw8_ez.1 aw8_ez.2.1)
  rw [aw1_ez.2.1, aw1_ez.2.2] at H1
  rw [aw2_ez.2.1, aw2_ez.2.2] at H2
  rw [aw3_ez.2.1, aw3_ez.2.2] at H3
  rw [aw4_ez.2.1, aw4_ez.2.2] at H4
  rw [aw7_ez.2.2, beq_self12] at H7
  rw [aw8_ez.2.2, aw78] at H8
  have HL := hide hL
  clear hL
  go_enter Tryz.func4, Tryz.ntmps4
  go_wp2_with (first
    | (go_at_call 9; refine (unhide H8 _ (unhide HL6)).mono ?_; rintro e w7 ⟨rfl, b7⟩; have t7 := below_next12 t6 b7)
    | (go_at_call 9; refine (unhide H7 _ (unhide HL5)).mono ?_; rintro e w6 ⟨rfl, b6⟩; have t6 := below_next12 t5 b6; have HL6 := hide ((unhide HL).keep t6))
    | (go_at_call 5; refine (unhide H5 _ _ (unhide HL4x) (strs_new w4 [aw5, aw6] _ _ rfl)).mono ?_; rintro e w5 ⟨rfl, b5⟩; have t5 := below_next12 t4x b5; have HL5 := hide ((unhide HL).keep t5))
    | (go_at_call 8; refine (unhide H4 _ (unhide HL3)).mono ?_; rintro e w4 ⟨rfl, b4⟩; have t4 := below_next12 t3 b4; have t4x := t4.alloc t4.size (.cells #[.string aw5, .string aw6] 9); have HL4x := hide ((unhide HL).keep t4x))
    | (go_at_call 8; refine (unhide H3 _ (unhide HL2)).mono ?_; rintro e w3 ⟨rfl, b3⟩; have t3 := below_next12 t2 b3; have HL3 := hide ((unhide HL).keep t3))
    | (go_at_call 8; refine (unhide H2 _ (unhide HL1)).mono ?_; rintro e w2 ⟨rfl, b2⟩; have t2 := below_next12 t1 b2; have HL2 := hide ((unhide HL).keep t2))
    | (go_at_call 8; refine (unhide H1 _ (unhide HL)).mono ?_; rintro e w1 ⟨rfl, t1⟩; have HL1 := hide ((unhide HL).keep t1)))
  go_ret
  exact ⟨rfl, t7⟩

/-- The text in great letters. -/
def upS (s : ByteArray) : ByteArray := strOfNums ((nums s).map up)
theorem upS_nums {s : ByteArray} (h : Asc (nums s)) : nums (upS s) = (nums s).map up := nums_strOfNums _ fun x hx => by
  have := asc_up h x hx
  omega
theorem upS_size {s : ByteArray} (h : Asc (nums s)) : (upS s).size = s.size := by rw [← nums_length, upS_nums h, List.length_map, nums_length]
/-- The three texts are the same, folded. -/
theorem easy_up {s : ByteArray} (h : Asc (nums s)) (hs : s.size ≤ 150) : Ez 2 (upS s) ∧ vE 2 (upS s) = 0 ∧ vS 2 (upS s) = encS (frL 2 (mapL (foW 2) (nums s))) := by
  have h1 : Asc (nums (upS s)) := by rw [upS_nums h]; exact asc_up h
  have := easy_asc 2 h1 (by rw [upS_size h]; exact hs)
  rw [upS_nums h, show foW 2 = true from rfl, map_up h] at this
  exact this
theorem easy_usp {s t : ByteArray} (h : Asc (nums s)) (hs : s.size ≤ 150) (ht : nums t = encL (spL (nums (upS s)))) : Ez 2 t ∧ vE 2 t = 0 ∧ vS 2 t = encS (frL 2 (mapL (foW 2) (nums s))) := by
  have h1 : Asc (nums (upS s)) := by rw [upS_nums h]; exact asc_up h
  have := easy_sp 2 h1 (by rw [upS_size h]; exact hs) ht
  rw [upS_nums h, show foW 2 = true from rfl, map_up h] at this
  exact this

set_option maxHeartbeats 2000000 in
/-- A text of ASCII: both calls of Same tell yes. -/
theorem same_walk (way : Int) (s : ByteArray) (w : World) (hL : L12 w) (h0 : 1 ≤ way) (h1 : way ≤ 4) (hs : s.size ≤ 150) (ha : Asc (nums s)) :
    Calls Tryz.prog 3 #[.int .i64 way, .string s] w fun e w' => e = .returned (.bool true) ∧ Below w.heap.size w w' := by
  have HSP : Hid (∀ W, Calls Tryz.prog 6 #[.string s] W fun e w' => ∃ t, e = .returned (.string t) ∧ nums t = encL (spL (nums s)) ∧ W = w') :=
    fun W => (spaced_any s W (by omega)).mono fun e w' ⟨t, he, ht, hw⟩ => ⟨t, he, by rw [ht, spB_enc ha], hw⟩
  have HUP : Hid (∀ W, Calls Tryz.prog 7 #[.string s] W fun e w' => e = .returned (.string (upS s)) ∧ Below W.heap.size W w') := fun W => upS_any s W (by omega)
  have hau : Asc (nums (upS s)) := by rw [upS_nums ha]; exact asc_up ha
  have HSU : Hid (∀ W, Calls Tryz.prog 6 #[.string (upS s)] W fun e w' => ∃ t, e = .returned (.string t) ∧ nums t = encL (spL (nums (upS s))) ∧ W = w') :=
    fun W => (spaced_any (upS s) W (by rw [upS_size ha]; omega)).mono fun e w' ⟨t, he, ht, hw⟩ => ⟨t, he, by rw [ht, spB_enc hau], hw⟩
  have HS1 : Hid (∀ v t W, nums t = encL (spL (nums s)) → L12 W → Strs W v [s, t] → Calls Tryz.prog 5 #[.int .i64 way, v] W fun e w' => e = .returned (.tuple #[.bool true, .int .i64 0]) ∧ Below W.heap.size W w') :=
    fun v t W ht hW hv => same_yes way v [s, t] _ W hW h0 h1 (by simp) (fun j hj => by
      have hj' : j = 0 ∨ j = 1 := by simp at hj; omega
      rcases hj' with rfl | rfl
      · exact easy_asc way ha hs
      · exact easy_sp way ha hs ht) hv
  have HS2 : Hid (∀ v t W, nums t = encL (spL (nums (upS s))) → L12 W → Strs W v [s, upS s, t] → Calls Tryz.prog 5 #[.int .i64 2, v] W fun e w' => e = .returned (.tuple #[.bool true, .int .i64 0]) ∧ Below W.heap.size W w') :=
    fun v t W ht hW hv => same_yes 2 v [s, upS s, t] _ W hW (by omega) (by omega) (by simp) (fun j hj => by
      have hj' : j = 0 ∨ j = 1 ∨ j = 2 := by simp at hj; omega
      rcases hj' with rfl | rfl | rfl
      · exact easy_asc 2 ha hs
      · exact easy_up ha hs
      · exact easy_usp ha hs ht) hv
  have HAW := hide awake12
  have HL := hide hL
  have z1 : ¬ (150 : Int) < (s.size : Int) := by omega
  have z1' : decide ((150 : Int) < (s.size : Int)) = false := by simp; omega
  have z2 : decide (way < 1) = false := by simp; omega
  have z3 : decide (way > 4) = false := by simp; omega
  have z3' : decide (4 < way) = false := by simp; omega
  have HAS : Hid (∀ k (h : k < s.size), 32 ≤ (s[k].toNat : Int) ∧ (s[k].toNat : Int) < 128) := fun k h => by
    rw [← nums_at s k h]
    exact ha _ (by have : k < (nums s).length := by rw [nums_length]; exact h
                   simp [List.getD, this])
  clear hL ha hau
  generalize upS s = u at *
  go_enter Tryz.func3, Tryz.ntmps3
  go_wp2
  go_loop [5] (fun i => ∃ k : Nat, k ≤ s.size ∧ i = .int .i64 (k : Int)) (fun i => s.size - (intOf i).toNat)
  case atStart => exact ⟨0, Nat.zero_le _, rfl⟩
  case round =>
    obtain ⟨k, hk, rfl⟩ := hrel
    by_cases hlt : k < s.size
    · have hzl : (k : Int) < (s.size : Int) := by omega
      have hz0 : (0 : Int) ≤ (k : Int) := by omega
      obtain ⟨a1, a2⟩ := unhide HAS k hlt
      have b1 : decide ((s[k].toNat : Int) ≥ 128) = false := by simp; omega
      have b1' : decide (128 ≤ (s[k].toNat : Int)) = false := by simp; omega
      have b2 : decide ((s[k].toNat : Int) < 32) = false := by simp; omega
      clear HSP HUP HSU HS1 HS2 HAW HL HAS a1 a2
      go_wp2
      go_round
      case rel => exact ⟨k + 1, by omega, by go_num⟩
      case measure => simp [intOf]; omega
    · have hzl : ¬ (k : Int) < (s.size : Int) := by omega
      clear HAS
      go_wp2_with (first
        | (go_at_call 4; refine (unhide HAW _ (unhide HL5)).mono ?_; rintro e w6 ⟨rfl, b6⟩; have t6 := below_next12 t5 b6)
        | (go_at_call 5; refine (unhide HS2 _ t2 _ (unhide HT2) (unhide HL4x) (strs_new w4 [s, u, t2] _ _ rfl)).mono ?_; rintro e w5 ⟨rfl, b5⟩; have t5 := below_next12 t4x b5; have HL5 := hide ((unhide HL).keep t5))
        | (go_at_call_of 6 (u); refine (unhide HSU _).mono ?_; rintro e w9 ⟨t2, rfl, ht2, rfl⟩; have HT2 := hide ht2; clear ht2; have t4x := t4.alloc t4.size (.cells #[.string s, .string u, .string t2] 9); have HL4x := hide ((unhide HL).keep t4x))
        | (go_at_call 7; refine (unhide HUP w3).mono ?_; rintro e w4 ⟨rfl, b4⟩; have t4 := below_next12 t3 b4)
        | (go_at_call 7; refine (unhide HUP w2).mono ?_; rintro e w3 ⟨rfl, b3⟩; have t3 := below_next12 t2' b3)
        | (go_at_call 5; refine (unhide HS1 _ t1 _ (unhide HT1) (unhide HL1x) (strs_new w [s, t1] _ _ rfl)).mono ?_; rintro e w2 ⟨rfl, b2⟩; have t2' := below_next12 t1x b2)
        | (go_at_call 6; refine (unhide HSP _).mono ?_; rintro e w8 ⟨t1, rfl, ht1, rfl⟩; have HT1 := hide ht1; clear ht1; have t1x := Below.one w (.cells #[.string s, .string t1] 9); have HL1x := hide ((unhide HL).keep t1x)))
      go_ret
      exact ⟨rfl, t6⟩
set_option maxHeartbeats 2000000 in
/-- A text that has another byte: the probe alone. -/
theorem same_other (way : Int) (s : ByteArray) (w : World) (hL : L12 w) (h0 : 1 ≤ way) (h1 : way ≤ 4) (hs : s.size ≤ 150) (m : Nat) (hm : m < s.size) (hbad : ¬ (32 ≤ (s[m].toNat : Int) ∧ (s[m].toNat : Int) < 128)) :
    Calls Tryz.prog 3 #[.int .i64 way, .string s] w fun e w' => e = .returned (.bool true) ∧ Below w.heap.size w w' := by
  have HAW := hide (awake12 w hL)
  have z1 : ¬ (150 : Int) < (s.size : Int) := by omega
  have z1' : decide ((150 : Int) < (s.size : Int)) = false := by simp; omega
  have z2 : decide (way < 1) = false := by simp; omega
  have z3 : decide (way > 4) = false := by simp; omega
  have z3' : decide (4 < way) = false := by simp; omega
  have HB := hide hbad
  clear hL hbad
  go_enter Tryz.func3, Tryz.ntmps3
  go_wp2
  go_loop [5] (fun i => ∃ k : Nat, k ≤ m ∧ i = .int .i64 (k : Int)) (fun i => s.size - (intOf i).toNat)
  case atStart => exact ⟨0, Nat.zero_le _, rfl⟩
  case round =>
    obtain ⟨k, hk, rfl⟩ := hrel
    have hlt : k < s.size := by omega
    have hzl : (k : Int) < (s.size : Int) := by omega
    have hz0 : (0 : Int) ≤ (k : Int) := by omega
    by_cases c1 : (128 : Int) ≤ (s[k].toNat : Int)
    · have b1 : decide ((s[k].toNat : Int) ≥ 128) = true := by simp; omega
      have b1' : decide (128 ≤ (s[k].toNat : Int)) = true := by simp; omega
      go_wp2_with (go_at_call 4; refine (unhide HAW).mono ?_; rintro e w6 ⟨rfl, b6⟩)
      go_ret
      exact ⟨rfl, b6⟩
    · have b1 : decide ((s[k].toNat : Int) ≥ 128) = false := by simp; omega
      have b1' : decide (128 ≤ (s[k].toNat : Int)) = false := by simp; omega
      by_cases c2 : (s[k].toNat : Int) < 32
      · have b2 : decide ((s[k].toNat : Int) < 32) = true := by simp; omega
        go_wp2_with (go_at_call 4; refine (unhide HAW).mono ?_; rintro e w6 ⟨rfl, b6⟩)
        go_ret
        exact ⟨rfl, b6⟩
      · have b2 : decide ((s[k].toNat : Int) < 32) = false := by simp; omega
        have hkm : k < m := by
          rcases Nat.lt_or_ge k m with h | h
          · exact h
          · obtain rfl : k = m := by omega
            exact absurd ⟨by omega, by omega⟩ (unhide HB)
        clear HAW HB
        go_wp2
        go_round
        case rel => exact ⟨k + 1, by omega, by go_num⟩
        case measure => simp [intOf]; omega
set_option maxHeartbeats 2000000 in
theorem same_out (way : Int) (s : ByteArray) (w : World) (hL : L12 w) (h : 150 < s.size ∨ way < 1 ∨ 4 < way) :
    Calls Tryz.prog 3 #[.int .i64 way, .string s] w fun e w' => e = .returned (.bool true) ∧ Below w.heap.size w w' := by
  have HAW := hide (awake12 w hL)
  clear hL
  by_cases h1 : 150 < s.size
  · have z1 : (150 : Int) < (s.size : Int) := by omega
    have z1' : decide ((150 : Int) < (s.size : Int)) = true := by simp; omega
    go_enter Tryz.func3, Tryz.ntmps3
    go_wp2_with (go_at_call 4; refine (unhide HAW).mono ?_; rintro e w6 ⟨rfl, b6⟩)
    go_ret
    exact ⟨rfl, b6⟩
  · have z1 : ¬ (150 : Int) < (s.size : Int) := by omega
    have z1' : decide ((150 : Int) < (s.size : Int)) = false := by simp; omega
    by_cases h2 : way < 1
    · have z2 : decide (way < 1) = true := by simp; omega
      go_enter Tryz.func3, Tryz.ntmps3
      go_wp2_with (go_at_call 4; refine (unhide HAW).mono ?_; rintro e w6 ⟨rfl, b6⟩)
      go_ret
      exact ⟨rfl, b6⟩
    · have z2 : decide (way < 1) = false := by simp; omega
      have h3 : 4 < way := by omega
      have z3 : decide (way > 4) = true := by simp; omega
      have z3' : decide (4 < way) = true := by simp; omega
      go_enter Tryz.func3, Tryz.ntmps3
      go_wp2_with (go_at_call 4; refine (unhide HAW).mono ?_; rintro e w6 ⟨rfl, b6⟩)
      go_ret
      exact ⟨rfl, b6⟩
theorem same12_law (way : Int) (s : ByteArray) (w : World) (hL : L12 w) :
    Calls Tryz.prog 3 #[.int .i64 way, .string s] w fun e w' => e = .returned (.bool true) ∧ Below w.heap.size w w' := by
  by_cases h : 150 < s.size ∨ way < 1 ∨ 4 < way
  · exact same_out way s w hL h
  · by_cases ha : Asc (nums s)
    · exact same_walk way s w hL (by omega) (by omega) (by omega) ha
    · have : ∃ m, ∃ hm : m < s.size, ¬ (32 ≤ (s[m].toNat : Int) ∧ (s[m].toNat : Int) < 128) := by
        apply Classical.byContradiction
        intro hn
        refine ha fun x hx => ?_
        obtain ⟨j, hj, hjx⟩ := List.getElem_of_mem hx
        have hj' : j < s.size := by rwa [nums_length] at hj
        have e : x = (s[j].toNat : Int) := by
          rw [← nums_at s j hj', ← hjx]
          simp [List.getD, hj]
        apply Classical.byContradiction
        intro hx2
        exact hn ⟨j, hj', by rw [← e]; exact hx2⟩
      obtain ⟨m, hm, hb⟩ := this
      exact same_other way s w hL (by omega) (by omega) (by omega) m hm hb
end Go.Proofs.YticgeabmhmojfaaGreatDoor
