/- What Show tells is bytes; P24.5, P24.6 of texts as they lie. -/
import Derived.Test.YthbldkkjjjmegaaGreatDoorM09
namespace Go.Proofs.YthbldkkjjjmegaaGreatDoor
set_option maxRecDepth 100000
open Go.RowKit

def byt (l : List Int) : Prop := ∀ x ∈ l, 0 ≤ x ∧ x < 256
theorem byt_app {a b : List Int} (ha : byt a) (hb : byt b) : byt (a ++ b) := fun x hx => (List.mem_append.1 hx).elim (ha x) (hb x)
theorem byt_cons {c : Int} {b : List Int} (hc : 0 ≤ c ∧ c < 256) (hb : byt b) : byt (c :: b) := fun x hx => by
  rcases List.mem_cons.1 hx with rfl | hx
  · exact hc
  · exact hb x hx
theorem byt_nil : byt [] := fun x hx => by cases hx
theorem byt_nums (s : ByteArray) : byt (nums s) := nums_bound s
theorem byt_val (s : ByteArray) : byt (vTxt (nums s)) := fun x hx => by have := nums_in s x hx; omega
theorem byt_any : ∀ a : List ByteArray, byt (anyT a)
  | [] => byt_nil
  | x :: t => by rw [anyT]; exact byt_app (byt_val x) (byt_cons (by decide) (byt_any t))
theorem byt_ext (r : ByteArray) (d : Bool) : byt (extT r d) := by
  unfold extT
  refine byt_app ?_ (byt_app ?_ ?_)
  · cases d
    · exact byt_nil
    · exact byt_cons (by decide) (byt_cons (by decide) (byt_cons (by decide) byt_nil))
  · split
    · exact byt_nil
    · exact byt_cons (by decide) (byt_nums r)
  · exact byt_cons (by decide) (byt_cons (by decide) byt_nil)
theorem byt_head (k : Int) (n i : ByteArray) (a : List ByteArray) (f r : ByteArray) (d : Bool) : byt (headF k n i a f r d) := by
  unfold headF
  split
  · exact byt_cons (by decide) byt_nil
  · split
    · exact byt_cons (by decide) byt_nil
    · split
      · exact byt_cons (by decide) byt_nil
      · refine byt_app (byt_nums n) ?_
        split
        · exact byt_cons (by decide) byt_nil
        · split
          · exact byt_cons (by decide) (byt_cons (by decide) byt_nil)
          · split
            · exact byt_cons (by decide) (byt_cons (by decide) byt_nil)
            · split
              · exact byt_cons (by decide) (byt_cons (by decide) byt_nil)
              · split
                · exact byt_cons (by decide) (byt_cons (by decide) byt_nil)
                · split
                  · unfold starT
                    exact byt_cons (by decide) (byt_app (byt_val i) (byt_cons (by decide) (byt_app (byt_any a) (byt_val f))))
                  · exact byt_ext r d
theorem byt_text : ∀ e : Fl, byt (textF e)
  | .mk k n v i a f _ _ r d kids => by
    simp only [textF]
    exact byt_cons (by decide) (byt_app (byt_head k n i a f r d) (byt_app (L kids) (byt_app (byt_val v) (byt_cons (by decide) byt_nil))))
  where
  L : ∀ l : List Fl, byt (textF.L l)
  | [] => by simp only [textF.L]; exact byt_nil
  | e :: t => by simp only [textF.L]; exact byt_app (byt_text e) (L t)
theorem chk_or (e : Fl) : chkF e = 0 ∨ chkF e = 240 := by unfold chkF; split <;> simp
theorem sho_no {e : Fl} (h : chkF e = 240) : shoF e = ⟨#[]⟩ := by unfold shoF; rw [if_neg (by omega)]
theorem nums_sho {e : Fl} (h : chkF e = 0) : nums (shoF e) = textF e := by unfold shoF; rw [if_pos h, nums_strOfNums _ (byt_text e)]
/-- P24.5. -/
theorem sho_back {e : Fl} (h : chkF e = 0) (hs : (shoF e).size ≤ 4000) : parE24 (shoF e) = 0 ∧ parF (shoF e) = e := by
  have hn : ¬ 4000 < (shoF e).size := by omega
  unfold parE24 parF
  rw [if_neg hn, if_neg hn, nums_sho h, par_text h]
  exact ⟨rfl, rfl⟩
theorem sho_big {e : Fl} (hs : ¬ (shoF e).size ≤ 4000) : parE24 (shoF e) = 3 := by unfold parE24; rw [if_pos (by omega)]
/-- P24.6. -/
theorem par_zero {s : ByteArray} (h : parE24 s = 0) : chkF (parF s) = 0 := by
  unfold parE24 at h
  unfold parF
  split at h
  · cases h
  · next hs =>
    rw [if_neg hs]
    cases hp : parO (nums s) with
    | none => rw [hp] at h; cases h
    | some e => exact par_good hp
theorem par_none {s : ByteArray} (h : ¬ parE24 s = 0) : parF s = fl0 := by
  unfold parE24 at h
  unfold parF
  split
  · rfl
  · next hs =>
    rw [if_neg hs] at h
    cases hp : parO (nums s) with
    | none => rfl
    | some e => rw [hp] at h; exact absurd rfl h
theorem flv_zero (w : World) : FlV w fl0 (vFl 0 ⟨#[]⟩ ⟨#[]⟩ ⟨#[]⟩ none 0 0 ⟨#[]⟩ false false ⟨#[]⟩ false none 0 0) := by
  unfold fl0
  simp only [FlV]
  exact ⟨none, 0, none, 0, rfl, TxC.nil _ _, by decide, .inl rfl⟩
end Go.Proofs.YthbldkkjjjmegaaGreatDoor
/- The landed reading of layer 24, plainly: a value, values with stars, an item. -/
namespace Go.Proofs.YthbldkkjjjmegaaGreatDoor
set_option maxRecDepth 100000
open Go.RowKit

/-- The byte of a value that a text begins with, and how many of the text's are its own (0: there is none). -/
def rdV (l : List Int) : Int × Int :=
  match l with
  | [] => (0, 0)
  | c :: t =>
    if c = 0 ∨ (40 ≤ c ∧ c ≤ 42) then (0, 0)
    else if c = 92 then
      match t with
      | d :: e :: _ => if unh d < 16 ∧ unh e < 16 then (16 * unh d + unh e, 3) else (0, 0)
      | _ => (0, 0)
    else (c, 1)
/-- The value that a text begins with, up to a bracket or a star, and the rest from there on. -/
def valV : List Int → Option (List Int × List Int)
  | [] => none
  | c :: t =>
    if c = 41 ∨ c = 42 then some ([], c :: t)
    else if c = 0 ∨ c = 40 then none
    else if c = 92 then
      match t with
      | d :: e :: u => if unh d < 16 ∧ unh e < 16 then (valV u).map fun x => ((16 * unh d + unh e) :: x.1, x.2) else none
      | _ => none
    else (valV t).map fun x => (c :: x.1, x.2)
theorem valV_nil : valV [] = none := by rw [valV.eq_def]
theorem valV_end {c : Int} (t : List Int) (h : c = 41 ∨ c = 42) : valV (c :: t) = some ([], c :: t) := by
  rw [valV.eq_def]; dsimp only; rw [if_pos h]
theorem valV_no {c : Int} (t : List Int) (h : c = 0 ∨ c = 40) : valV (c :: t) = none := by
  rw [valV.eq_def]; dsimp only; rw [if_neg (by omega), if_pos h]
theorem valV_hex (d e : Int) (u : List Int) : valV (92 :: d :: e :: u) = if unh d < 16 ∧ unh e < 16 then (valV u).map fun x => ((16 * unh d + unh e) :: x.1, x.2) else none := by
  rw [valV.eq_def]; dsimp only; rw [if_neg (by decide), if_neg (by decide), if_pos rfl]
theorem valV_h0 : valV [92] = none := by
  rw [valV.eq_def]; dsimp only; rw [if_neg (by decide), if_neg (by decide), if_pos rfl]
theorem valV_h1 (d : Int) : valV [92, d] = none := by
  rw [valV.eq_def]; dsimp only; rw [if_neg (by decide), if_neg (by decide), if_pos rfl]
theorem valV_bare {c : Int} (t : List Int) (h : ¬ (c = 0 ∨ (40 ≤ c ∧ c ≤ 42))) (h2 : ¬ c = 92) : valV (c :: t) = (valV t).map fun x => (c :: x.1, x.2) := by
  rw [valV.eq_def]; dsimp only; rw [if_neg (by omega), if_neg (by omega), if_neg h2]
/-- One byte on. -/
theorem val_step (l : List Int) (hn : ¬ (l.getD 0 0 = 41 ∨ l.getD 0 0 = 42)) (hl : l ≠ []) : ((rdV l).2 = 0 ∧ valV l = none) ∨ (((rdV l).2 = 1 ∨ (rdV l).2 = 3) ∧ (rdV l).2.toNat ≤ l.length ∧ valV l = (valV (l.drop (rdV l).2.toNat)).map fun x => ((rdV l).1 :: x.1, x.2)) := by
  cases l with
  | nil => exact absurd rfl hl
  | cons c t =>
    simp only [List.getD_cons_zero] at hn
    by_cases h0 : c = 0 ∨ (40 ≤ c ∧ c ≤ 42)
    · left
      refine ⟨by unfold rdV; dsimp only; rw [if_pos h0], valV_no t (by omega)⟩
    · by_cases h2 : c = 92
      · subst h2
        match t with
        | [] => exact .inl ⟨by unfold rdV; dsimp only; rw [if_neg h0, if_pos rfl], valV_h0⟩
        | [d] => exact .inl ⟨by unfold rdV; dsimp only; rw [if_neg h0, if_pos rfl], valV_h1 d⟩
        | d :: e :: u =>
          by_cases hu : unh d < 16 ∧ unh e < 16
          · right
            have hr : rdV (92 :: d :: e :: u) = (16 * unh d + unh e, 3) := by unfold rdV; dsimp only; rw [if_neg h0, if_pos rfl, if_pos hu]
            rw [hr, valV_hex, if_pos hu]
            exact ⟨.inr rfl, by simp, rfl⟩
          · left
            have hr : rdV (92 :: d :: e :: u) = (0, 0) := by unfold rdV; dsimp only; rw [if_neg h0, if_pos rfl, if_neg hu]
            rw [hr, valV_hex, if_neg hu]
            exact ⟨rfl, rfl⟩
      · right
        have hr : rdV (c :: t) = (c, 1) := by unfold rdV; dsimp only; rw [if_neg h0, if_neg h2]
        rw [hr, valV_bare t h0 h2]
        exact ⟨.inl rfl, by simp, rfl⟩
theorem unh_nn24 (d : Int) : 0 ≤ unh d := by unfold unh; split; omega; split; omega; split; omega; omega
theorem unh_no {d : Int} (h : unh d < 16) : ¬ (40 ≤ d ∧ d ≤ 42) := by
  unfold unh at h
  intro hd
  rw [if_neg (by omega), if_neg (by omega), if_neg (by omega)] at h
  omega
theorem plain_ok : ∀ (l v : List Int), plainV l = some v → ∀ y ∈ l, ¬ (40 ≤ y ∧ y ≤ 42)
  | [], v, _ => fun y hy => by cases hy
  | c :: t, v, h => by
    by_cases h0 : c = 0 ∨ (40 ≤ c ∧ c ≤ 42)
    · rw [plain_no t h0] at h; cases h
    · by_cases h2 : c = 92
      · subst h2
        match t, h with
        | [], h => rw [plain_h0] at h; cases h
        | [d], h => rw [plain_h1] at h; cases h
        | d :: e :: u, h =>
          rw [plain_hex] at h
          by_cases hu : unh d < 16 ∧ unh e < 16
          · rw [if_pos hu] at h
            cases hp : plainV u with
            | none => rw [hp] at h; cases h
            | some w =>
              have ih := plain_ok u w hp
              intro y hy
              rcases List.mem_cons.1 hy with rfl | hy
              · omega
              rcases List.mem_cons.1 hy with rfl | hy
              · exact unh_no hu.1
              rcases List.mem_cons.1 hy with rfl | hy
              · exact unh_no hu.2
              · exact ih y hy
          · rw [if_neg hu] at h; cases h
      · rw [plain_bare t h0 h2] at h
        cases hp : plainV t with
        | none => rw [hp] at h; cases h
        | some w =>
          have ih := plain_ok t w hp
          intro y hy
          rcases List.mem_cons.1 hy with rfl | hy
          · omega
          · exact ih y hy
theorem plain_emp : ∀ {l : List Int}, plainV l = some [] → l = []
  | [], _ => rfl
  | c :: t, h => by
    by_cases h0 : c = 0 ∨ (40 ≤ c ∧ c ≤ 42)
    · rw [plain_no t h0] at h; cases h
    · by_cases h2 : c = 92
      · subst h2
        match t, h with
        | [], h => rw [plain_h0] at h; cases h
        | [d], h => rw [plain_h1] at h; cases h
        | d :: e :: u, h =>
          rw [plain_hex] at h
          by_cases hu : unh d < 16 ∧ unh e < 16
          · rw [if_pos hu] at h
            cases hp : plainV u with
            | none => rw [hp] at h; cases h
            | some w => rw [hp] at h; cases h
          · rw [if_neg hu] at h; cases h
      · rw [plain_bare t h0 h2] at h
        cases hp : plainV t with
        | none => rw [hp] at h; cases h
        | some w => rw [hp] at h; cases h
theorem val_of (r : List Int) {c : Int} (hc : c = 41 ∨ c = 42) : ∀ (x v : List Int), plainV x = some v → valV (x ++ c :: r) = some (v, c :: r)
  | [], v, h => by rw [plain_nil] at h; cases h; exact valV_end r hc
  | a :: t, v, h => by
    by_cases h0 : a = 0 ∨ (40 ≤ a ∧ a ≤ 42)
    · rw [plain_no t h0] at h; cases h
    · by_cases h2 : a = 92
      · subst h2
        match t, h with
        | [], h => rw [plain_h0] at h; cases h
        | [d], h => rw [plain_h1] at h; cases h
        | d :: e :: u, h =>
          rw [plain_hex] at h
          by_cases hu : unh d < 16 ∧ unh e < 16
          · rw [if_pos hu] at h
            cases hp : plainV u with
            | none => rw [hp] at h; cases h
            | some w =>
              rw [hp] at h
              cases h
              have ih := val_of r hc u w hp
              simp only [List.cons_append]
              rw [valV_hex, if_pos hu, ih]
              rfl
          · rw [if_neg hu] at h; cases h
      · rw [plain_bare t h0 h2] at h
        cases hp : plainV t with
        | none => rw [hp] at h; cases h
        | some w =>
          rw [hp] at h
          cases h
          have ih := val_of r hc t w hp
          rw [List.cons_append, valV_bare _ h0 h2, ih]
          rfl
theorem val_some : ∀ (s v r : List Int), valV s = some (v, r) → ∃ x c r', s = x ++ c :: r' ∧ r = c :: r' ∧ (c = 41 ∨ c = 42) ∧ plainV x = some v
  | [], v, r, h => by rw [valV_nil] at h; cases h
  | c :: t, v, r, h => by
    by_cases h1 : c = 41 ∨ c = 42
    · rw [valV_end t h1] at h
      cases h
      exact ⟨[], c, t, rfl, rfl, h1, plain_nil⟩
    · by_cases h0 : c = 0 ∨ (40 ≤ c ∧ c ≤ 42)
      · rw [valV_no t (by omega)] at h; cases h
      · by_cases h2 : c = 92
        · subst h2
          match t, h with
          | [], h => rw [valV_h0] at h; cases h
          | [d], h => rw [valV_h1] at h; cases h
          | d :: e :: u, h =>
            rw [valV_hex] at h
            by_cases hu : unh d < 16 ∧ unh e < 16
            · rw [if_pos hu] at h
              cases hp : valV u with
              | none => rw [hp] at h; cases h
              | some w =>
                rw [hp] at h
                cases h
                obtain ⟨x, c, r', h3, h4, h5, h6⟩ := val_some u w.1 w.2 hp
                refine ⟨92 :: d :: e :: x, c, r', by rw [h3]; rfl, h4, h5, ?_⟩
                rw [plain_hex, if_pos hu, h6]
                rfl
            · rw [if_neg hu] at h; cases h
        · rw [valV_bare t h0 h2] at h
          cases hp : valV t with
          | none => rw [hp] at h; cases h
          | some w =>
            rw [hp] at h
            cases h
            obtain ⟨x, c', r', h3, h4, h5, h6⟩ := val_some t w.1 w.2 hp
            refine ⟨c :: x, c', r', by rw [h3]; rfl, h4, h5, ?_⟩
            rw [plain_bare x h0 h2, h6]
            rfl
/-! Values with stars. -/
def valsV : Nat → List Int → Option (List (List Int) × List Int)
  | 0, _ => none
  | n + 1, s =>
    match valV s with
    | none => none
    | some (v, r) => if r.getD 0 0 = 41 then some ([v], r.drop 1) else (valsV n (r.drop 1)).map fun x => (v :: x.1, x.2)
def plAll : List (List Int) → Option (List (List Int))
  | [] => some []
  | x :: t =>
    match plainV x with
    | none => none
    | some v => (plAll t).map fun y => v :: y
theorem cut_no (b : Int) : ∀ (l : List Int), cutL b l = none → ∀ x ∈ l, x ≠ b
  | [], _ => by simp
  | c :: t, h => by
    rw [cutL] at h
    by_cases hc : c = b
    · rw [if_pos hc] at h; cases h
    · rw [if_neg hc] at h
      cases hk : cutL b t with
      | some p => rw [hk] at h; cases h
      | none =>
        intro x hx
        rcases List.mem_cons.1 hx with rfl | hx
        · exact hc
        · exact cut_no b t hk x hx
theorem pl_one {x v : List Int} (h : plainV x = some v) : plAll [x] = some [v] := by simp [plAll, h]
theorem pl_cons {x v : List Int} {t vs : List (List Int)} (h : plainV x = some v) (ht : plAll t = some vs) : plAll (x :: t) = some (v :: vs) := by simp [plAll, h, ht]
theorem pl_open {x : List Int} {t vs : List (List Int)} (h : plAll (x :: t) = some vs) : ∃ v ws, vs = v :: ws ∧ plainV x = some v ∧ plAll t = some ws := by
  rw [plAll] at h
  cases hx : plainV x with
  | none => rw [hx] at h; cases h
  | some v =>
    rw [hx] at h
    dsimp only at h
    cases ht : plAll t with
    | none => rw [ht] at h; cases h
    | some ws => rw [ht] at h; cases h; exact ⟨v, ws, rfl, rfl, rfl⟩
theorem vals_some : ∀ (n : Nat) (s : List Int) (vs : List (List Int)) (r : List Int), valsV n s = some (vs, r) → ∃ y, s = y ++ 41 :: r ∧ (∀ z ∈ y, z ≠ 41) ∧ plAll (splitL 42 y) = some vs
  | 0, s, vs, r, h => by rw [valsV] at h; cases h
  | n + 1, s, vs, r, h => by
    rw [valsV] at h
    cases hv : valV s with
    | none => rw [hv] at h; cases h
    | some p =>
      obtain ⟨v, q⟩ := p
      rw [hv] at h
      dsimp only at h
      obtain ⟨x, c, r', h1, h2, h3, h4⟩ := val_some s v q hv
      have hx := plain_ok x v h4
      subst h2
      rw [List.getD_cons_zero, List.drop_one, List.tail_cons] at h
      by_cases hc : c = 41
      · rw [if_pos hc] at h
        cases h
        subst hc
        refine ⟨x, h1, fun z hz => by have := hx z hz; omega, ?_⟩
        rw [split_none 42 x fun z hz => by have := hx z hz; omega]
        exact pl_one h4
      · rw [if_neg hc] at h
        obtain rfl : c = 42 := by omega
        cases hw : valsV n r' with
        | none => rw [hw] at h; cases h
        | some p2 =>
          rw [hw] at h
          cases h
          obtain ⟨y, g1, g2, g3⟩ := vals_some n r' p2.1 p2.2 hw
          refine ⟨x ++ 42 :: y, by rw [h1, g1]; simp, fun z hz => ?_, ?_⟩
          · rcases List.mem_append.1 hz with hz | hz
            · have := hx z hz; omega
            · rcases List.mem_cons.1 hz with rfl | hz
              · decide
              · exact g2 z hz
          · rw [split_at 42 x y fun z hz => by have := hx z hz; omega]
            exact pl_cons h4 g3
theorem vals_of : ∀ (n : Nat) (y r : List Int) (vs : List (List Int)), (∀ z ∈ y, z ≠ 41) → plAll (splitL 42 y) = some vs → y.length < n → valsV n (y ++ 41 :: r) = some (vs, r)
  | 0, y, r, vs, _, _, hn => by omega
  | n + 1, y, r, vs, h41, hp, hn => by
    rw [valsV]
    cases hc : cutL 42 y with
    | none =>
      rw [split_none 42 y (cut_no 42 y hc)] at hp
      obtain ⟨v, ws, rfl, h1, h2⟩ := pl_open hp
      rw [plAll] at h2
      cases h2
      rw [val_of r (.inl rfl) y v h1]
      dsimp only
      rw [List.getD_cons_zero, if_pos rfl, List.drop_one, List.tail_cons]
    | some p =>
      obtain ⟨x, z⟩ := p
      obtain ⟨h1, h2⟩ := cut_some 42 y x z hc
      subst h1
      rw [split_at 42 x z h2] at hp
      obtain ⟨v, ws, rfl, h3, h4⟩ := pl_open hp
      have hz : ∀ a ∈ z, a ≠ 41 := fun a ha => h41 a (by simp [ha])
      have hl : z.length < n := by rw [List.length_append, List.length_cons] at hn; omega
      have ih := vals_of n z r ws hz h4 hl
      rw [List.append_assoc, List.cons_append, val_of (z ++ 41 :: r) (.inr rfl) x v h3]
      dsimp only
      rw [List.getD_cons_zero, if_neg (by decide), List.drop_one, List.tail_cons, ih]
      rfl
/-! A filter without kids. -/
def kdL (h : List Int) : Int := if h.getLast? = some 62 then 5 else if h.getLast? = some 60 then 6 else if h.getLast? = some 126 then 8 else if h.getLast? = some 58 then 9 else 3
def hdL (h : List Int) : List Int := if kdL h = 3 then h.map smlC else h.dropLast.map smlC
theorem item_kd (s : List Int) : itemP s = match cutL 61 s with
    | none => none
    | some (h, t) =>
      if kdL h = 9 then
        match extP (splitL 58 (hdL h)) with
        | none => none
        | some (n, d, r) => (plainV t).map fun v => itmF 9 n v r d
      else if kdL h = 3 ∧ 1 < (splitL 42 t).length then starP (hdL h) (splitL 42 t)
      else (plainV t).map fun v => itmF (kdL h) (hdL h) v [] false := by
  unfold itemP
  cases cutL 61 s with
  | none => rfl
  | some p =>
    obtain ⟨h, t⟩ := p
    dsimp only
    unfold hdL kdL
    by_cases h1 : h.getLast? = some 62
    · simp [h1]
    · by_cases h2 : h.getLast? = some 60
      · simp [h2]
      · by_cases h3 : h.getLast? = some 126
        · simp [h3]
        · by_cases h4 : h.getLast? = some 58
          · simp [h4]
            rfl
          · simp [h1, h2, h3, h4]
def midS (ws : List (List Int)) : List ByteArray := ws.dropLast.map strOfNums
def lastS (ws : List (List Int)) : List Int := ws.getLast?.getD []
/-- What stars make of values. -/
def starL (n : List Int) (vs : List (List Int)) : Option Fl :=
  if vs = [[], []] then some (.mk 7 (strOfNums n) ⟨#[]⟩ ⟨#[]⟩ [] ⟨#[]⟩ false false ⟨#[]⟩ false []) else
  match vs with
  | [] => none
  | v :: ws => some (subF n v (midS ws) (lastS ws))
/-- What a head, a sign and values make. -/
def itmL (h : List Int) (k : Int) (vs : List (List Int)) : Option Fl :=
  if k = 9 then
    match extP (splitL 58 h) with
    | none => none
    | some (n, d, r) => if vs.length = 1 then some (itmF 9 n (vs.getD 0 []) r d) else none
  else if vs.length = 1 then some (itmF k h (vs.getD 0 []) [] false)
  else if k = 3 then starL h vs else none
def rItm (n : Nat) (s : List Int) : Option (Fl × List Int) :=
  match cutL 61 s with
  | none => none
  | some (h, t) =>
    match valsV n t with
    | none => none
    | some (vs, r) => (itmL (hdL h) (kdL h) vs).map fun f => (f, r)
theorem mid_pl : ∀ (t : List (List Int)) (a : List ByteArray) (f : List Int), midP t = some (a, f) → ∃ ws, plAll t = some ws ∧ ws ≠ [] ∧ a = midS ws ∧ f = lastS ws
  | [], a, f, h => by rw [midP.eq_def] at h; cases h
  | [x], a, f, h => by
    rw [midP.eq_def] at h
    dsimp only at h
    cases hp : plainV x with
    | none => rw [hp] at h; cases h
    | some v => rw [hp] at h; cases h; exact ⟨[_], pl_one hp, by simp, rfl, rfl⟩
  | x :: y :: t, a, f, h => by
    rw [midP.eq_def] at h
    dsimp only at h
    cases hp : plainV x with
    | none => rw [hp] at h; cases h
    | some v =>
      rw [hp] at h
      dsimp only at h
      by_cases hv : v = []
      · rw [if_pos hv] at h; cases h
      · rw [if_neg hv] at h
        cases hm : midP (y :: t) with
        | none => rw [hm] at h; cases h
        | some p =>
          rw [hm] at h
          cases h
          obtain ⟨ws, h1, h2, h3, h4⟩ := mid_pl (y :: t) p.1 p.2 hm
          obtain ⟨w0, wt, rfl⟩ := List.exists_cons_of_ne_nil h2
          refine ⟨v :: w0 :: wt, pl_cons hp h1, by simp, ?_, ?_⟩
          · rw [h3]; unfold midS; simp
          · rw [h4]; unfold lastS; simp
theorem mid_lp : ∀ (t ws : List (List Int)), plAll t = some ws → ws ≠ [] → (∀ w ∈ ws.dropLast, w ≠ []) → midP t = some (midS ws, lastS ws)
  | [], ws, h, hne, _ => by rw [plAll] at h; cases h; exact absurd rfl hne
  | [x], ws, h, hne, _ => by
    obtain ⟨v, us, rfl, h1, h2⟩ := pl_open h
    rw [plAll] at h2
    cases h2
    rw [midP.eq_def]
    dsimp only
    rw [h1]
    rfl
  | x :: y :: t, ws, h, hne, hd => by
    obtain ⟨v, us, rfl, h1, h2⟩ := pl_open h
    obtain ⟨u, us', rfl, h3, h4⟩ := pl_open h2
    have hv : ¬ v = [] := hd v (by simp)
    have ih := mid_lp (y :: t) (u :: us') h2 (by simp) (fun w hw => hd w (by rw [List.dropLast_cons_cons]; exact List.mem_cons_of_mem _ hw))
    rw [midP.eq_def]
    dsimp only
    rw [h1]
    dsimp only
    rw [if_neg hv, ih]
    unfold midS lastS
    simp
theorem star_pl {nm : List Int} {l : List (List Int)} {g : Fl} (h : starP nm l = some g) : ∃ vs, plAll l = some vs ∧ starL nm vs = some g := by
  unfold starP at h
  by_cases h0 : l = [[], []]
  · rw [if_pos h0] at h
    cases h
    refine ⟨[[], []], by rw [h0]; exact pl_cons plain_nil (pl_one plain_nil), ?_⟩
    unfold starL
    rw [if_pos rfl]
  · rw [if_neg h0] at h
    cases l with
    | nil => cases h
    | cons x t =>
      dsimp only at h
      cases hp : plainV x with
      | none => rw [hp] at h; cases h
      | some v =>
        rw [hp] at h
        dsimp only at h
        cases hm : midP t with
        | none => rw [hm] at h; cases h
        | some p =>
          rw [hm] at h
          cases h
          obtain ⟨ws, h1, h2, h3, h4⟩ := mid_pl t p.1 p.2 hm
          refine ⟨v :: ws, pl_cons hp h1, ?_⟩
          have hne : ¬ v :: ws = [[], []] := fun e => by
            injection e with e1 e2
            subst e1 e2
            obtain rfl := plain_emp hp
            match t, h1, h0 with
            | [], h1, _ => rw [plAll] at h1; cases h1
            | y :: u, h1, h0 =>
              obtain ⟨a, b, e, e3, e4⟩ := pl_open h1
              injection e with e5 e6
              subst e5 e6
              obtain rfl := plain_emp e3
              cases u with
              | nil => exact h0 rfl
              | cons z u =>
                obtain ⟨_, _, e, _, _⟩ := pl_open e4
                cases e
          unfold starL
          rw [if_neg hne]
          dsimp only
          rw [h3, h4]
theorem pl_len : ∀ (l vs : List (List Int)), plAll l = some vs → vs.length = l.length
  | [], vs, h => by rw [plAll] at h; cases h; rfl
  | x :: t, vs, h => by
    obtain ⟨v, ws, rfl, _, h2⟩ := pl_open h
    rw [List.length_cons, List.length_cons, pl_len t ws h2]
theorem split_two {b : Int} {x y : List Int} : ∀ {l : List Int} {p : List (List Int)}, splitL b l = x :: y :: p → ∃ z, l = x ++ b :: z ∧ (∀ w ∈ x, w ≠ b) ∧ splitL b z = y :: p := fun {l p} h => by
  cases hc : cutL b l with
  | none =>
    rw [split_none b l (cut_no b l hc)] at h
    cases h
  | some q =>
    obtain ⟨u, z⟩ := q
    obtain ⟨h1, h2⟩ := cut_some b l u z hc
    subst h1
    rw [split_at b u z h2] at h
    injection h with h3 h4
    subst h3
    exact ⟨z, rfl, h2, h4⟩
theorem split_one {b : Int} {x : List Int} {l : List Int} (h : splitL b l = [x]) : l = x ∧ ∀ w ∈ l, w ≠ b := by
  cases hc : cutL b l with
  | none =>
    have := cut_no b l hc
    rw [split_none b l this] at h
    injection h with h3 h4
    exact ⟨h3, this⟩
  | some q =>
    obtain ⟨u, z⟩ := q
    obtain ⟨h1, h2⟩ := cut_some b l u z hc
    subst h1
    rw [split_at b u z h2] at h
    injection h with h3 h4
    exact absurd h4 (split_ne b z)
/-- What the document reads, the landed reads. -/
theorem itm_land {s x r : List Int} {g : Fl} (hc : cutL 41 s = some (x, r)) (hi : itemP x = some g) (n : Nat) (hn : s.length ≤ n) : rItm n s = some (g, r) := by
  obtain ⟨hs, hx⟩ := cut_some 41 s x r hc
  rw [item_kd] at hi
  cases h6 : cutL 61 x with
  | none => rw [h6] at hi; cases hi
  | some p =>
    obtain ⟨h, t⟩ := p
    rw [h6] at hi
    dsimp only at hi
    obtain ⟨hxe, hh⟩ := cut_some 61 x h t h6
    have hcs : cutL 61 s = some (h, t ++ 41 :: r) := by
      rw [hs, hxe, List.append_assoc, List.cons_append]
      exact cut_at 61 h _ hh
    have ht : ∀ z ∈ t, z ≠ 41 := fun z hz => hx z (by rw [hxe]; simp [hz])
    have hl : t.length < n := by
      have := congrArg List.length hs
      rw [hxe] at this
      simp only [List.length_append, List.length_cons] at this
      omega
    have one : ∀ v, plainV t = some v → valsV n (t ++ 41 :: r) = some ([v], r) := fun v hv => vals_of n t r [v] ht (by
      rw [split_none 42 t fun z hz => by have := plain_ok t v hv z hz; omega]
      exact pl_one hv) hl
    unfold rItm
    rw [hcs]
    dsimp only
    by_cases k9 : kdL h = 9
    · rw [if_pos k9] at hi
      cases he : extP (splitL 58 (hdL h)) with
      | none => rw [he] at hi; cases hi
      | some q =>
        obtain ⟨a, d, b⟩ := q
        rw [he] at hi
        dsimp only at hi
        cases hp : plainV t with
        | none => rw [hp] at hi; cases hi
        | some v =>
          rw [hp] at hi
          cases hi
          rw [one v hp]
          dsimp only
          unfold itmL
          rw [if_pos k9, he]
          rfl
    · rw [if_neg k9] at hi
      by_cases k3 : kdL h = 3 ∧ 1 < (splitL 42 t).length
      · rw [if_pos k3] at hi
        obtain ⟨vs, h1, h2⟩ := star_pl hi
        rw [vals_of n t r vs ht h1 hl]
        dsimp only
        unfold itmL
        have := pl_len _ _ h1
        rw [if_neg k9, if_neg (by omega), if_pos k3.1, h2]
        rfl
      · rw [if_neg k3] at hi
        cases hp : plainV t with
        | none => rw [hp] at hi; cases hi
        | some v =>
          rw [hp] at hi
          cases hi
          rw [one v hp]
          dsimp only
          unfold itmL
          rw [if_neg k9]
          rfl
theorem ext_in {h n r : List Int} {d : Bool} (he : extP (splitL 58 h) = some (n, d, r)) : ∀ x ∈ h, x = 58 ∨ x = 100 ∨ x = 110 ∨ x ∈ n ∨ x ∈ r := by
  match hs : splitL 58 h with
  | [] => exact absurd hs (split_ne 58 h)
  | [a] =>
    rw [hs] at he
    unfold extP at he
    injection he with he; injection he with he1 he2
    obtain ⟨h1, h2⟩ := split_one hs
    subst h1 he1
    intro x hx
    exact .inr (.inr (.inr (.inl hx)))
  | [a, b] =>
    rw [hs] at he
    unfold extP at he
    dsimp only at he
    obtain ⟨z, h1, _, h3⟩ := split_two hs
    obtain ⟨h4, _⟩ := split_one h3
    subst h4 h1
    intro x hx
    by_cases hb : z = [100, 110]
    · rw [if_pos hb] at he
      injection he with he; injection he with he1 he2
      subst he1 hb
      rcases List.mem_append.1 hx with hx | hx
      · exact .inr (.inr (.inr (.inl hx)))
      · simp only [List.mem_cons, List.not_mem_nil, or_false] at hx; omega
    · rw [if_neg hb] at he
      by_cases hz : z = []
      · rw [if_pos hz] at he; cases he
      · rw [if_neg hz] at he
        injection he with he; injection he with he1 he2
        injection he2 with he2 he3
        subst he1 he3
        rcases List.mem_append.1 hx with hx | hx
        · exact .inr (.inr (.inr (.inl hx)))
        · rcases List.mem_cons.1 hx with hx | hx
          · exact .inl hx
          · exact .inr (.inr (.inr (.inr hx)))
  | [a, b, c] =>
    rw [hs] at he
    unfold extP at he
    dsimp only at he
    obtain ⟨z, h1, _, h3⟩ := split_two hs
    obtain ⟨y, h4, _, h5⟩ := split_two h3
    obtain ⟨h6, _⟩ := split_one h5
    subst h6 h4 h1
    intro x hx
    by_cases hb : b = [100, 110] ∧ y ≠ []
    · rw [if_pos hb] at he
      injection he with he; injection he with he1 he2
      injection he2 with he2 he3
      obtain ⟨hb, _⟩ := hb
      subst he1 he3 hb
      rcases List.mem_append.1 hx with hx | hx
      · exact .inr (.inr (.inr (.inl hx)))
      · rcases List.mem_cons.1 hx with hx | hx
        · exact .inl hx
        · simp only [List.cons_append, List.nil_append, List.mem_cons] at hx
          rcases hx with hx | hx | hx | hx
          · exact .inr (.inl hx)
          · exact .inr (.inr (.inl hx))
          · exact .inl hx
          · exact .inr (.inr (.inr (.inr hx)))
    · rw [if_neg hb] at he; cases he
  | a :: b :: c :: e :: t =>
    rw [hs] at he
    unfold extP at he
    cases he
theorem sml_41 {l : List Int} (h : (41 : Int) ∈ l) : (41 : Int) ∈ l.map smlC := List.mem_map.2 ⟨41, h, by decide⟩
theorem kd_last {h : List Int} (k : ¬ kdL h = 3) (m : (41 : Int) ∈ h) : (41 : Int) ∈ h.dropLast := by
  have hne : h ≠ [] := fun e => by rw [e] at m; cases m
  have e := List.dropLast_concat_getLast hne
  have hl : h.getLast? = some (h.getLast hne) := List.getLast?_eq_some_getLast hne
  have : h.getLast hne ≠ 41 := fun e2 => by
    rw [e2] at hl
    apply k
    unfold kdL
    rw [hl]
    decide
  rw [← e] at m
  rcases List.mem_append.1 m with m | m
  · exact m
  · exact absurd (List.mem_singleton.1 m).symm this
theorem hd_41 {h : List Int} (m : (41 : Int) ∈ h) : (41 : Int) ∈ hdL h := by
  unfold hdL
  by_cases k : kdL h = 3
  · rw [if_pos k]; exact sml_41 m
  · rw [if_neg k]; exact sml_41 (kd_last k m)
theorem byt_sml {l : List Int} (h : byt l) : byt (l.map smlC) := fun x hx => by
  obtain ⟨y, hy, rfl⟩ := List.mem_map.1 hx
  have := h y hy
  unfold smlC
  split <;> omega
theorem byt_hd {h : List Int} (hb : byt h) : byt (hdL h) := by
  unfold hdL
  split
  · exact byt_sml hb
  · exact byt_sml fun x hx => hb x (List.dropLast_subset h hx)
theorem byt_sub {a b : List Int} (h : byt b) (hs : ∀ x ∈ a, x ∈ b) : byt a := fun x hx => h x (hs x hx)
end Go.Proofs.YthbldkkjjjmegaaGreatDoor
/- The landed reading of layer 24, plainly, is the document's. -/
namespace Go.Proofs.YthbldkkjjjmegaaGreatDoor
set_option maxRecDepth 100000
open Go.RowKit

/-- What may be has no bracket in its name, nor in its rule. -/
theorem one_in {k : Int} {n v i : ByteArray} {a : List ByteArray} {f : ByteArray} {hi hf : Bool} {r : ByteArray} {d : Bool} {m : Nat} (h : oneF k n v i a f hi hf r d m = true) (h0 : ¬ k = 0) (h1 : ¬ k = 1) (h2 : ¬ k = 2) :
    (∀ x ∈ nums n, x ≠ 41) ∧ (k = 9 → ∀ x ∈ nums r, x ≠ 41) ∧ (k = 4 → okPc i a f hi hf = true) := by
  have wd : ∀ s : ByteArray, wrdB (nums s) = true → ∀ x ∈ nums s, x ≠ 41 := fun s hs x hx => by have := wrd_in hs x hx; omega
  have em : ∀ s : ByteArray, s = ByteArray.empty → ∀ x ∈ nums s, x ≠ 41 := fun s hs x hx => by rw [nums_emp hs] at hx; cases hx
  unfold oneF oneQ at h
  rw [if_neg (by omega), if_neg h2] at h
  split at h
  · cases h
  · split at h
    · next hk =>
      rw [Bool.and_eq_true] at h
      exact ⟨wd n h.2, fun e => by omega, fun e => by omega⟩
    · split at h
      · next hk =>
        rw [Bool.and_eq_true] at h
        exact ⟨wd n h.2, fun e => by omega, fun e => by omega⟩
      · split at h
        · next hk =>
          rw [Bool.and_eq_true, Bool.and_eq_true] at h
          refine ⟨wd n h.2.1, fun e => by omega, fun _ => ?_⟩
          have h3 := h.2.2
          unfold finPc at h3
          rw [Bool.and_eq_true] at h3
          exact h3.1
        · split at h
          · next hk =>
            simp only [Bool.and_eq_true, Bool.or_eq_true, decide_eq_true_eq] at h
            obtain ⟨_, hn, hr, _⟩ := h
            refine ⟨hn.elim (wd n) (em n), fun _ => hr.elim (fun x => wd r x.1) (em r), fun e => by omega⟩
          · cases h
theorem split_sub (b : Int) : ∀ (l : List Int) (p : List Int), p ∈ splitL b l → ∀ x ∈ p, x ∈ l
  | [], p, hp => by
    rw [splitL] at hp
    obtain rfl := List.mem_singleton.1 hp
    simp
  | c :: t, p, hp => by
    rw [splitL] at hp
    by_cases hc : c = b
    · rw [if_pos hc] at hp
      rcases List.mem_cons.1 hp with rfl | hp
      · simp
      · exact fun x hx => List.mem_cons_of_mem _ (split_sub b t p hp x hx)
    · rw [if_neg hc] at hp
      have ih := split_sub b t
      cases hs : splitL b t with
      | nil => exact absurd hs (split_ne b t)
      | cons y r =>
        rw [hs] at hp ih
        dsimp only at hp
        rcases List.mem_cons.1 hp with rfl | hp
        · intro x hx
          rcases List.mem_cons.1 hx with rfl | hx
          · simp
          · exact List.mem_cons_of_mem _ (ih y (by simp) x hx)
        · exact fun x hx => List.mem_cons_of_mem _ (ih p (by simp [hp]) x hx)
theorem ext_sub {l : List (List Int)} {n r : List Int} {d : Bool} (h : extP l = some (n, d, r)) : n ∈ l ∧ (r = [] ∨ r ∈ l) := by
  match l, h with
  | [], h => unfold extP at h; cases h
  | [a], h => unfold extP at h; cases h; exact ⟨by simp, .inl rfl⟩
  | [a, b], h =>
    unfold extP at h
    dsimp only at h
    split at h
    · cases h; exact ⟨by simp, .inl rfl⟩
    · split at h
      · cases h
      · cases h; exact ⟨by simp, .inr (by simp)⟩
  | [a, b, c], h =>
    unfold extP at h
    dsimp only at h
    split at h
    · cases h; exact ⟨by simp, .inr (by simp)⟩
    · cases h
  | a :: b :: c :: e :: t, h => unfold extP at h; cases h
theorem itm_kids {h : List Int} {k : Int} {vs : List (List Int)} {f : Fl} (hi : itmL h k vs = some f) : f.kids = [] := by
  unfold itmL at hi
  by_cases k9 : k = 9
  · rw [if_pos k9] at hi
    cases he : extP (splitL 58 h) with
    | none => rw [he] at hi; cases hi
    | some q =>
      obtain ⟨a, d, b⟩ := q
      rw [he] at hi
      dsimp only at hi
      split at hi
      · cases hi; rfl
      · cases hi
  · rw [if_neg k9] at hi
    split at hi
    · cases hi; rfl
    · split at hi
      · unfold starL at hi
        split at hi
        · cases hi; rfl
        · split at hi
          · cases hi
          · cases hi; rfl
      · cases hi
theorem kd_in (h : List Int) : kdL h = 3 ∨ kdL h = 5 ∨ kdL h = 6 ∨ kdL h = 8 ∨ kdL h = 9 := by
  unfold kdL
  split
  · omega
  · split
    · omega
    · split
      · omega
      · split <;> omega
theorem len_one {vs : List (List Int)} (h : vs.length = 1) : vs = [vs.getD 0 []] := by
  match vs, h with
  | [v], _ => rfl
theorem pl_back {l : List (List Int)} {v : List Int} (h : plAll l = some [v]) : ∃ x, l = [x] ∧ plainV x = some v := by
  match l, h with
  | [], h => rw [plAll] at h; cases h
  | x :: t, h =>
    obtain ⟨a, b, e, h1, h2⟩ := pl_open h
    injection e with e1 e2
    subst e1 e2
    match t, h2 with
    | [], _ => exact ⟨x, rfl, h1⟩
    | y :: u, h2 =>
      obtain ⟨_, _, e, _, _⟩ := pl_open h2
      cases e
/-- What the landed reads, and may be, the document reads. -/
theorem itm_doc {n : Nat} {s r : List Int} {f : Fl} (hb : byt s) (h : rItm n s = some (f, r)) (ha : allF f = true) : ∃ x, cutL 41 s = some (x, r) ∧ itemP x = some f := by
  unfold rItm at h
  cases h6 : cutL 61 s with
  | none => rw [h6] at h; cases h
  | some p =>
    obtain ⟨hd, t⟩ := p
    rw [h6] at h
    dsimp only at h
    obtain ⟨hs, hh⟩ := cut_some 61 s hd t h6
    cases hv : valsV n t with
    | none => rw [hv] at h; cases h
    | some q =>
      obtain ⟨vs, r'⟩ := q
      rw [hv] at h
      dsimp only at h
      cases hi : itmL (hdL hd) (kdL hd) vs with
      | none => rw [hi] at h; cases h
      | some g =>
        rw [hi] at h
        cases h
        obtain ⟨y, h1, h2, h3⟩ := vals_some n t vs _ hv
        have hbh : byt hd := byt_sub hb fun x hx => by rw [hs]; simp [hx]
        have bh := byt_hd hbh
        have hkids := itm_kids hi
        have hl := pl_len _ _ h3
        have key : (∀ x ∈ hd, x ≠ 41) ∧ itemP (hd ++ 61 :: y) = some f := by
          rw [item_kd, cut_at 61 hd y hh]
          dsimp only
          obtain ⟨k, n, v, i, a, fi, hi', hf, ru, d, kids⟩ := f
          dsimp only at hkids
          subst hkids
          simp only [allF, allF.L, Bool.true_and, List.length_nil] at ha
          unfold itmL at hi
          by_cases k9 : kdL hd = 9
          · rw [if_pos k9] at hi ⊢
            cases he : extP (splitL 58 (hdL hd)) with
            | none => rw [he] at hi; cases hi
            | some q =>
              obtain ⟨a', d', b⟩ := q
              rw [he] at hi
              dsimp only at hi ⊢
              by_cases h1v : vs.length = 1
              · rw [if_pos h1v] at hi
                have hvs := len_one h1v
                rw [hvs] at h3
                obtain ⟨x, hx, hp⟩ := pl_back h3
                obtain ⟨hxe, _⟩ := split_one hx
                subst hxe
                rw [hp]
                refine ⟨fun x hx e => ?_, by rw [← hi]; rfl⟩
                subst e
                unfold itmF at hi
                injection hi with hi
                injection hi with e1 e2 e3 e4 e5 e6 e7 e8 e9 e10 e11
                subst e1 e2 e9
                obtain ⟨o1, o2, _⟩ := one_in ha (by decide) (by decide) (by decide)
                have q := ext_in he 41 (hd_41 hx)
                obtain ⟨bn1, bn2⟩ := ext_sub he
                have bn : byt a' ∧ byt b := ⟨byt_sub bh (split_sub 58 _ _ bn1), bn2.elim (fun e => by rw [e]; exact byt_nil) (fun e => byt_sub bh (split_sub 58 _ _ e))⟩
                rw [nums_strOfNums _ bn.1] at o1
                rw [nums_strOfNums _ bn.2] at o2
                rcases q with q | q | q | q | q
                · omega
                · omega
                · omega
                · exact o1 41 q rfl
                · exact o2 rfl 41 q rfl
              · rw [if_neg h1v] at hi; cases hi
          · rw [if_neg k9] at hi ⊢
            by_cases h1v : vs.length = 1
            · rw [if_pos h1v] at hi
              rw [if_neg (by omega)]
              have hvs := len_one h1v
              rw [hvs] at h3
              obtain ⟨x, hx, hp⟩ := pl_back h3
              obtain ⟨hxe, _⟩ := split_one hx
              subst hxe
              rw [hp]
              refine ⟨fun x hx e => ?_, by rw [← hi]; rfl⟩
              subst e
              unfold itmF at hi
              injection hi with hi
              injection hi with e1 e2 e3 e4 e5 e6 e7 e8 e9 e10 e11
              subst e1 e2
              have := kd_in hd
              obtain ⟨o1, _, _⟩ := one_in ha (by omega) (by omega) (by omega)
              rw [nums_strOfNums _ bh] at o1
              exact o1 41 (hd_41 hx) rfl
            · rw [if_neg h1v] at hi
              by_cases k3 : kdL hd = 3
              · rw [if_pos k3] at hi
                have hne := split_ne 42 y
                have hlen : 1 < (splitL 42 y).length := by
                  have : 0 < (splitL 42 y).length := List.length_pos_iff.2 hne
                  omega
                rw [if_pos ⟨k3, hlen⟩]
                unfold starL at hi
                by_cases h0 : vs = [[], []]
                · rw [if_pos h0] at hi
                  injection hi with hi
                  refine ⟨fun x hx e => ?_, ?_⟩
                  · subst e
                    injection hi with e1 e2
                    subst e1 e2
                    obtain ⟨o1, _, _⟩ := one_in ha (by decide) (by decide) (by decide)
                    rw [nums_strOfNums _ bh] at o1
                    exact o1 41 (hd_41 hx) rfl
                  · subst h0
                    have hy : splitL 42 y = [[], []] := by
                      match hq : splitL 42 y, h3, hlen with
                      | [x1, x2], h3, _ =>
                        obtain ⟨_, _, e, g1, g2⟩ := pl_open h3
                        injection e with e1 e2
                        subst e1 e2
                        obtain ⟨_, _, e, g3, _⟩ := pl_open g2
                        injection e with e1 e2
                        subst e1
                        rw [plain_emp g1, plain_emp g3]
                      | x1 :: x2 :: x3 :: u, h3, _ => have := pl_len _ _ h3; simp at this
                    unfold starP
                    rw [if_pos hy, ← hi]
                · rw [if_neg h0] at hi
                  match hq : splitL 42 y, h3, hlen with
                  | x1 :: x2 :: u, h3, _ =>
                    obtain ⟨w, ws, rfl, g1, g2⟩ := pl_open h3
                    dsimp only at hi
                    unfold subF at hi
                    injection hi with hi
                    have hi2 := hi
                    injection hi with e1 e2 e3 e4 e5 e6 e7 e8 e9 e10 e11
                    subst e1 e2
                    obtain ⟨o1, _, o3⟩ := one_in ha (by decide) (by decide) (by decide)
                    rw [nums_strOfNums _ bh] at o1
                    refine ⟨fun x hx e => by subst e; exact o1 41 (hd_41 hx) rfl, ?_⟩
                    have hno : ¬ x1 :: x2 :: u = [[], []] := fun e => by
                      injection e with e1 e2
                      injection e2 with e2 e3
                      subst e1 e2 e3
                      rw [plain_nil] at g1
                      injection g1 with g1
                      obtain ⟨_, _, e, g3, g4⟩ := pl_open g2
                      rw [plain_nil] at g3
                      injection g3 with g3
                      rw [plAll] at g4
                      injection g4 with g4
                      subst g1 g3 g4 e
                      exact h0 rfl
                    have hwne : ws ≠ [] := fun e => by have := pl_len _ _ g2; rw [e] at this; simp at this
                    have hmid : ∀ w ∈ ws.dropLast, w ≠ [] := fun w hw e => by
                      have o4 := o3 rfl
                      unfold okPc at o4
                      rw [Bool.and_eq_true, List.all_eq_true] at o4
                      have := o4.2 (strOfNums w) (by rw [← e5]; unfold midS; exact List.mem_map.2 ⟨w, hw, rfl⟩)
                      rw [e] at this
                      simp [sn_nil] at this
                    unfold starP
                    rw [if_neg hno]
                    dsimp only
                    rw [g1]
                    dsimp only
                    rw [mid_lp _ _ g2 hwne hmid, ← hi2]
                    rfl
              · rw [if_neg k3] at hi; cases hi
        refine ⟨hd ++ 61 :: y, ?_, key.2⟩
        rw [hs, h1, show hd ++ 61 :: (y ++ 41 :: r) = (hd ++ 61 :: y) ++ 41 :: r by simp]
        refine cut_at 41 _ r fun x hx => ?_
        rcases List.mem_append.1 hx with hx | hx
        · exact key.1 x hx
        · rcases List.mem_cons.1 hx with rfl | hx
          · decide
          · exact h2 x hx
/-! Filters within filters. -/
def kidsN (rd : List Int → Option (Fl × List Int)) : Nat → List Fl → List Int → Option (List Fl × List Int)
  | 0, _, _ => none
  | n + 1, acc, s =>
    match s with
    | [] => none
    | c :: r => if c = 41 then some (acc, r) else
      match rd (c :: r) with
      | none => none
      | some (k, r2) => kidsN rd n (acc ++ [k]) r2
def readN : Nat → List Int → Option (Fl × List Int)
  | 0, _ => none
  | m + 1, s =>
    match s with
    | [] => none
    | c :: t => if c ≠ 40 ∨ t = [] then none else
      if 0 ≤ boolK (t.getD 0 0) then (kidsN (readN m) (t.length + 1) [] (t.drop 1)).map fun x => (kndF (boolK (t.getD 0 0)) x.1, x.2)
      else rItm (t.length + 1) t
theorem cut_len {b : Int} {l h t : List Int} (hc : cutL b l = some (h, t)) : t.length < l.length := by
  have := congrArg List.length (cut_some b l h t hc).1
  rw [List.length_append, List.length_cons] at this
  omega
theorem kids_land (tk : Nat → List Int → Option (Fl × List Int × Nat)) (rd : List Int → Option (Fl × List Int)) (L : Nat)
    (hrd : ∀ p s f r q, tk p s = some (f, r, q) → s.length ≤ L → rd s = some (f, r) ∧ r.length < s.length) :
    ∀ (n p : Nat) (acc : List Fl) (s : List Int) (l : List Fl) (r : List Int) (q : Nat), kidsG tk n p acc s = some (l, r, q) → s.length ≤ L → ∀ n', s.length < n' → kidsN rd n' acc s = some (l, r) ∧ r.length < s.length
  | 0, p, acc, s, l, r, q, h, _, n', _ => by rw [kidsG] at h; cases h
  | n + 1, p, acc, s, l, r, q, h, hL, n', hn => by
    obtain ⟨m, rfl⟩ : ∃ m, n' = m + 1 := ⟨n' - 1, by omega⟩
    rw [kidsG.eq_def] at h
    rw [kidsN.eq_def]
    dsimp only at h ⊢
    cases s with
    | nil => cases h
    | cons c t =>
      dsimp only at h ⊢
      by_cases hc : c = 41
      · rw [if_pos hc] at h ⊢
        cases h
        exact ⟨rfl, by simp⟩
      · rw [if_neg hc] at h ⊢
        cases ht : tk p (c :: t) with
        | none => rw [ht] at h; cases h
        | some x =>
          obtain ⟨k, r2, p2⟩ := x
          rw [ht] at h
          dsimp only at h
          obtain ⟨h1, h2⟩ := hrd _ _ _ _ _ ht hL
          rw [h1]
          dsimp only
          obtain ⟨h3, h4⟩ := kids_land tk rd L hrd n p2 (acc ++ [k]) r2 l r q h (by omega) m (by omega)
          exact ⟨h3, by omega⟩
theorem take_land : ∀ (m p : Nat) (s : List Int) (f : Fl) (r : List Int) (q : Nat), takeL m p s = some (f, r, q) → ∀ k, s.length ≤ k → readN k s = some (f, r) ∧ r.length < s.length
  | 0, p, s, f, r, q, h, k, _ => by rw [takeL] at h; cases h
  | m + 1, p, s, f, r, q, h, k, hk => by
    rw [takeL.eq_def] at h
    dsimp only at h
    by_cases h60 : 60 < p + 1
    · rw [if_pos h60] at h; cases h
    rw [if_neg h60] at h
    cases s with
    | nil => cases h
    | cons c t =>
      rw [List.length_cons] at hk
      obtain ⟨k, rfl⟩ : ∃ j, k = j + 1 := ⟨k - 1, by omega⟩
      rw [readN]
      dsimp only at h ⊢
      by_cases hc : c ≠ 40
      · rw [if_pos hc] at h; cases h
      · rw [if_neg hc] at h
        by_cases hb : 0 ≤ boolK (t.getD 0 0)
        · have hne : t ≠ [] := fun e => by rw [e] at hb; revert hb; decide
          rw [if_neg (by rintro (x | x); exact hc x; exact hne x), if_pos hb]
          rw [if_pos hb] at h
          cases hg : kidsG (takeL m) (t.length + 1) (p + 1) [] (t.drop 1) with
          | none => rw [hg] at h; cases h
          | some x =>
            obtain ⟨l, r', q'⟩ := x
            rw [hg] at h
            cases h
            have hdl : (t.drop 1).length ≤ t.length := by simp
            obtain ⟨h1, h2⟩ := kids_land (takeL m) (readN k) k (fun p s f r q h0 h1 => take_land m p s f r q h0 k h1) _ _ _ _ _ _ _ hg (by omega) (t.length + 1) (by omega)
            rw [h1]
            exact ⟨rfl, by rw [List.length_cons]; dsimp only; omega⟩
        · rw [if_neg hb] at h
          cases h41 : cutL 41 t with
          | none => rw [h41] at h; cases h
          | some x =>
            obtain ⟨y, r'⟩ := x
            rw [h41] at h
            dsimp only at h
            have hne : t ≠ [] := fun e => by rw [e] at h41; cases h41
            rw [if_neg (by rintro (x | x); exact hc x; exact hne x), if_neg hb]
            cases hi : itemP y with
            | none => rw [hi] at h; cases h
            | some g =>
              rw [hi] at h
              cases h
              have := cut_len h41
              exact ⟨itm_land h41 hi _ (by omega), by rw [List.length_cons]; omega⟩
theorem kids_doc (tk : Nat → List Int → Option (Fl × List Int × Nat)) (rd : List Int → Option (Fl × List Int)) (P : Fl → Prop)
    (hrd : ∀ s f r, byt s → rd s = some (f, r) → r.length < s.length ∧ byt r ∧ (P f → ∀ p, p + totF f ≤ 60 → tk p s = some (f, r, p + totF f))) :
    ∀ (n : Nat) (acc : List Fl) (s : List Int) (l : List Fl) (r : List Int), byt s → kidsN rd n acc s = some (l, r) →
      r.length < s.length ∧ byt r ∧ ∃ l', l = acc ++ l' ∧ ((∀ e ∈ l', P e) → ∀ p, p + totF.L l' ≤ 60 → ∀ n', s.length < n' → kidsG tk n' p acc s = some (l, r, p + totF.L l'))
  | 0, acc, s, l, r, _, h => by rw [kidsN] at h; cases h
  | n + 1, acc, s, l, r, hb, h => by
    rw [kidsN.eq_def] at h
    dsimp only at h
    cases s with
    | nil => cases h
    | cons c t =>
      dsimp only at h
      by_cases hc : c = 41
      · rw [if_pos hc] at h
        cases h
        refine ⟨by simp, byt_sub hb fun x hx => by simp [hx], [], by simp, fun _ p _ n' hn => ?_⟩
        obtain ⟨m, rfl⟩ : ∃ m, n' = m + 1 := ⟨n' - 1, by omega⟩
        rw [kidsG, if_pos hc]
        simp only [totF.L, Nat.add_zero]
      · rw [if_neg hc] at h
        cases hr : rd (c :: t) with
        | none => rw [hr] at h; cases h
        | some x =>
          obtain ⟨k, r2⟩ := x
          rw [hr] at h
          dsimp only at h
          obtain ⟨h1, h2, h3⟩ := hrd _ _ _ hb hr
          obtain ⟨g1, g2, l', g3, g4⟩ := kids_doc tk rd P hrd n (acc ++ [k]) r2 l r h2 h
          refine ⟨by omega, g2, k :: l', by rw [g3]; simp, fun hP p hp n' hn => ?_⟩
          obtain ⟨m, rfl⟩ : ∃ m, n' = m + 1 := ⟨n' - 1, by omega⟩
          simp only [totF.L] at hp ⊢
          rw [kidsG, if_neg hc, h3 (hP k (by simp)) p (by omega)]
          dsimp only
          rw [g4 (fun e he => hP e (by simp [he])) (p + totF k) (by omega) m (by omega), Nat.add_assoc]
theorem itm_len {n : Nat} {s r : List Int} {f : Fl} (hb : byt s) (h : rItm n s = some (f, r)) : r.length < s.length ∧ byt r := by
  unfold rItm at h
  cases h6 : cutL 61 s with
  | none => rw [h6] at h; cases h
  | some p =>
    obtain ⟨hd, t⟩ := p
    rw [h6] at h
    dsimp only at h
    obtain ⟨hs, -⟩ := cut_some 61 s hd t h6
    cases hv : valsV n t with
    | none => rw [hv] at h; cases h
    | some q =>
      obtain ⟨vs, r'⟩ := q
      rw [hv] at h
      dsimp only at h
      cases hi : itmL (hdL hd) (kdL hd) vs with
      | none => rw [hi] at h; cases h
      | some g =>
        rw [hi] at h
        cases h
        obtain ⟨y, h1, -, -⟩ := vals_some n t vs _ hv
        refine ⟨?_, byt_sub hb fun x hx => by rw [hs, h1]; simp [hx]⟩
        rw [hs, h1]
        simp only [List.length_append, List.length_cons]
        omega
theorem rItm_kids {n : Nat} {s r : List Int} {f : Fl} (h : rItm n s = some (f, r)) : f.kids = [] := by
  unfold rItm at h
  cases h6 : cutL 61 s with
  | none => rw [h6] at h; cases h
  | some p =>
    obtain ⟨hd, t⟩ := p
    rw [h6] at h
    dsimp only at h
    cases hv : valsV n t with
    | none => rw [hv] at h; cases h
    | some q =>
      obtain ⟨vs, r'⟩ := q
      rw [hv] at h
      dsimp only at h
      cases hi : itmL (hdL hd) (kdL hd) vs with
      | none => rw [hi] at h; cases h
      | some g => rw [hi] at h; cases h; exact itm_kids hi
theorem read_doc : ∀ (k : Nat) (s : List Int) (f : Fl) (r : List Int), byt s → readN k s = some (f, r) → r.length < s.length ∧ byt r ∧ (allF f = true → ∀ m p, deepF f (m + 1) ≤ m → p + totF f ≤ 60 → takeL m p s = some (f, r, p + totF f))
  | 0, s, f, r, _, h => by rw [readN] at h; cases h
  | k + 1, s, f, r, hb, h => by
    rw [readN.eq_def] at h
    dsimp only at h
    cases s with
    | nil => cases h
    | cons c t =>
      dsimp only at h
      have hbt : byt t := byt_sub hb fun x hx => by simp [hx]
      by_cases hc : c ≠ 40 ∨ t = []
      · rw [if_pos hc] at h; cases h
      · rw [if_neg hc] at h
        have hc' : ¬ c ≠ 40 := fun x => hc (.inl x)
        by_cases hbk : 0 ≤ boolK (t.getD 0 0)
        · rw [if_pos hbk] at h
          cases hg : kidsN (readN k) (t.length + 1) [] (t.drop 1) with
          | none => rw [hg] at h; cases h
          | some x =>
            obtain ⟨l, r'⟩ := x
            rw [hg] at h
            cases h
            have hbd : byt (t.drop 1) := byt_sub hbt fun x hx => List.mem_of_mem_drop hx
            have hlen : (t.drop 1).length ≤ t.length := by simp
            refine ⟨?_, ?_, fun ha m p hd hp => ?_⟩
            · obtain ⟨g1, _⟩ := kids_doc (fun _ _ => none) (readN k) (fun _ => False) (fun s f r hb h => ⟨(read_doc k s f r hb h).1, (read_doc k s f r hb h).2.1, fun x => x.elim⟩) _ _ _ _ _ hbd hg
              rw [List.length_cons]; dsimp only; omega
            · exact (kids_doc (fun _ _ => none) (readN k) (fun _ => False) (fun s f r hb h => ⟨(read_doc k s f r hb h).1, (read_doc k s f r hb h).2.1, fun x => x.elim⟩) _ _ _ _ _ hbd hg).2.1
            · unfold kndF at hd hp ha ⊢
              cases m with
              | zero => simp only [deepF] at hd; omega
              | succ m =>
                simp only [deepF] at hd
                rw [if_pos (by omega)] at hd
                have hdk := deepL_mem l (m + 1) m (by simpa using hd)
                simp only [allF, Bool.and_eq_true] at ha
                have hak := allL_mem l ha.1
                simp only [totF] at hp ⊢
                obtain ⟨_, _, l', g3, g4⟩ := kids_doc (takeL m) (readN k) (fun e => allF e = true ∧ deepF e (m + 1) ≤ m) (fun s f r hb h => ⟨(read_doc k s f r hb h).1, (read_doc k s f r hb h).2.1, fun x p hp => (read_doc k s f r hb h).2.2 x.1 m p x.2 hp⟩) _ _ _ _ _ hbd hg
                rw [List.nil_append] at g3
                subst g3
                have := g4 (fun e he => ⟨hak e he, hdk e he⟩) (p + 1) (by omega) (t.length + 1) (by omega)
                rw [takeL, if_neg (by omega), if_neg hc', if_pos hbk, this]
                simp only [Option.map_some, Nat.add_assoc]
                rfl
        · rw [if_neg hbk] at h
          obtain ⟨h1, h2⟩ := itm_len hbt h
          refine ⟨by rw [List.length_cons]; omega, h2, fun ha m p hd hp => ?_⟩
          obtain ⟨x, hx1, hx2⟩ := itm_doc hbt h ha
          have htot : totF f = 1 := by
            have hk := rItm_kids h
            obtain ⟨_, _, _, _, _, _, _, _, _, _, kids⟩ := f
            dsimp only at hk
            subst hk
            simp only [totF, totF.L]
          have hdp : 1 ≤ m := by
            obtain ⟨_, _, _, _, _, _, _, _, _, _, kids⟩ := f
            simp only [deepF] at hd
            omega
          obtain ⟨m, rfl⟩ : ∃ j, m = j + 1 := ⟨m - 1, by omega⟩
          rw [htot] at hp ⊢
          rw [takeL, if_neg (by omega), if_neg hc', if_neg hbk, hx1]
          dsimp only
          rw [hx2]
          rfl
/-- The landed Parse, plainly, is the document's. -/
theorem par_land (l : List Int) (hb : byt l) (k : Nat) (hk : l.length ≤ k) : parO l = match readN k l with
    | none => none
    | some (f, r) => if r = [] ∧ chkF f = 0 then some f else none := by
  unfold parO
  cases ht : takeL 8 0 l with
  | some x =>
    obtain ⟨f, r, q⟩ := x
    rw [(take_land 8 0 l f r q ht k hk).1]
  | none =>
    cases hr : readN k l with
    | none => rfl
    | some x =>
      obtain ⟨f, r⟩ := x
      dsimp only
      by_cases hc : r = [] ∧ chkF f = 0
      · obtain ⟨h1, h2, h3⟩ := chk_parts hc.2
        have := (read_doc k l f r hb hr).2.2 h1 8 0 h2 (by omega)
        rw [ht] at this
        cases this
      · rw [if_neg hc]
end Go.Proofs.YthbldkkjjjmegaaGreatDoor
