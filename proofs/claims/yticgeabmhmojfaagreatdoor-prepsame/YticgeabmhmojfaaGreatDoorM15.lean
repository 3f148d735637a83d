/- prep's texts, Value, Prepared, Same: of easy texts. -/
import Derived.Test.YticgeabmhmojfaaGreatDoorM14
namespace Go.Proofs.YticgeabmhmojfaaGreatDoor
set_option maxRecDepth 100000
open Go.RowKit

theorem ru_in {s : ByteArray} (h : ruOk s = true) : ∀ x, x ∈ ruP s → In32' x := fun x hx => by
  have h2 := List.all_eq_true.1 (ok_back h).2 x hx
  have := isPt_lo h2
  exact ⟨by omega, by omega⟩
/-- Is a text told here? Its Value, and error. -/
structure Ez (way : Int) (s : ByteArray) : Prop where
  size : s.size ≤ 1202
  ru : ruOk s = true
  st : stOk way (ruP s) = true
  fl : (frL way (nnL way (ruP s))).length ≤ 80000
def vS (way : Int) (s : ByteArray) : ByteArray := if chkE (nnL way (ruP s)) = 0 then encS (frL way (nnL way (ruP s))) else ⟨#[]⟩
def vE (way : Int) (s : ByteArray) : Int := if chkE (nnL way (ruP s)) = 0 then encE (frL way (nnL way (ruP s))) else 30
theorem chk_cases (l : List Int) : chkE l = 0 ∨ chkE l = 30 := by unfold chkE; split <;> simp

set_option maxHeartbeats 1000000 in
theorem closure_any (bx : Nat) (way : Int) (s : ByteArray) (w : World) (hL : L12 w) (h0 : 1 ≤ way) (h1 : way ≤ 4) (hz : Ez way s) (hx : w.cell? ⟨bx, 0, none⟩ = some (.int .i64 way)) :
    Calls Tryz.prog 12 (#[.string s] ++ #[.pointer (some ⟨bx, 0, none⟩)]) w fun e w' => e = .returned (.tuple #[.string (vS way s), .int .i64 (vE way s)]) ∧ Below w.heap.size w w' := by
  obtain ⟨hs, hru, hst, hfl⟩ := hz
  have hpl := rup_len s
  have HK := hide (fun W => known_yes way W h0 h1)
  have HU := runes_any s w (by omega)
  have hE : ruE s = 0 := by unfold ruE; rw [hru]; rfl
  rw [hE] at HU
  have HUR : Hid (Calls Tryz.prog 13 #[.string s] w fun e w' => ∃ v, e = .returned (.tuple #[v, .int .i64 (ruA s), .int .i64 0]) ∧ Row w' v (ruP s) ∧ Below w.heap.size w w') :=
    HU.mono fun e w' ⟨v, he, ho, hb⟩ => ⟨v, he, Rn.row (B := w.heap.size) ho, hb⟩
  have hin := ru_in hru
  have HL := hide hL
  have hsz : ¬ (s.size : Int) > 1202 := by omega
  have hblt := cell_lt hx
  clear HU hE hru hL
  generalize ruA s = A at *
  rcases chk_cases (nnL way (ruP s)) with hc | hc
  · have HS := hide (fun v W hW hv => steps_ok way v (ruP s) W hW h0 h1 (by omega) hin hst hc hv)
    have HE := hide (fun v W hv => encode_any v (frL way (nnL way (ruP s))) W hfl hv)
    have e1 : vS way s = encS (frL way (nnL way (ruP s))) := by unfold vS; rw [if_pos hc]
    have e2 : vE way s = encE (frL way (nnL way (ruP s))) := by unfold vE; rw [if_pos hc]
    rw [e1, e2]
    clear hst hfl hc hin e1 e2 hpl
    generalize frL way (nnL way (ruP s)) = F at *
    generalize ruP s = l at *
    generalize encS F = S at *
    generalize encE F = E at *
    go_enter Tryz.func12, Tryz.ntmps12
    go_wp2_with (first
      | (go_at_call 15; refine (unhide HE _ _ (unhide R2)).mono ?_; rintro e w3 ⟨rfl, b3⟩)
      | (go_at_call 14; refine (unhide HS _ _ (unhide HL1) (unhide R1)).mono ?_; rintro e w2 ⟨v2, rfl, q2, b2⟩; have R2 := hide q2; clear q2; have hb2 := b1.trans (b2.mono b1.size))
      | (go_at_call 13; refine (unhide HUR).mono ?_; rintro e w1 ⟨v1, rfl, q1, b1⟩; have R1 := hide q1; clear q1; have HL1 := hide ((unhide HL).keep b1); have hx1 : w1.cell? ⟨bx, 0, none⟩ = some (.int .i64 way) := (b1.cell (by exact hblt)).trans hx)
      | (go_at_call 10; refine (unhide HK _).mono ?_; rintro e wk ⟨rfl, rfl⟩))
    go_ret2
    exact ⟨rfl, hb2.trans (b3.mono hb2.size)⟩
  · have HS := hide (fun v W hW hv => steps_no way v (ruP s) W hW h0 h1 (by omega) hin hst hc hv)
    have e1 : vS way s = ⟨#[]⟩ := by unfold vS; rw [if_neg (by omega)]
    have e2 : vE way s = 30 := by unfold vE; rw [if_neg (by omega)]
    rw [e1, e2]
    clear hst hfl hc hin e1 e2 hpl
    generalize ruP s = l at *
    go_enter Tryz.func12, Tryz.ntmps12
    go_wp2_with (first
      | (go_at_call 14; refine (unhide HS _ _ (unhide HL1) (unhide R1)).mono ?_; rintro e w2 ⟨rfl, b2⟩; have hb2 := b1.trans (b2.mono b1.size))
      | (go_at_call 13; refine (unhide HUR).mono ?_; rintro e w1 ⟨v1, rfl, q1, b1⟩; have R1 := hide q1; clear q1; have HL1 := hide ((unhide HL).keep b1); have hx1 : w1.cell? ⟨bx, 0, none⟩ = some (.int .i64 way) := (b1.cell (by exact hblt)).trans hx)
      | (go_at_call 10; refine (unhide HK _).mono ?_; rintro e wk ⟨rfl, rfl⟩))
    go_ret2
    exact ⟨rfl, hb2⟩

/-- The function that prepares texts. -/
def clo (bx : Nat) : Value := .func (.func 12) #[] #[.pointer (some ⟨bx, 0, none⟩)]
set_option maxHeartbeats 400000 in
theorem texts_any (way : Int) (w : World) : Calls Tryz.prog 11 #[.int .i64 way] w fun e w' => e = .returned (.func (.func 12) #[] #[.pointer (some ⟨w.heap.size, 0, none⟩)]) ∧ w' = w.alloc (.cells #[.int .i64 way] 3) := by
  have hmf : ∀ (fn : Fn) (first cap : Array Value) (w : World), (Instr.makeFunc fn first cap).run Tryz.prog w = .ok (.func fn first cap) w := fun _ _ _ _ => rfl
  go_enter Tryz.func11, Tryz.ntmps11
  go_wp2
  go_ret
  exact ⟨rfl, rfl⟩
set_option maxHeartbeats 1000000 in
theorem value_any (way : Int) (s : ByteArray) (w : World) (hL : L12 w) (h0 : 1 ≤ way) (h1 : way ≤ 4) (hz : Ez way s) :
    Calls Tryz.prog 8 #[.int .i64 way, .string s] w fun e w' => e = .returned (.tuple #[.string (vS way s), .int .i64 (vE way s)]) ∧ Below w.heap.size w w' := by
  have HT := hide (texts_any way w)
  have HC := hide (closure_any w.heap.size way s (w.alloc (.cells #[.int .i64 way] 3)) (hL.keep (Below.one _ _)) h0 h1 hz (box1 w _ _))
  have eg : ∀ args w, (callFunc 12 args).run Tryz.prog w = .ok (.enter 12 args) w := enters_of Tryz.func12 (by kernel_rfl) rfl
  clear hL hz
  generalize vS way s = S at *
  generalize vE way s = E at *
  go_enter Tryz.func8, Tryz.ntmps8
  go_wp2_with (first
    | (go_at_call 11; refine (unhide HT).mono ?_; rintro e w1 ⟨rfl, rfl⟩)
    | (refine (unhide HC).mono ?_; rintro e w2 ⟨rfl, b2⟩))
  go_ret2
  exact ⟨rfl, below_new b2⟩
set_option maxHeartbeats 1000000 in
theorem prepared_any (way : Int) (s : ByteArray) (w : World) (hL : L12 w) (h0 : 1 ≤ way) (h1 : way ≤ 4) (hz : Ez way s) (he : vE way s = 0) :
    Calls Tryz.prog 9 #[.int .i64 way, .string s] w fun e w' => e = .returned (.bool ((vS way s).toList == s.toList)) ∧ Below w.heap.size w w' := by
  have H := value_any way s w hL h0 h1 hz
  rw [he] at H
  have HV := hide H
  clear H hL hz he
  generalize vS way s = S at *
  go_enter Tryz.func9, Tryz.ntmps9
  go_wp2_with (go_at_call 8; refine (unhide HV).mono ?_; rintro e w1 ⟨rfl, b1⟩)
  go_ret
  exact ⟨rfl, b1⟩
end Go.Proofs.YticgeabmhmojfaaGreatDoor
/- prep.Same, of easy texts that are the same, prepared. -/
namespace Go.Proofs.YticgeabmhmojfaaGreatDoor
set_option maxRecDepth 100000
open Go.RowKit

/-- A slice that holds the texts ss. -/
def Strs (w : World) (v : Value) (ss : List ByteArray) : Prop :=
  ∃ b cap, v = .slice (some ⟨b, 0, none⟩) ss.length cap ∧ ∀ j, j < ss.length → w.cell? ⟨b, j, none⟩ = some (.string (ss.getD j ⟨#[]⟩))
theorem strs_new (w : World) (ss : List ByteArray) (cs : Array Value) (T : TypeId) (hcs : cs.toList = ss.map Value.string) : Strs (w.alloc (.cells cs T)) (.slice (some ⟨w.heap.size, 0, none⟩) ss.length ss.length) ss := by
  refine ⟨_, _, rfl, fun j hj => ?_⟩
  rw [World.cell?_alloc_mark]
  have : cs.toList[j]? = some (.string (ss.getD j ⟨#[]⟩)) := by rw [hcs]; simp [List.getD, hj]
  simpa using this
theorem beq_self12 (V : ByteArray) : (V.toList == V.toList) = true := by simp
set_option maxHeartbeats 2000000 in
theorem same_yes (way : Int) (v : Value) (ss : List ByteArray) (V : ByteArray) (w : World) (hL : L12 w) (h0 : 1 ≤ way) (h1 : way ≤ 4) (hlen : ss.length ≤ 1000) (hz : ∀ j, j < ss.length → Ez way (ss.getD j ⟨#[]⟩) ∧ vE way (ss.getD j ⟨#[]⟩) = 0 ∧ vS way (ss.getD j ⟨#[]⟩) = V) (hR : Strs w v ss) :
    Calls Tryz.prog 5 #[.int .i64 way, v] w fun e w' => e = .returned (.tuple #[.bool true, .int .i64 0]) ∧ Below w.heap.size w w' := by
  obtain ⟨b, cap, rfl, hc⟩ := hR
  have HC := hide hc
  have HK := hide (fun W => known_yes way W h0 h1)
  have HT := hide (texts_any way w)
  have HZ := hide hz
  have HCL := hide (fun s W hW hz hx => closure_any w.heap.size way s W hW h0 h1 hz hx)
  have eg : ∀ args w, (callFunc 12 args).run Tryz.prog w = .ok (.enter 12 args) w := enters_of Tryz.func12 (by kernel_rfl) rfl
  have hbx := box1 w (.int .i64 way) 3
  have hb1 : Below w.heap.size w (w.alloc (.cells #[.int .i64 way] 3)) := Below.one _ _
  have hlt1 : w.heap.size < (w.alloc (.cells #[.int .i64 way] 3)).heap.size := by simp
  have HL := hide (hL.keep hb1)
  have hVV := beq_self12 V
  clear hc hz hL
  go_enter Tryz.func5, Tryz.ntmps5
  go_wp2_with (first
    | (go_at_call 11; refine (unhide HT).mono ?_; rintro e w1 ⟨rfl, rfl⟩)
    | (go_at_call 10; refine (unhide HK _).mono ?_; rintro e wk ⟨rfl, rfl⟩))
  generalize w.alloc (.cells #[.int .i64 way] 3) = w1 at *
  go_loopw [7, 8, 20] (fun sm fi i wr => ∃ k : Nat, k ≤ ss.length ∧ i = .int .i64 (k : Int) ∧ sm = .bool true ∧ ((k = 0 ∧ fi = .string ⟨#[]⟩) ∨ (0 < k ∧ fi = .string V)) ∧ Below w1.heap.size w1 wr) (fun _ _ i _ => ss.length - (intOf i).toNat)
  case atStart => exact ⟨0, Nat.zero_le _, rfl, rfl, .inl ⟨rfl, rfl⟩, Below.refl _ _⟩
  case round =>
    obtain ⟨k, hk, rfl, rfl, hfi, hb⟩ := hrel
    have hbw : Below w.heap.size w wr := hb1.trans (hb.mono hb1.size)
    by_cases hlt : k < ss.length
    · have hzl : (k : Int) < (ss.length : Int) := by omega
      have hz0 : (0 : Int) ≤ (k : Int) := by omega
      have g1 := unhide HC k hlt
      have k1 : wr.cell? ⟨b, k, none⟩ = some (.string (ss.getD k ⟨#[]⟩)) := (hbw.cell (by exact cell_lt g1)).trans g1
      have kx : wr.cell? ⟨w.heap.size, 0, none⟩ = some (.int .i64 way) := (hb.cell (by exact hlt1)).trans hbx
      obtain ⟨z1, z2, z3⟩ := unhide HZ k hlt
      have H := unhide HCL (ss.getD k ⟨#[]⟩) wr ((unhide HL).keep hb) z1 kx
      rw [z2, z3] at H
      have HX := hide H
      clear g1 z1 z2 z3 H
      generalize ss.getD k ⟨#[]⟩ = s at *
      rcases hfi with ⟨hk0, rfl⟩ | ⟨hk0, rfl⟩
      · have kz : ((k : Int) == 0) = true := by simp; omega
        clear hk0
        go_wp2_with (refine (unhide HX).mono ?_; rintro e w2 ⟨rfl, b2⟩)
        go_roundw
        case rel => exact ⟨k + 1, by omega, by go_num, rfl, .inr ⟨by omega, rfl⟩, hb.trans (b2.mono hb.size)⟩
        case measure => simp [intOf]; omega
      · have kz : ((k : Int) == 0) = false := by simp; omega
        go_wp2_with (refine (unhide HX).mono ?_; rintro e w2 ⟨rfl, b2⟩)
        go_roundw
        case rel => exact ⟨k + 1, by omega, by go_num, rfl, .inr ⟨by omega, rfl⟩, hb.trans (b2.mono hb.size)⟩
        case measure => simp [intOf]; omega
    · have hzl : ¬ (k : Int) < (ss.length : Int) := by omega
      rcases hfi with ⟨hk0, rfl⟩ | ⟨hk0, rfl⟩
      · clear hk0
        go_wp2
        go_ret2
        exact ⟨rfl, hbw⟩
      · go_wp2
        go_ret2
        exact ⟨rfl, hbw⟩
end Go.Proofs.YticgeabmhmojfaaGreatDoor
/- Plain mathematics of PrepSame: texts of ASCII, with more and other spaces, with something left out, in great letters. -/
namespace Go.Proofs.YticgeabmhmojfaaGreatDoor
set_option maxRecDepth 100000
open Go.RowKit

def up (x : Int) : Int := if 97 ≤ x ∧ x ≤ 122 then x - 32 else x
def spx (x : Int) : List Int := if x = 32 then [160, 8195] else [x]
def spL (l : List Int) : List Int := 173 :: (l.flatMap spx ++ [8203])
def dbl (m : List Int) : List Int := m.flatMap fun x => if x = 32 then [32, 32] else [x]
/-- Characters of ASCII from the space on; those that are left of them. -/
def Asc (l : List Int) : Prop := ∀ x, x ∈ l → 32 ≤ x ∧ x < 128
def Prn (l : List Int) : Prop := ∀ x, x ∈ l → 32 ≤ x ∧ x ≤ 126
def rng : List Int := (List.range 96).map fun (n : Nat) => (n : Int) + 32
theorem mem_rng {x : Int} (h0 : 32 ≤ x) (h1 : x < 128) : x ∈ rng := by
  refine List.mem_map.2 ⟨(x - 32).toNat, List.mem_range.2 (by omega), by omega⟩
def okX (fo : Bool) (x : Int) : Bool := ((mapO fo x).all fun y => decide (32 ≤ y ∧ y ≤ 126)) && decide (dbl (mapO fo x) = (spx x).flatMap (mapO fo)) && decide (mapO true (up x) = mapO true x) && decide ((mapO fo x).length ≤ 1)
theorem okX_f : (rng.all (okX false)) = true := by kernel_rfl
theorem okX_t : (rng.all (okX true)) = true := by kernel_rfl
theorem okX_any (fo : Bool) {x : Int} (h0 : 32 ≤ x) (h1 : x < 128) : (∀ y, y ∈ mapO fo x → 32 ≤ y ∧ y ≤ 126) ∧ dbl (mapO fo x) = (spx x).flatMap (mapO fo) ∧ mapO true (up x) = mapO true x ∧ (mapO fo x).length ≤ 1 := by
  have h : okX fo x = true := by
    cases fo
    · exact List.all_eq_true.1 okX_f x (mem_rng h0 h1)
    · exact List.all_eq_true.1 okX_t x (mem_rng h0 h1)
  simp only [okX, Bool.and_eq_true, decide_eq_true_eq] at h
  obtain ⟨⟨⟨a, b⟩, c⟩, d⟩ := h
  exact ⟨fun y hy => by simpa using List.all_eq_true.1 a y hy, b, c, d⟩
def okY (y : Int) : Bool := decide (cls y = 0) && fitB y && !mk11 y
theorem okY_all : (((List.range 95).map fun (n : Nat) => (n : Int) + 32).all okY) = true := by kernel_rfl
theorem okY_any {y : Int} (h0 : 32 ≤ y) (h1 : y ≤ 126) : cls y = 0 ∧ fitB y = true ∧ mk11 y = false := by
  have h := List.all_eq_true.1 okY_all y (List.mem_map.2 ⟨(y - 32).toNat, List.mem_range.2 (by omega), by omega⟩)
  simp only [okY, Bool.and_eq_true, decide_eq_true_eq, Bool.not_eq_true'] at h
  exact ⟨h.1.1, h.1.2, h.2⟩

theorem dbl_append (a b : List Int) : dbl (a ++ b) = dbl a ++ dbl b := by simp [dbl]
theorem map_prn (fo : Bool) {l : List Int} (h : Asc l) : Prn (mapL fo l) := fun y hy => by
  obtain ⟨x, hx, hy'⟩ := List.mem_flatMap.1 hy
  exact (okX_any fo (h x hx).1 (h x hx).2).1 y hy'
theorem map_len (fo : Bool) {l : List Int} (h : Asc l) : (mapL fo l).length ≤ l.length := by
  induction l with
  | nil => simp [mapL]
  | cons x l ih =>
    have h1 := (okX_any fo (h x (by simp)).1 (h x (by simp)).2).2.2.2
    have h2 := ih fun y hy => h y (by simp [hy])
    unfold mapL at h2 ⊢
    rw [List.flatMap_cons, List.length_append, List.length_cons]
    omega
theorem map_spx (fo : Bool) : ∀ {l : List Int}, Asc l → mapL fo (l.flatMap spx) = dbl (mapL fo l)
  | [], _ => rfl
  | x :: l, h => by
    have h1 := (okX_any fo (h x (by simp)).1 (h x (by simp)).2).2.1
    have h2 := map_spx fo (l := l) fun y hy => h y (by simp [hy])
    unfold mapL at h2 ⊢
    rw [List.flatMap_cons, List.flatMap_append, List.flatMap_cons, dbl_append, h1, h2]
theorem mapO_ad (fo : Bool) : mapO fo 173 = [] := by cases fo <;> kernel_rfl
theorem mapO_zw (fo : Bool) : mapO fo 8203 = [] := by cases fo <;> kernel_rfl
theorem map_sp (fo : Bool) {l : List Int} (h : Asc l) : mapL fo (spL l) = dbl (mapL fo l) := by
  rw [← map_spx fo h]
  unfold mapL spL
  rw [List.flatMap_cons, List.flatMap_append, List.flatMap_cons, List.flatMap_nil, mapO_ad, mapO_zw]
  simp
theorem map_up {l : List Int} (h : Asc l) : mapL true (l.map up) = mapL true l := by
  induction l with
  | nil => rfl
  | cons x l ih =>
    have h1 := (okX_any true (h x (by simp)).1 (h x (by simp)).2).2.2.1
    have h2 := ih fun y hy => h y (by simp [hy])
    unfold mapL at h2 ⊢
    rw [List.map_cons, List.flatMap_cons, List.flatMap_cons, h1, h2]
theorem asc_up {l : List Int} (h : Asc l) : Asc (l.map up) := fun y hy => by
  obtain ⟨x, hx, rfl⟩ := List.mem_map.1 hy
  have := h x hx
  unfold up
  split <;> omega
theorem dbl_prn {m : List Int} (h : Prn m) : Prn (dbl m) := fun y hy => by
  obtain ⟨x, hx, hy'⟩ := List.mem_flatMap.1 hy
  have := h x hx
  split at hy'
  · simp at hy'; omega
  · simp at hy'; omega
theorem dbl_len (m : List Int) : (dbl m).length ≤ 2 * m.length := by
  induction m with
  | nil => simp [dbl]
  | cons x m ih =>
    unfold dbl at ih ⊢
    rw [List.flatMap_cons, List.length_append, List.length_cons]
    generalize (m.flatMap fun x => if x = 32 then [32, 32] else [x]).length = q at *
    split
    · simp only [List.length_cons, List.length_nil]; omega
    · simp only [List.length_cons, List.length_nil]; omega

/-- Printed characters of ASCII are their own normal form. -/
theorem prn_dec : ∀ {m : List Int}, Prn m → decL m = m ∧ m.all dOk = true
  | [], _ => ⟨rfl, rfl⟩
  | x :: m, h => by
    have h1 := h x (by simp)
    obtain ⟨h2, h3⟩ := prn_dec (m := m) fun y hy => h y (by simp [hy])
    have hs : selfD x = true := (selfD_iff x).2 (.inl ⟨by omega, by omega⟩)
    refine ⟨?_, ?_⟩
    · unfold decL at h2 ⊢
      rw [List.flatMap_cons, h2]
      unfold decO
      rw [if_pos hs]
      rfl
    · rw [List.all_cons, h3]
      unfold dOk
      rw [hs]
      rfl
theorem prn_ordered : ∀ {m : List Int}, Prn m → ordered cls m = true
  | [], _ => rfl
  | [_], _ => rfl
  | a :: b :: t, h => by
    have h2 := prn_ordered (m := b :: t) fun y hy => h y (List.mem_cons_of_mem _ hy)
    have hb := (okY_any (h b (by simp)).1 (h b (by simp)).2).1
    rw [ordered, h2, nxt, hb]
    simp
theorem prn_ord {m : List Int} (h : Prn m) : ordL cls Kls m = m := ord_self Kls_rise cls_in cls_nn m (prn_ordered h)
theorem prn_jB {a b : Int} (ha : 32 ≤ a ∧ a ≤ 126) : jB a b = false := by
  have : part a = 0 := by unfold part; rw [if_neg (by omega), if_neg (by omega), if_neg (by omega), if_neg (by omega)]
  unfold jB
  rw [this]
  simp
theorem prn_cgo : ∀ {m : List Int} {h : Int} (e : Bool), (32 ≤ h ∧ h ≤ 126) → Prn m → cgo h m = h :: m ∧ cok e h m = true
  | [], _, _, _, _ => ⟨rfl, rfl⟩
  | r :: m, h, e, hh, hm => by
    have hr := hm r (by simp)
    obtain ⟨h2, h3⟩ := prn_cgo (m := m) (h := r) e hr fun y hy => hm y (by simp [hy])
    have hc := (okY_any hr.1 hr.2).1
    have hj := prn_jB (b := r) hh
    rw [cgo, cok, hj, hc, h2, h3]
    simp
theorem prn_cmp {m : List Int} (h : Prn m) : cmpL m = m ∧ cmpOk m = true := by
  cases m with
  | nil => exact ⟨rfl, rfl⟩
  | cons r m =>
    have hr := h r (by simp)
    obtain ⟨h2, h3⟩ := prn_cgo (m := m) (h := r) true hr fun y hy => h y (by simp [hy])
    have hc := (okY_any hr.1 hr.2).1
    rw [cmpL, cmpOk, h2, h3, hc]
    simp
theorem prn_nf {m : List Int} (h : Prn m) (hl : m.length ≤ 400) : nfL m = m ∧ nfOk m = true := by
  obtain ⟨d1, d2⟩ := prn_dec h
  obtain ⟨c1, c2⟩ := prn_cmp h
  unfold nfL nfOk
  rw [d1, prn_ord h, c1, c2, d2]
  simp [hl]
theorem prn_chk : ∀ {m : List Int}, Prn m → chkN m = m.length
  | [], _ => rfl
  | x :: m, h => by
    have hx := h x (by simp)
    rw [chkN, (okY_any hx.1 hx.2).2.1, prn_chk fun y hy => h y (by simp [hy])]
    simp
theorem prn_chkE {m : List Int} (h : Prn m) : chkE m = 0 := by unfold chkE; rw [if_pos (prn_chk h)]

theorem prn_fre {m : List Int} (h : Prn m) : fre mk11 m = true := by
  cases m with
  | nil => rfl
  | cons x m =>
    have hx := h x (by simp)
    rw [fre, (okY_any hx.1 hx.2).2.2]
    rfl
theorem prn_sp {x : Int} {t : List Int} (h : Prn t) : sp mk11 x t = decide (x = 32) := by unfold sp; rw [prn_fre h]; simp
theorem prn_hp {x : Int} {t : List Int} (h : Prn t) : hp mk11 x t = hy x := by unfold hp; rw [prn_fre h]; simp
theorem Prn.tail {x : Int} {m : List Int} (h : Prn (x :: m)) : Prn m := fun y hy => h y (by simp [hy])
theorem dbl_cons (x : Int) (m : List Int) : dbl (x :: m) = (if x = 32 then [32, 32] else [x]) ++ dbl m := by simp [dbl]
theorem prn_cons32 {m : List Int} (h : Prn m) : Prn (32 :: m) := fun y hy => by
  rcases List.mem_cons.1 hy with rfl | hy
  · omega
  · exact h y hy
theorem num_dbl : ∀ {m : List Int}, Prn m → numL mk11 (dbl m) = numL mk11 m
  | [], _ => rfl
  | x :: m, h => by
    have ih := num_dbl h.tail
    have hd := dbl_prn h.tail
    rw [dbl_cons]
    by_cases hx : x = 32
    · subst hx
      rw [if_pos rfl]
      show numL mk11 (32 :: 32 :: dbl m) = _
      rw [numL, prn_sp (prn_cons32 hd), numL, prn_sp hd, numL, prn_sp h.tail, ih]
      simp
    · rw [if_neg hx]
      show numL mk11 (x :: dbl m) = _
      rw [numL, prn_sp hd, numL, prn_sp h.tail, ih]
theorem ph_dbl : ∀ {m : List Int}, Prn m → phL mk11 (dbl m) = phL mk11 m
  | [], _ => rfl
  | x :: m, h => by
    have ih := ph_dbl h.tail
    have hd := dbl_prn h.tail
    rw [dbl_cons]
    by_cases hx : x = 32
    · subst hx
      rw [if_pos rfl]
      show phL mk11 (32 :: 32 :: dbl m) = _
      rw [phL, prn_sp (prn_cons32 hd), phL, prn_sp hd, phL, prn_sp h.tail, ih]
      simp
    · rw [if_neg hx]
      show phL mk11 (x :: dbl m) = _
      rw [phL, prn_sp hd, prn_hp hd, phL, prn_sp h.tail, prn_hp h.tail, ih]
theorem inn_dbl : ∀ {m : List Int} (s o : Bool), Prn m → inn mk11 s o (dbl m) = inn mk11 s o m
  | [], _, _, _ => rfl
  | x :: m, s, o, h => by
    have hd := dbl_prn h.tail
    rw [dbl_cons]
    by_cases hx : x = 32
    · subst hx
      rw [if_pos rfl]
      show inn mk11 s o (32 :: 32 :: dbl m) = _
      have e1 : sp mk11 32 (32 :: dbl m) = true := by rw [prn_sp (prn_cons32 hd)]; rfl
      have e2 : sp mk11 32 (dbl m) = true := by rw [prn_sp hd]; rfl
      have e3 : sp mk11 32 m = true := by rw [prn_sp h.tail]; rfl
      rw [inn_sp e1, inn_sp e2, inn_sp e3, inn_dbl s true h.tail]
    · rw [if_neg hx]
      show inn mk11 s o (x :: dbl m) = _
      have e1 : sp mk11 x (dbl m) = false := by rw [prn_sp hd]; simpa using hx
      have e2 : sp mk11 x m = false := by rw [prn_sp h.tail]; simpa using hx
      rw [inn_no e1, inn_no e2, inn_dbl true false h.tail]
theorem val_dbl {m : List Int} (h : Prn m) : valL mk11 (dbl m) = valL mk11 m := by
  unfold valL firmL
  rw [prn_fre h, prn_fre (dbl_prn h), if_pos rfl, if_pos rfl, inn_dbl _ _ h]
theorem fr_dbl (way : Int) {m : List Int} (h : Prn m) : frL way (dbl m) = frL way m := by
  unfold frL
  rw [num_dbl h, ph_dbl h, val_dbl h]
/-- What is freed is of ASCII, and not long. -/
theorem num_prn : ∀ {m : List Int}, Prn m → Prn (numL mk11 m) ∧ (numL mk11 m).length ≤ m.length
  | [], h => ⟨h, Nat.le_refl _⟩
  | x :: m, h => by
    obtain ⟨a, b⟩ := num_prn h.tail
    rw [numL]
    split
    · exact ⟨a, by simp; omega⟩
    · refine ⟨fun y hy => ?_, by simp; omega⟩
      rcases List.mem_cons.1 hy with rfl | hy
      · exact h y (by simp)
      · exact a y hy
theorem ph_prn : ∀ {m : List Int}, Prn m → Prn (phL mk11 m) ∧ (phL mk11 m).length ≤ m.length
  | [], h => ⟨h, Nat.le_refl _⟩
  | x :: m, h => by
    obtain ⟨a, b⟩ := ph_prn h.tail
    rw [phL]
    split
    · exact ⟨a, by simp; omega⟩
    · refine ⟨fun y hy => ?_, by simp; omega⟩
      rcases List.mem_cons.1 hy with rfl | hy
      · exact h y (by simp)
      · exact a y hy
theorem inn_prn : ∀ {m : List Int} (s o : Bool), Prn m → Prn (inn mk11 s o m) ∧ (inn mk11 s o m).length ≤ 3 * m.length
  | [], _, _, h => ⟨h, Nat.le_refl _⟩
  | x :: m, s, o, h => by
    rw [inn]
    split
    · obtain ⟨a, b⟩ := inn_prn s true h.tail
      exact ⟨a, by simp; omega⟩
    · obtain ⟨a, b⟩ := inn_prn true false h.tail
      have hx := h x (by simp)
      refine ⟨fun y hy => ?_, ?_⟩
      · rcases List.mem_append.1 hy with hy | hy
        · split at hy
          · simp at hy; omega
          · cases hy
        · rcases List.mem_cons.1 hy with rfl | hy
          · exact hx
          · exact a y hy
      · rw [List.length_append, List.length_cons, List.length_cons]
        split
        · simp; omega
        · simp; omega
theorem val_prn {m : List Int} (h : Prn m) : Prn (valL mk11 m) ∧ (valL mk11 m).length ≤ 3 * m.length + 2 := by
  unfold valL firmL
  rw [prn_fre h, if_pos rfl]
  obtain ⟨a, b⟩ := inn_prn false false h
  refine ⟨fun y hy => ?_, by simp; omega⟩
  rcases List.mem_cons.1 hy with rfl | hy
  · omega
  · rcases List.mem_append.1 hy with hy | hy
    · exact a y hy
    · simp at hy; omega
theorem fr_prn (way : Int) {m : List Int} (h : Prn m) (hl : m.length ≤ 400) : Prn (frL way m) ∧ (frL way m).length ≤ 1202 ∧ frOk way m = true := by
  unfold frL frOk
  split
  · obtain ⟨a, b⟩ := num_prn h
    obtain ⟨c, d⟩ := prn_nf a (by omega)
    rw [c]
    exact ⟨a, by omega, d⟩
  · split
    · obtain ⟨a, b⟩ := ph_prn h
      obtain ⟨c, d⟩ := prn_nf a (by omega)
      rw [c]
      exact ⟨a, by omega, d⟩
    · obtain ⟨a, b⟩ := val_prn h
      exact ⟨a, by omega, rfl⟩
theorem prn_okL {m : List Int} (h : Prn m) : okL m = true := List.all_eq_true.2 fun x hx => by
  have := h x hx
  rw [isPt_iff]; omega
/-- Easy texts, by their code points. -/
theorem ru_of {s : ByteArray} {l : List Int} (h : nums s = encL l) (hok : okL l = true) : ruOk s = true ∧ ruP s = l := by
  have hsz : (encL l).length = s.size := by rw [← h, nums_length]
  obtain ⟨h1, h2⟩ := run_enc l hok s.size (by omega)
  have hok2 : ruOk s = true := by unfold ruOk; rw [h, h2, hsz]; simp
  refine ⟨hok2, ?_⟩
  unfold ruP
  rw [hok2, if_pos rfl, h, h1]
theorem easy_of {way : Int} {s : ByteArray} {l m : List Int} (h : nums s = encL l) (hok : okL l = true) (hs : s.size ≤ 1202) (hm : mapL (foW way) l = m) (hp : Prn m) (hl : m.length ≤ 400) : Ez way s ∧ vE way s = 0 ∧ vS way s = encS (frL way m) := by
  obtain ⟨h1, h2⟩ := ru_of h hok
  obtain ⟨n1, n2⟩ := prn_nf hp hl
  obtain ⟨f1, f2, f3⟩ := fr_prn way hp hl
  have hn : nnL way (ruP s) = m := by unfold nnL; rw [h2, hm, n1]
  have hc := prn_chkE hp
  refine ⟨⟨hs, h1, ?_, by rw [hn]; omega⟩, ?_, ?_⟩
  · unfold stOk
    rw [hn, h2, hm, n2, f3]
    simp; omega
  · unfold vE
    rw [hn, hc, if_pos rfl]
    unfold encE
    rw [prn_okL f1]
    rfl
  · unfold vS
    rw [hn, hc, if_pos rfl]
theorem asc_enc {l : List Int} (h : Asc l) : encL l = l ∧ okL l = true := by
  induction l with
  | nil => exact ⟨rfl, rfl⟩
  | cons x l ih =>
    obtain ⟨a, b⟩ := ih fun y hy => h y (by simp [hy])
    have hx := h x (by simp)
    refine ⟨?_, ?_⟩
    · rw [encL, a, enc1, if_pos (by omega)]; rfl
    · unfold okL at b ⊢
      rw [List.all_cons, b, show isPt x = true by rw [isPt_iff]; omega]
      rfl
theorem spL_ok {l : List Int} (h : Asc l) : okL (spL l) = true := by
  refine List.all_eq_true.2 fun y hy => ?_
  rw [isPt_iff]
  unfold spL at hy
  rcases List.mem_cons.1 hy with rfl | hy
  · omega
  · rcases List.mem_append.1 hy with hy | hy
    · obtain ⟨x, hx, hy'⟩ := List.mem_flatMap.1 hy
      have := h x hx
      unfold spx at hy'
      split at hy'
      · simp at hy'; omega
      · simp at hy'; omega
    · simp at hy; omega
/-- A text of ASCII, and what it is with other spaces: the same, prepared. -/
theorem easy_asc (way : Int) {s : ByteArray} (h : Asc (nums s)) (hs : s.size ≤ 150) : Ez way s ∧ vE way s = 0 ∧ vS way s = encS (frL way (mapL (foW way) (nums s))) := by
  obtain ⟨a, b⟩ := asc_enc h
  have hl := map_len (foW way) h
  rw [nums_length] at hl
  exact easy_of (by rw [a]) b (by omega) rfl (map_prn _ h) (by omega)
theorem easy_sp (way : Int) {s t : ByteArray} (h : Asc (nums s)) (hs : s.size ≤ 150) (ht : nums t = encL (spL (nums s))) : Ez way t ∧ vE way t = 0 ∧ vS way t = encS (frL way (mapL (foW way) (nums s))) := by
  have hl := map_len (foW way) h
  rw [nums_length] at hl
  have hd := dbl_len (mapL (foW way) (nums s))
  have hsz : t.size ≤ 1202 := by
    rw [← nums_length, ht]
    have h1 : ∀ l : List Int, (encL (l.flatMap spx)).length ≤ 5 * l.length := fun l => by
      induction l with
      | nil => simp [encL]
      | cons x l ih =>
        have h2 : (encL (spx x)).length ≤ 5 := by
          unfold spx
          split
          · exact Nat.le_refl 5
          · have := enc1_bound x
            simp only [encL, List.append_nil]
            omega
        rw [List.flatMap_cons, encL_append, List.length_append, List.length_cons]
        omega
    have h4 := h1 (nums s)
    have h5 := enc1_bound 173
    have h6 := enc1_bound 8203
    rw [nums_length] at h4
    unfold spL
    rw [encL, encL_append, List.length_append, List.length_append]
    simp only [encL, List.append_nil]
    omega
  rw [← fr_dbl way (map_prn (foW way) h)]
  exact easy_of ht (spL_ok h) hsz (map_sp _ h) (dbl_prn (map_prn _ h)) (by omega)
end Go.Proofs.YticgeabmhmojfaaGreatDoor
/- The law's own spaced and upper. -/
namespace Go.Proofs.YticgeabmhmojfaaGreatDoor
set_option maxRecDepth 100000
open Go.RowKit

theorem nums_app12 (s t : ByteArray) : nums (s ++ t) = nums s ++ nums t := by
  unfold nums
  simp
/-- The bytes of a text with other spaces. -/
def spb (x : Int) : List Int := if x = 32 then [194, 160, 226, 128, 131] else [x]
def spB (l : List Int) : List Int := [194, 173] ++ l.flatMap spb
theorem spB_snoc (l : List Int) (x : Int) : spB (l ++ [x]) = spB l ++ spb x := by simp [spB]
theorem spB_enc {l : List Int} (h : Asc l) : spB l ++ [226, 128, 139] = encL (spL l) := by
  have h1 : encL (l.flatMap spx) = l.flatMap spb := by
    induction l with
    | nil => rfl
    | cons x l ih =>
      have hx := h x (by simp)
      rw [List.flatMap_cons, encL_append, ih fun y hy => h y (by simp [hy]), List.flatMap_cons]
      congr 1
      unfold spx spb
      split
      · rfl
      · rw [encL, enc1, if_pos (by omega)]; rfl
  unfold spL spB
  rw [encL, encL_append, h1]
  rfl
theorem spB_len (l : List Int) : (spB l).length ≤ 5 * l.length + 2 := by
  have h : (l.flatMap spb).length ≤ 5 * l.length := by
    induction l with
    | nil => simp
    | cons x l ih =>
      rw [List.flatMap_cons, List.length_append, List.length_cons]
      have : (spb x).length ≤ 5 := by unfold spb; split <;> simp
      omega
  unfold spB
  rw [List.length_append]
  simp only [List.length_cons, List.length_nil]
  omega
theorem size_of {t : ByteArray} {l : List Int} (h : nums t = spB l) : t.size ≤ 5 * l.length + 2 := by
  rw [← nums_length, h]; exact spB_len l
set_option maxHeartbeats 1000000 in
theorem spaced_any (s : ByteArray) (w : World) (hs : s.size ≤ 1000) : Calls Tryz.prog 6 #[.string s] w fun e w' => ∃ t, e = .returned (.string t) ∧ nums t = spB (nums s) ++ [226, 128, 139] ∧ w = w' := by
  go_enter Tryz.func6, Tryz.ntmps6
  go_wp2
  go_loop [3, 4] (fun v i => ∃ (k : Nat) (t : ByteArray), k ≤ s.size ∧ i = .int .i64 (k : Int) ∧ v = .string t ∧ Hid (nums t = spB ((nums s).take k))) (fun _ i => s.size - (intOf i).toNat)
  case atStart => exact ⟨0, _, Nat.zero_le _, rfl, rfl, rfl⟩
  case round =>
    obtain ⟨k, t, hk, rfl, rfl, HT⟩ := hrel
    have hts : t.size ≤ 5002 := by
      have h1 := size_of (unhide HT)
      have h2 : ((nums s).take k).length ≤ s.size := by rw [List.length_take, nums_length]; exact Nat.min_le_right _ _
      omega
    by_cases hlt : k < s.size
    · have hzl : (k : Int) < (s.size : Int) := by omega
      have hz0 : (0 : Int) ≤ (k : Int) := by omega
      have hat := nums_at s k hlt
      have hsn : Hid ((nums s).take (k + 1) = (nums s).take k ++ [(s[k].toNat : Int)]) := by
        show _ = _
        rw [take_snoc (nums s) k (by rw [nums_length]; exact hlt), hat]
      have hex : Hid (nums (s.extract k (k + 1)) = [(s[k].toNat : Int)]) := by
        show _ = _
        rw [nums_extract, show k + 1 - k = 1 by omega, ← hat, drop_getD12 (nums s) 0 k (by rw [nums_length]; exact hlt)]
        rfl
      clear hat
      by_cases hx : (s[k].toNat : Int) = 32
      · have hxz : ((s[k].toNat : Int) == 32) = true := by simpa using hx
        have HS : Hid (nums (t ++ ⟨#[194, 160, 226, 128, 131]⟩) = spB ((nums s).take (k + 1))) := by
          show _ = _
          rw [nums_app12, unhide HT, unhide hsn, spB_snoc, hx]
          rfl
        have hq : t.size + 5 ≤ 9223372036854775807 := by omega
        have hq2 : t.size + (⟨#[194, 160, 226, 128, 131]⟩ : ByteArray).size ≤ 9223372036854775807 := hq
        clear hx hex hsn HT
        go_wp2
        go_round
        case rel => exact ⟨k + 1, _, by omega, by go_num, rfl, HS⟩
        case measure => simp [intOf]; omega
      · have hxz : ((s[k].toNat : Int) == 32) = false := by simpa using hx
        have HS : Hid (nums (t ++ s.extract k (k + 1)) = spB ((nums s).take (k + 1))) := by
          show _ = _
          rw [nums_app12, unhide HT, unhide hsn, spB_snoc, unhide hex, spb, if_neg hx]
        have h1 : (k : Int) + 1 ≤ (s.size : Int) := by omega
        have hes : (s.extract k (k + 1)).size = 1 := by rw [← nums_length, unhide hex]; rfl
        have hq : t.size + (s.extract k (k + 1)).size ≤ 9223372036854775807 := by omega
        clear hx hex hsn HT hes
        go_wp2
        go_round
        case rel => exact ⟨k + 1, _, by omega, by go_num, rfl, HS⟩
        case measure => simp [intOf]; omega
    · have hzl : ¬ (k : Int) < (s.size : Int) := by omega
      obtain rfl : k = s.size := by omega
      have HS : Hid (nums (t ++ ⟨#[226, 128, 139]⟩) = spB (nums s) ++ [226, 128, 139]) := by
        show _ = _
        rw [nums_app12, unhide HT, ← nums_length s, List.take_length]
        rfl
      have hq : t.size + 3 ≤ 9223372036854775807 := by omega
      have hq2 : t.size + (⟨#[226, 128, 139]⟩ : ByteArray).size ≤ 9223372036854775807 := hq
      clear HT
      go_wp2
      go_ret
      exact ⟨_, rfl, unhide HS, rfl⟩

/-- Bytes in a block, that may be written. -/
def Bs (g n : Nat) (L : List Int) (w : World) : Prop := L.length = n ∧ ∀ j, j < n → w.cell? ⟨g, j, none⟩ = some (.int .u8 (L.getD j 0)) ∧ w.frozen? ⟨g, j, none⟩ = false
theorem Bs.set {g n : Nat} {L : List Int} {w : World} (h : Bs g n L w) (k : Nat) (hk : k < n) (z : Int) : Bs g n (L.set k z) (w.setCell ⟨g, k, none⟩ (.int .u8 z)) := by
  obtain ⟨h0, h1⟩ := h
  refine ⟨by rw [List.length_set]; exact h0, fun j hj => ⟨?_, ?_⟩⟩
  · by_cases e : j = k
    · subst e
      rw [World.cell?_setCell_same (h := (h1 j hj).1)]
      simp [List.getD, h0, hj]
    · rw [World.cell?_setCell_other (h := by intro he; injection he with _ he2 _; exact e he2.symm), (h1 j hj).1]
      simp [List.getD, List.getElem?_set_ne (Ne.symm e)]
  · rw [World.frozen?_setCell]
    exact (h1 j hj).2
theorem bs_new (t : ByteArray) (w : World) : ∃ (w1 : World) (cap1 : Nat), (convert 9 34 (.string t)).run Tryz.prog w = .ok (.slice (some ⟨w.heap.size, 0, none⟩) t.size cap1) w1 ∧ Bs w.heap.size t.size (nums t) w1 ∧ Below w.heap.size w w1 := by
  refine ⟨_, _, run_bytes_of_string w 9 34 5 t Tryz.underlying9 Tryz.underlying34 Tryz.underlying5, ⟨nums_length t, fun j hj => ⟨?_, ?_⟩⟩, ((Below.refl _ _).drew).alloc (Nat.le_refl _) _⟩
  · have := World.cell?_alloc_mark w.drew (bytesRow t (grownCap w t.size 0 5)) 5 ((bytesRow t (grownCap w t.size 0 5)).size, (bytesRow t (grownCap w t.size 0 5)).size + 1) j
    refine this.trans ?_
    rw [bytesRow_at t _ j (by simpa using hj), nums_at t j hj]
    rfl
  · have hsz : t.size ≤ (bytesRow t (grownCap w t.size 0 5)).size := by unfold bytesRow; simp
    unfold World.frozen?
    rw [show (w.drew.alloc (.cells (bytesRow t (grownCap w t.size 0 5)) 5 ((bytesRow t (grownCap w t.size 0 5)).size, (bytesRow t (grownCap w t.size 0 5)).size + 1))).heap[w.heap.size]? = some _ from heap_new w.drew _]
    dsimp only
    simp; omega
theorem up_step (l : List Int) (k : Nat) (h : k < l.length) (z : Int) (hz : z = up (l.getD k 0)) : ((l.take k).map up ++ l.drop k).set k z = (l.take (k + 1)).map up ++ l.drop (k + 1) := by
  have h1 : ((l.take k).map up).length = k := by simp; omega
  rw [take_snoc l k h, List.map_append, drop_getD12 l 0 k h, List.set_append_right _ _ (by omega), h1, hz]
  simp
theorem up_at (l : List Int) (k : Nat) (h : k < l.length) : ((l.take k).map up ++ l.drop k).getD k 0 = l.getD k 0 := by
  have h1 : ((l.take k).map up).length = k := by simp; omega
  rw [List.getD_eq_getElem?_getD, List.getElem?_append_right (by omega), h1]
  simp [List.getD]
theorem up_keep (l : List Int) (k : Nat) (h : k < l.length) (hz : l.getD k 0 = up (l.getD k 0)) : (l.take k).map up ++ l.drop k = (l.take (k + 1)).map up ++ l.drop (k + 1) := by
  rw [take_snoc l k h, List.map_append, drop_getD12 l 0 k h, List.map_cons, ← hz]
  simp
set_option maxHeartbeats 1000000 in
theorem upS_any (s : ByteArray) (w : World) (hs : s.size ≤ 1000) : Calls Tryz.prog 7 #[.string s] w fun e w' => e = .returned (.string (strOfNums ((nums s).map up))) ∧ Below w.heap.size w w' := by
  obtain ⟨w1, cap1, hcv, hbs, hb1⟩ := bs_new s w
  have HBS := hide hbs
  have HBD := hide (nums_bound s)
  clear hbs
  go_enter Tryz.func7, Tryz.ntmps7
  go_wp2
  go_loopw [4] (fun i wr => ∃ k : Nat, k ≤ s.size ∧ i = .int .i64 (k : Int) ∧ Bs w.heap.size s.size (((nums s).take k).map up ++ (nums s).drop k) wr ∧ Below w.heap.size w wr) (fun i _ => s.size - (intOf i).toNat)
  case atStart => exact ⟨0, Nat.zero_le _, rfl, unhide HBS, hb1⟩
  case round =>
    clear HBS
    obtain ⟨k, hk, rfl, hb, hbw⟩ := hrel
    by_cases hlt : k < s.size
    · have hzl : (k : Int) < (s.size : Int) := by omega
      have hz0 : (0 : Int) ≤ (k : Int) := by omega
      have hlen : k < (nums s).length := by rw [nums_length]; exact hlt
      obtain ⟨c1, f1⟩ := hb.2 k hlt
      rw [up_at (nums s) k hlen] at c1
      have hx0 : 0 ≤ (nums s).getD k 0 ∧ (nums s).getD k 0 < 256 := unhide HBD _ (by simp [List.getD, hlen])
      have HU := hide (up_step (nums s) k hlen)
      have HK := hide (up_keep (nums s) k hlen)
      have HB := hide hb
      clear hb
      generalize (nums s).getD k 0 = x at *
      obtain ⟨hx0, hx1⟩ := hx0
      by_cases h1 : 97 ≤ x
      · by_cases h2 : x ≤ 122
        · have hu : up x = x - 32 := by unfold up; rw [if_pos ⟨h1, h2⟩]
          have HU2 := hide (unhide HU (x - 32) hu.symm)
          clear HU HK hu
          have e1 : IntKind.u8.wrap (x - 32) = x - 32 := by rw [IntKind.wrap_u8']; omega
          go_wp2
          go_roundw
          case rel => exact ⟨k + 1, by omega, by go_num, by rw [← unhide HU2]; exact (unhide HB).set k hlt (x - 32), hbw.setCell (p := ⟨w.heap.size, k, none⟩) (Nat.le_refl _) _⟩
          case measure => simp [intOf]; omega
        · have hu : x = up x := by unfold up; rw [if_neg (by omega)]
          have HK2 := hide (unhide HK hu)
          clear HU HK hu
          go_wp2
          go_roundw
          case rel => exact ⟨k + 1, by omega, by go_num, by rw [← unhide HK2]; exact unhide HB, hbw⟩
          case measure => simp [intOf]; omega
      · have hu : x = up x := by unfold up; rw [if_neg (by omega)]
        have HK2 := hide (unhide HK hu)
        have z1 : decide (97 ≤ x) = false := by simpa using h1
        clear HU HK hu
        go_wp2
        go_roundw
        case rel => exact ⟨k + 1, by omega, by go_num, by rw [← unhide HK2]; exact unhide HB, hbw⟩
        case measure => simp [intOf]; omega
    · have hzl : ¬ (k : Int) < (s.size : Int) := by omega
      obtain rfl : k = s.size := by omega
      have e1 : ((nums s).take s.size).map up ++ (nums s).drop s.size = (nums s).map up := by rw [← nums_length s, List.take_length, List.drop_length, List.append_nil]
      rw [e1] at hb
      have hl : ((nums s).map up).length = s.size := by rw [List.length_map, nums_length]
      have hcv2 := run_convert_bytes_arg wr 34 5 Tryz.underlying34 Tryz.underlying5 w.heap.size 0 s.size cap1 ((nums s).map up) hl (fun i hi => by rw [Nat.zero_add]; exact (hb.2 i hi).1) 9 Tryz.underlying9
      clear hb hl e1
      go_wp2
      go_ret
      exact ⟨rfl, hbw⟩
end Go.Proofs.YticgeabmhmojfaaGreatDoor
/- awake, and the law PrepSame. -/
namespace Go.Proofs.YticgeabmhmojfaaGreatDoor
set_option maxRecDepth 100000
open Go.RowKit

def aw1 : ByteArray := ⟨#[70, 117, 195, 159, 103, 195, 132, 110, 103, 101, 114, 194, 160, 32, 90, 111, 110, 101]⟩
def aw2 : ByteArray := ⟨#[239, 172, 129]⟩
def aw3 : ByteArray := ⟨#[49, 32, 50]⟩
def aw4 : ByteArray := ⟨#[238, 128, 128]⟩
def aw5 : ByteArray := ⟨#[43, 49, 32, 50, 45, 51]⟩
def aw6 : ByteArray := ⟨#[43, 49, 50, 51]⟩
def aw7 : ByteArray := ⟨#[32, 97, 32]⟩
def aw8 : ByteArray := ⟨#[97]⟩
theorem aw1_ru : ruP aw1 = [70, 117, 223, 103, 196, 110, 103, 101, 114, 160, 32, 90, 111, 110, 101] := by kernel_rfl
theorem aw1_nn : nnL 2 [70, 117, 223, 103, 196, 110, 103, 101, 114, 160, 32, 90, 111, 110, 101] = [102, 117, 115, 115, 103, 228, 110, 103, 101, 114, 32, 32, 122, 111, 110, 101] := by kernel_rfl
theorem aw1_st : stOk 2 [70, 117, 223, 103, 196, 110, 103, 101, 114, 160, 32, 90, 111, 110, 101] = true := by kernel_rfl
theorem aw1_ez : Ez 2 aw1 ∧ vE 2 aw1 = 0 ∧ vS 2 aw1 = ⟨#[32, 102, 117, 115, 115, 103, 195, 164, 110, 103, 101, 114, 32, 32, 122, 111, 110, 101, 32]⟩ := by
  refine ⟨⟨by decide, by kernel_rfl, by rw [aw1_ru]; exact aw1_st, by rw [aw1_ru, aw1_nn]; decide⟩, ?_, ?_⟩
  · unfold vE; rw [aw1_ru, aw1_nn]; kernel_rfl
  · unfold vS; rw [aw1_ru, aw1_nn]; kernel_rfl
theorem aw2_ru : ruP aw2 = [64257] := by kernel_rfl
theorem aw2_ez : Ez 1 aw2 ∧ vE 1 aw2 = 0 ∧ vS 1 aw2 = ⟨#[32, 102, 105, 32]⟩ := by
  refine ⟨⟨by decide, by kernel_rfl, by rw [aw2_ru]; kernel_rfl, by rw [aw2_ru]; decide +kernel⟩, ?_, ?_⟩
  · unfold vE; rw [aw2_ru]; kernel_rfl
  · unfold vS; rw [aw2_ru]; kernel_rfl
theorem aw3_ru : ruP aw3 = [49, 32, 50] := by kernel_rfl
theorem aw3_ez : Ez 3 aw3 ∧ vE 3 aw3 = 0 ∧ vS 3 aw3 = ⟨#[49, 50]⟩ := by
  refine ⟨⟨by decide, by kernel_rfl, by rw [aw3_ru]; kernel_rfl, by rw [aw3_ru]; decide +kernel⟩, ?_, ?_⟩
  · unfold vE; rw [aw3_ru]; kernel_rfl
  · unfold vS; rw [aw3_ru]; kernel_rfl
theorem aw4_ru : ruP aw4 = [57344] := by kernel_rfl
theorem aw4_ez : Ez 2 aw4 ∧ vE 2 aw4 = 30 ∧ vS 2 aw4 = ⟨#[]⟩ := by
  refine ⟨⟨by decide, by kernel_rfl, by rw [aw4_ru]; kernel_rfl, by rw [aw4_ru]; decide +kernel⟩, ?_, ?_⟩
  · unfold vE; rw [aw4_ru]; kernel_rfl
  · unfold vS; rw [aw4_ru]; kernel_rfl
theorem aw5_ez : Ez 4 aw5 ∧ vE 4 aw5 = 0 ∧ vS 4 aw5 = aw6 := by
  have h : ruP aw5 = [43, 49, 32, 50, 45, 51] := by kernel_rfl
  refine ⟨⟨by decide, by kernel_rfl, by rw [h]; kernel_rfl, by rw [h]; decide +kernel⟩, ?_, ?_⟩
  · unfold vE; rw [h]; kernel_rfl
  · unfold vS; rw [h]; kernel_rfl
theorem aw6_ez : Ez 4 aw6 ∧ vE 4 aw6 = 0 ∧ vS 4 aw6 = aw6 := by
  have h : ruP aw6 = [43, 49, 50, 51] := by kernel_rfl
  refine ⟨⟨by decide, by kernel_rfl, by rw [h]; kernel_rfl, by rw [h]; decide +kernel⟩, ?_, ?_⟩
  · unfold vE; rw [h]; kernel_rfl
  · unfold vS; rw [h]; kernel_rfl
theorem aw7_ez : Ez 2 aw7 ∧ vE 2 aw7 = 0 ∧ vS 2 aw7 = aw7 := by
  have h : ruP aw7 = [32, 97, 32] := by kernel_rfl
  refine ⟨⟨by decide, by kernel_rfl, by rw [h]; kernel_rfl, by rw [h]; decide +kernel⟩, ?_, ?_⟩
  · unfold vE; rw [h]; kernel_rfl
  · unfold vS; rw [h]; kernel_rfl
theorem aw8_ez : Ez 2 aw8 ∧ vE 2 aw8 = 0 ∧ vS 2 aw8 = aw7 := by
  have h : ruP aw8 = [97] := by kernel_rfl
  refine ⟨⟨by decide, by kernel_rfl, by rw [h]; kernel_rfl, by rw [h]; decide +kernel⟩, ?_, ?_⟩
  · unfold vE; rw [h]; kernel_rfl
  · unfold vS; rw [h]; kernel_rfl
theorem aw78 : (aw7.toList == aw8.toList) = false := by
  rw [show aw7.toList = [32, 97, 32] from ByteArray.toList_mk [32, 97, 32], show aw8.toList = [97] from ByteArray.toList_mk [97]]
  rfl
end Go.Proofs.YticgeabmhmojfaaGreatDoor
