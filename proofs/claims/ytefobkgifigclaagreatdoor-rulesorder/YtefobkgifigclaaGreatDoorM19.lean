/- nfkc.Runes; prep's known, folds, freed, Steps. -/
import Derived.Test.YtefobkgifigclaaGreatDoorM18
import Derived.Test.YtefobkgifigclaaGreatDoorM10
import Derived.Test.YtefobkgifigclaaGreatDoorM04
import Derived.Test.YtefobkgifigclaaGreatDoorM06
import Derived.Test.YtefobkgifigclaaGreatDoorM11
import Derived.Test.YtefobkgifigclaaGreatDoorM14
namespace Go.Proofs.YtefobkgifigclaaGreatDoor
set_option maxRecDepth 100000
open Go.RowKit

/-- The loose normal form, plainly, and whether it is told here. -/
def nfL (l : List Int) : List Int := cmpL (ordL cls Kls (decL l))
def nfOk (l : List Int) : Bool := decide (l.length ≤ 400) && l.all dOk && cmpOk (ordL cls Kls (decL l))
theorem decL_len (l : List Int) : (decL l).length ≤ 2 * l.length := by
  have := decL_takeLen l l.length
  rwa [List.take_length] at this
set_option maxHeartbeats 1000000 in
theorem nf_any (v : Value) (l : List Int) (w : World) (hL : L12 w) (hok : nfOk l = true) (hR : Row w v l) :
    Calls Tryz.prog 122 #[.bool true, v] w fun e w' => ∃ v, e = .returned v ∧ Rn w.heap.size v (nfL l) w' ∧ Below w.heap.size w w' := by
  simp only [nfOk, Bool.and_eq_true, decide_eq_true_eq] at hok
  obtain ⟨⟨hlen, hd⟩, hc⟩ := hok
  have hd' : ∀ x, x ∈ l → dOk x = true := fun x hx => List.all_eq_true.1 hd x hx
  have hl2 := decL_len l
  have hl3 : (ordL cls Kls (decL l)).length = (decL l).length := ord_len Kls_rise cls_in (decL l)
  have H1 := hide (dall_any v l w hL (by omega) hd' hR)
  have H2 := hide (fun v W hv => aord_any v (decL l) W trivial (by omega) hv)
  have H3 := hide (fun v W hW hv => call_any12 v (ordL cls Kls (decL l)) W hW (by omega) hc hv)
  have HL := hide hL
  unfold nfL
  clear hd hd' hc hl2 hl3 hL hR
  generalize cmpL (ordL cls Kls (decL l)) = r3 at *
  generalize ordL cls Kls (decL l) = r2 at *
  generalize decL l = r1 at *
  go_enter Tryz.func122, Tryz.ntmps122
  go_wp2_with (first
    | (go_at_call 160; refine (unhide H3 _ _ (unhide HL2) (unhide R2)).mono ?_; rintro e w3 ⟨v3, rfl, o3, b3⟩)
    | (go_at_call 159; refine (unhide H2 _ _ (unhide R1)).mono ?_; rintro e w2 ⟨v2, rfl, q2, b2⟩; have R2 := hide q2; clear q2; have hb2 := b1.trans (b2.mono b1.size); have HL2 := hide ((unhide HL).keep hb2))
    | (go_at_call 158; refine (unhide H1).mono ?_; rintro e w1 ⟨v1, rfl, q1, b1⟩; have R1 := hide q1; clear q1))
  go_ret
  exact ⟨_, rfl, Rn.base o3 hb2.size, hb2.trans (b3.mono hb2.size)⟩

set_option maxHeartbeats 400000 in
theorem known_yes (way : Int) (w : World) (h0 : 1 ≤ way) (h1 : way ≤ 4) : Calls Tryz.prog 87 #[.int .i64 way] w fun e w' => e = .returned (.bool true) ∧ w = w' := by
  go_enter Tryz.func87, Tryz.ntmps87
  go_wp2
  go_ret
  exact ⟨rfl, rfl⟩
/-- Are great and small letters the same? -/
def foW (way : Int) : Bool := decide (way = 2 ∨ way = 4)
set_option maxHeartbeats 400000 in
theorem folds_any (way : Int) (w : World) (h0 : 1 ≤ way) (h1 : way ≤ 4) : Calls Tryz.prog 121 #[.int .i64 way] w fun e w' => e = .returned (.bool (foW way)) ∧ w = w' := by
  have hw : way = 1 ∨ way = 2 ∨ way = 3 ∨ way = 4 := by omega
  rcases hw with rfl | rfl | rfl | rfl
  all_goals
    go_enter Tryz.func121, Tryz.ntmps121
    go_wp2
    go_ret
    exact ⟨rfl, rfl⟩

/-- freed, plainly, and whether it is told here. -/
def frL (way : Int) (n : List Int) : List Int := if way = 3 then nfL (numL mk11 n) else if way = 4 then nfL (phL mk11 n) else valL mk11 n
def frOk (way : Int) (n : List Int) : Bool := if way = 3 then nfOk (numL mk11 n) else if way = 4 then nfOk (phL mk11 n) else true
set_option maxHeartbeats 1000000 in
theorem freed_any (way : Int) (v : Value) (n : List Int) (w : World) (hL : L12 w) (h0 : 1 ≤ way) (h1 : way ≤ 4) (hlen : n.length ≤ 5000) (hok : frOk way n = true) (hR : Row w v n) (hF : Fits v) :
    Calls Tryz.prog 124 #[.int .i64 way, v] w fun e w' => ∃ v, e = .returned v ∧ Row w' v (frL way n) ∧ Below w.heap.size w w' := by
  have hw : way = 1 ∨ way = 2 ∨ way = 3 ∨ way = 4 := by omega
  rcases hw with rfl | rfl | rfl | rfl
  · have H := hide (bval_any v n w trivial hlen hR hF)
    rw [show frL 1 n = valL mk11 n from rfl]
    generalize valL mk11 n = r at *
    clear hR hL
    go_enter Tryz.func124, Tryz.ntmps124
    go_wp2_with (go_at_call 165; refine (unhide H).mono ?_; rintro e w1 ⟨v1, rfl, q1, b1⟩)
    go_ret
    exact ⟨_, rfl, q1, b1⟩
  · have H := hide (bval_any v n w trivial hlen hR hF)
    rw [show frL 2 n = valL mk11 n from rfl]
    generalize valL mk11 n = r at *
    clear hR hL
    go_enter Tryz.func124, Tryz.ntmps124
    go_wp2_with (go_at_call 165; refine (unhide H).mono ?_; rintro e w1 ⟨v1, rfl, q1, b1⟩)
    go_ret
    exact ⟨_, rfl, q1, b1⟩
  · have H := hide (bnum_any v n w trivial (by omega) hR)
    have hok' : nfOk (numL mk11 n) = true := hok
    rw [show frL 3 n = nfL (numL mk11 n) from rfl]
    have H2 := hide (fun v W hW hv => nf_any v (numL mk11 n) W hW hok' hv)
    have HL := hide hL
    clear hok hok' hR hL
    generalize nfL (numL mk11 n) = r2 at *
    generalize numL mk11 n = r at *
    go_enter Tryz.func124, Tryz.ntmps124
    go_wp2_with (first
      | (go_at_call 122; refine (unhide H2 _ _ (unhide HL1) (unhide R1)).mono ?_; rintro e w2 ⟨v2, rfl, q2, b2⟩)
      | (go_at_call 163; refine (unhide H).mono ?_; rintro e w1 ⟨v1, rfl, q1, b1⟩; have R1 := hide q1; clear q1; have HL1 := hide ((unhide HL).keep b1)))
    go_ret
    exact ⟨_, rfl, q2.row, b1.trans (b2.mono b1.size)⟩
  · have H := hide (bph_any v n w trivial (by omega) hR)
    have hok' : nfOk (phL mk11 n) = true := hok
    rw [show frL 4 n = nfL (phL mk11 n) from rfl]
    have H2 := hide (fun v W hW hv => nf_any v (phL mk11 n) W hW hok' hv)
    have HL := hide hL
    clear hok hok' hR hL
    generalize nfL (phL mk11 n) = r2 at *
    generalize phL mk11 n = r at *
    go_enter Tryz.func124, Tryz.ntmps124
    go_wp2_with (first
      | (go_at_call 122; refine (unhide H2 _ _ (unhide HL1) (unhide R1)).mono ?_; rintro e w2 ⟨v2, rfl, q2, b2⟩)
      | (go_at_call 164; refine (unhide H).mono ?_; rintro e w1 ⟨v1, rfl, q1, b1⟩; have R1 := hide q1; clear q1; have HL1 := hide ((unhide HL).keep b1)))
    go_ret
    exact ⟨_, rfl, q2.row, b1.trans (b2.mono b1.size)⟩

/-- The first half of Steps, plainly: mapped and in the normal form. -/
def nnL (way : Int) (l : List Int) : List Int := nfL (mapL (foW way) l)
def stOk (way : Int) (l : List Int) : Bool := nfOk (mapL (foW way) l) && decide ((nnL way l).length ≤ 5000) && (decide (¬ chkE (nnL way l) = 0) || frOk way (nnL way l))
set_option maxHeartbeats 1000000 in
/-- Steps, of what is fit. -/
theorem steps_ok (way : Int) (v : Value) (l : List Int) (w : World) (hL : L12 w) (h0 : 1 ≤ way) (h1 : way ≤ 4) (hlen : l.length ≤ 5000) (hin : ∀ x, x ∈ l → In32' x) (hok : stOk way l = true) (hc : chkE (nnL way l) = 0) (hR : Row w v l) :
    Calls Tryz.prog 89 #[.int .i64 way, v] w fun e w' => ∃ v, e = .returned (.tuple #[v, .int .i64 0]) ∧ Row w' v (frL way (nnL way l)) ∧ Below w.heap.size w w' := by
  simp only [stOk, Bool.and_eq_true, decide_eq_true_eq, Bool.or_eq_true] at hok
  obtain ⟨⟨hok1, hln⟩, hok2⟩ := hok
  have hfr : frOk way (nnL way l) = true := by
    rcases hok2 with h | h
    · exact absurd hc h
    · exact h
  have HK := hide (fun W => known_yes way W h0 h1)
  have HF := hide (fun W => folds_any way W h0 h1)
  have HM := hide (fmap_any (foW way) v l w hL.st (by omega) hin hR)
  have HN := hide (fun v W hW hv => nf_any v (mapL (foW way) l) W hW hok1 hv)
  have HG := hide (fun v W hv => gcheck_any v (nnL way l) W (by omega) hv)
  have HR := hide (fun v W hW hv hf => freed_any way v (nnL way l) W hW h0 h1 hln hfr hv hf)
  rw [hc] at HG
  have e1 : nfL (mapL (foW way) l) = nnL way l := rfl
  rw [e1] at HN
  have HL := hide hL
  clear hok1 hok2 hfr hc e1 hL hR hin
  generalize foW way = fo at *
  generalize (chkN (nnL way l) : Int) = cn at *
  generalize frL way (nnL way l) = r3 at *
  generalize nnL way l = r2 at *
  generalize mapL fo l = r1 at *
  go_enter Tryz.func89, Tryz.ntmps89
  go_wp2_with (first
    | (go_at_call 124; refine (unhide HR _ _ (unhide HL3) (unhide R3) (unhide F2)).mono ?_; rintro e w4 ⟨v4, rfl, q4, b4⟩)
    | (go_at_call 123; refine (unhide HG _ _ (unhide R2)).mono ?_; rintro e w3 ⟨rfl, b3⟩; have R3 := hide ((unhide R2).below b3); have hb3 := hb2.trans (b3.mono hb2.size); have HL3 := hide ((unhide HL).keep hb3))
    | (go_at_call 122; refine (unhide HN _ _ (unhide HL1) (unhide R1)).mono ?_; rintro e w2 ⟨v2, rfl, q2, b2⟩; have R2 := hide q2.row; have F2 := hide q2.fits; clear q2; have hb2 := b1.trans (b2.mono b1.size))
    | (go_at_call 120; refine (unhide HM).mono ?_; rintro e w1 ⟨v1, rfl, q1, b1⟩; have R1 := hide q1; clear q1; have HL1 := hide ((unhide HL).keep b1))
    | (go_at_call 121; refine (unhide HF _).mono ?_; rintro e wf ⟨rfl, rfl⟩)
    | (go_at_call 87; refine (unhide HK _).mono ?_; rintro e wk ⟨rfl, rfl⟩))
  go_ret2
  exact ⟨_, rfl, q4, hb3.trans (b4.mono hb3.size)⟩
set_option maxHeartbeats 1000000 in
/-- Steps, of what is not fit. -/
theorem steps_no (way : Int) (v : Value) (l : List Int) (w : World) (hL : L12 w) (h0 : 1 ≤ way) (h1 : way ≤ 4) (hlen : l.length ≤ 5000) (hin : ∀ x, x ∈ l → In32' x) (hok : stOk way l = true) (hc : chkE (nnL way l) = 30) (hR : Row w v l) :
    Calls Tryz.prog 89 #[.int .i64 way, v] w fun e w' => e = .returned (.tuple #[.slice none 0 0, .int .i64 30]) ∧ Below w.heap.size w w' := by
  simp only [stOk, Bool.and_eq_true, decide_eq_true_eq, Bool.or_eq_true] at hok
  obtain ⟨⟨hok1, hln⟩, hok2⟩ := hok
  have HK := hide (fun W => known_yes way W h0 h1)
  have HF := hide (fun W => folds_any way W h0 h1)
  have HM := hide (fmap_any (foW way) v l w hL.st (by omega) hin hR)
  have HN := hide (fun v W hW hv => nf_any v (mapL (foW way) l) W hW hok1 hv)
  have HG := hide (fun v W hv => gcheck_any v (nnL way l) W (by omega) hv)
  rw [hc] at HG
  have e1 : nfL (mapL (foW way) l) = nnL way l := rfl
  rw [e1] at HN
  have HL := hide hL
  clear hok1 hok2 hc e1 hL hR hin
  generalize foW way = fo at *
  generalize (chkN (nnL way l) : Int) = cn at *
  generalize nnL way l = r2 at *
  generalize mapL fo l = r1 at *
  go_enter Tryz.func89, Tryz.ntmps89
  go_wp2_with (first
    | (go_at_call 123; refine (unhide HG _ _ (unhide R2)).mono ?_; rintro e w3 ⟨rfl, b3⟩; have hb3 := hb2.trans (b3.mono hb2.size))
    | (go_at_call 122; refine (unhide HN _ _ (unhide HL1) (unhide R1)).mono ?_; rintro e w2 ⟨v2, rfl, q2, b2⟩; have R2 := hide q2.row; clear q2; have hb2 := b1.trans (b2.mono b1.size))
    | (go_at_call 120; refine (unhide HM).mono ?_; rintro e w1 ⟨v1, rfl, q1, b1⟩; have R1 := hide q1; clear q1; have HL1 := hide ((unhide HL).keep b1))
    | (go_at_call 121; refine (unhide HF _).mono ?_; rintro e wf ⟨rfl, rfl⟩)
    | (go_at_call 87; refine (unhide HK _).mono ?_; rintro e wk ⟨rfl, rfl⟩))
  go_ret2
  exact ⟨rfl, hb3⟩
end Go.Proofs.YtefobkgifigclaaGreatDoor
/- prep's texts, Value, Prepared, Same: of easy texts. -/
namespace Go.Proofs.YtefobkgifigclaaGreatDoor
set_option maxRecDepth 100000
open Go.RowKit

theorem ru_in {s : ByteArray} (h : ruOk s = true) : ∀ x, x ∈ ruP s → In32' x := fun x hx => by
  have h2 := List.all_eq_true.1 (ok_back h).2 x hx
  have := isPt_lo h2
  exact ⟨by omega, by omega⟩
/-- Is a text told here? Its Value, and error. -/
structure Ez (way : Int) (s : ByteArray) : Prop where
  size : s.size ≤ 1202
  ru : ruOk s = true
  st : stOk way (ruP s) = true
  fl : (frL way (nnL way (ruP s))).length ≤ 80000
def vS (way : Int) (s : ByteArray) : ByteArray := if chkE (nnL way (ruP s)) = 0 then encS (frL way (nnL way (ruP s))) else ⟨#[]⟩
def vE (way : Int) (s : ByteArray) : Int := if chkE (nnL way (ruP s)) = 0 then encE (frL way (nnL way (ruP s))) else 30
theorem chk_cases (l : List Int) : chkE l = 0 ∨ chkE l = 30 := by unfold chkE; split <;> simp

set_option maxHeartbeats 1000000 in
theorem closure_any (bx : Nat) (way : Int) (s : ByteArray) (w : World) (hL : L12 w) (h0 : 1 ≤ way) (h1 : way ≤ 4) (hz : Ez way s) (hx : w.cell? ⟨bx, 0, none⟩ = some (.int .i64 way)) :
    Calls Tryz.prog 86 (#[.string s] ++ #[.pointer (some ⟨bx, 0, none⟩)]) w fun e w' => e = .returned (.tuple #[.string (vS way s), .int .i64 (vE way s)]) ∧ Below w.heap.size w w' := by
  obtain ⟨hs, hru, hst, hfl⟩ := hz
  have hpl := rup_len s
  have HK := hide (fun W => known_yes way W h0 h1)
  have HU := runes_any s w (by omega)
  have hE : ruE s = 0 := by unfold ruE; rw [hru]; rfl
  rw [hE] at HU
  have HUR : Hid (Calls Tryz.prog 88 #[.string s] w fun e w' => ∃ v, e = .returned (.tuple #[v, .int .i64 (ruA s), .int .i64 0]) ∧ Row w' v (ruP s) ∧ Below w.heap.size w w') :=
    HU.mono fun e w' ⟨v, he, ho, hb⟩ => ⟨v, he, Rn.row (B := w.heap.size) ho, hb⟩
  have hin := ru_in hru
  have HL := hide hL
  have hsz : ¬ (s.size : Int) > 1202 := by omega
  have hblt := cell_lt hx
  clear HU hE hru hL
  generalize ruA s = A at *
  rcases chk_cases (nnL way (ruP s)) with hc | hc
  · have HS := hide (fun v W hW hv => steps_ok way v (ruP s) W hW h0 h1 (by omega) hin hst hc hv)
    have HE := hide (fun v W hv => encode_any v (frL way (nnL way (ruP s))) W hfl hv)
    have e1 : vS way s = encS (frL way (nnL way (ruP s))) := by unfold vS; rw [if_pos hc]
    have e2 : vE way s = encE (frL way (nnL way (ruP s))) := by unfold vE; rw [if_pos hc]
    rw [e1, e2]
    clear hst hfl hc hin e1 e2 hpl
    generalize frL way (nnL way (ruP s)) = F at *
    generalize ruP s = l at *
    generalize encS F = S at *
    generalize encE F = E at *
    go_enter Tryz.func86, Tryz.ntmps86
    go_wp2_with (first
      | (go_at_call 90; refine (unhide HE _ _ (unhide R2)).mono ?_; rintro e w3 ⟨rfl, b3⟩)
      | (go_at_call 89; refine (unhide HS _ _ (unhide HL1) (unhide R1)).mono ?_; rintro e w2 ⟨v2, rfl, q2, b2⟩; have R2 := hide q2; clear q2; have hb2 := b1.trans (b2.mono b1.size))
      | (go_at_call 88; refine (unhide HUR).mono ?_; rintro e w1 ⟨v1, rfl, q1, b1⟩; have R1 := hide q1; clear q1; have HL1 := hide ((unhide HL).keep b1); have hx1 : w1.cell? ⟨bx, 0, none⟩ = some (.int .i64 way) := (b1.cell (by exact hblt)).trans hx)
      | (go_at_call 87; refine (unhide HK _).mono ?_; rintro e wk ⟨rfl, rfl⟩))
    go_ret2
    exact ⟨rfl, hb2.trans (b3.mono hb2.size)⟩
  · have HS := hide (fun v W hW hv => steps_no way v (ruP s) W hW h0 h1 (by omega) hin hst hc hv)
    have e1 : vS way s = ⟨#[]⟩ := by unfold vS; rw [if_neg (by omega)]
    have e2 : vE way s = 30 := by unfold vE; rw [if_neg (by omega)]
    rw [e1, e2]
    clear hst hfl hc hin e1 e2 hpl
    generalize ruP s = l at *
    go_enter Tryz.func86, Tryz.ntmps86
    go_wp2_with (first
      | (go_at_call 89; refine (unhide HS _ _ (unhide HL1) (unhide R1)).mono ?_; rintro e w2 ⟨rfl, b2⟩; have hb2 := b1.trans (b2.mono b1.size))
      | (go_at_call 88; refine (unhide HUR).mono ?_; rintro e w1 ⟨v1, rfl, q1, b1⟩; have R1 := hide q1; clear q1; have HL1 := hide ((unhide HL).keep b1); have hx1 : w1.cell? ⟨bx, 0, none⟩ = some (.int .i64 way) := (b1.cell (by exact hblt)).trans hx)
      | (go_at_call 87; refine (unhide HK _).mono ?_; rintro e wk ⟨rfl, rfl⟩))
    go_ret2
    exact ⟨rfl, hb2⟩

/-- The function that prepares texts. -/
def clo (bx : Nat) : Value := .func (.func 86) #[] #[.pointer (some ⟨bx, 0, none⟩)]
set_option maxHeartbeats 400000 in
theorem texts_any (way : Int) (w : World) : Calls Tryz.prog 57 #[.int .i64 way] w fun e w' => e = .returned (.func (.func 86) #[] #[.pointer (some ⟨w.heap.size, 0, none⟩)]) ∧ w' = w.alloc (.cells #[.int .i64 way] 3) := by
  have hmf : ∀ (fn : Fn) (first cap : Array Value) (w : World), (Instr.makeFunc fn first cap).run Tryz.prog w = .ok (.func fn first cap) w := fun _ _ _ _ => rfl
  go_enter Tryz.func57, Tryz.ntmps57
  go_wp2
  go_ret
  exact ⟨rfl, rfl⟩
set_option maxHeartbeats 1000000 in
theorem value_any (way : Int) (s : ByteArray) (w : World) (hL : L12 w) (h0 : 1 ≤ way) (h1 : way ≤ 4) (hz : Ez way s) :
    Calls Tryz.prog 37 #[.int .i64 way, .string s] w fun e w' => e = .returned (.tuple #[.string (vS way s), .int .i64 (vE way s)]) ∧ Below w.heap.size w w' := by
  have HT := hide (texts_any way w)
  have HC := hide (closure_any w.heap.size way s (w.alloc (.cells #[.int .i64 way] 3)) (hL.keep (Below.one _ _)) h0 h1 hz (box1 w _ _))
  have eg : ∀ args w, (callFunc 86 args).run Tryz.prog w = .ok (.enter 86 args) w := enters_of Tryz.func86 (by kernel_rfl) rfl
  clear hL hz
  generalize vS way s = S at *
  generalize vE way s = E at *
  go_enter Tryz.func37, Tryz.ntmps37
  go_wp2_with (first
    | (go_at_call 57; refine (unhide HT).mono ?_; rintro e w1 ⟨rfl, rfl⟩)
    | (refine (unhide HC).mono ?_; rintro e w2 ⟨rfl, b2⟩))
  go_ret2
  exact ⟨rfl, below_new b2⟩
end Go.Proofs.YtefobkgifigclaaGreatDoor
/- prep.Same, of easy texts that are the same, prepared. -/
namespace Go.Proofs.YtefobkgifigclaaGreatDoor
set_option maxRecDepth 100000
open Go.RowKit

/-- A slice that holds the texts ss. -/
def Strs (w : World) (v : Value) (ss : List ByteArray) : Prop :=
  ∃ b cap, v = .slice (some ⟨b, 0, none⟩) ss.length cap ∧ ∀ j, j < ss.length → w.cell? ⟨b, j, none⟩ = some (.string (ss.getD j ⟨#[]⟩))
theorem strs_new (w : World) (ss : List ByteArray) (cs : Array Value) (T : TypeId) (hcs : cs.toList = ss.map Value.string) : Strs (w.alloc (.cells cs T)) (.slice (some ⟨w.heap.size, 0, none⟩) ss.length ss.length) ss := by
  refine ⟨_, _, rfl, fun j hj => ?_⟩
  rw [World.cell?_alloc_mark]
  have : cs.toList[j]? = some (.string (ss.getD j ⟨#[]⟩)) := by rw [hcs]; simp [List.getD, hj]
  simpa using this
theorem beq_self12 (V : ByteArray) : (V.toList == V.toList) = true := by simp
end Go.Proofs.YtefobkgifigclaaGreatDoor
