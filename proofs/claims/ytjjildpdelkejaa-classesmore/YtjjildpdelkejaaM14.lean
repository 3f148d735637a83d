/- What the landed classes asks of a schema, plainly: it is what the document asks. -/
import Derived.Test.YtjjildpdelkejaaM10
import Derived.Test.YtjjildpdelkejaaM09
namespace Go.Proofs.Ytjjildpdelkejaa
open Go.RowKit

/-- Does it come to an end within so many? -/
def upE (cs : List Cl) : Nat → Cl → Bool
  | 0, _ => false
  | k + 1, a => if a.abv = te then true else match fndC cs a.abv with
    | none => false
    | some b => upE cs k b
theorem upE_up (cs : List Cl) : ∀ (k : Nat) (a : Cl), upE cs (k + 1) a = upC cs k a
  | 0, a => by
    rw [upE, upC]
    by_cases e : a.abv = te
    · rw [if_pos e, decide_eq_true e]
    · rw [if_neg e, decide_eq_false e]
      cases fndC cs a.abv <;> rfl
  | k + 1, a => by
    rw [upE, upC]
    cases hf : fndC cs a.abv with
    | none => rfl
    | some b => simp only [upE_up cs k b]
theorem upC_mono (cs : List Cl) : ∀ (k : Nat) (a : Cl), upC cs k a = true → upC cs (k + 1) a = true
  | 0, a, h => upC_stop (of_decide_eq_true h) 1
  | k + 1, a, h => by
    by_cases e : a.abv = te
    · exact upC_stop e _
    · rw [upC, if_neg e] at h ⊢
      cases hf : fndC cs a.abv with
      | none => rw [hf] at h; cases h
      | some b => rw [hf] at h; exact upC_mono cs k b h
/-- From here on nothing more comes to an end. -/
def stil (cs : List Cl) (k : Nat) : Prop := ∀ x ∈ cs, upC cs (k + 1) x = true → upC cs k x = true
theorem stil_next {cs : List Cl} {k : Nat} (h : stil cs k) : stil cs (k + 1) := fun x _ hu => by
  by_cases e : x.abv = te
  · exact upC_stop e _
  · rw [upC, if_neg e] at hu ⊢
    cases hf : fndC cs x.abv with
    | none => rw [hf] at hu; cases hu
    | some b =>
      rw [hf] at hu
      exact h b (fndC_in hf).1 hu
theorem count_lt {α : Type} {p q : α → Bool} : ∀ {l : List α} {x : α}, (∀ y ∈ l, p y = true → q y = true) → x ∈ l → p x = false → q x = true → l.countP p + 1 ≤ l.countP q
  | [], x, _, hx, _, _ => by cases hx
  | y :: t, x, h, hx, hp, hq => by
    have ht : t.countP p ≤ t.countP q := List.countP_mono_left fun z hz => h z (List.mem_cons_of_mem _ hz)
    rw [List.countP_cons, List.countP_cons]
    rcases List.mem_cons.1 hx with rfl | hx
    · rw [hp, hq]
      simp
      exact ht
    · have := count_lt (p := p) (q := q) (fun z hz => h z (List.mem_cons_of_mem _ hz)) hx hp hq
      have hy := h y (by simp)
      cases hpy : p y
      · simp; split <;> omega
      · rw [hy hpy]; simp; omega
theorem stil_or (cs : List Cl) : ∀ k, stil cs k ∨ k + 1 ≤ cs.countP (upC cs k)
  | 0 => by
    rcases Nat.eq_zero_or_pos (cs.countP (upC cs 0)) with h | h
    · left
      intro x hx hu
      have hz := List.countP_eq_zero.1 h
      by_cases e : x.abv = te
      · exact upC_stop e _
      · rw [upC, if_neg e] at hu
        cases hf : fndC cs x.abv with
        | none => rw [hf] at hu; cases hu
        | some b =>
          rw [hf] at hu
          exact absurd hu (hz b (fndC_in hf).1)
    · exact .inr h
  | k + 1 => by
    by_cases hs : stil cs k
    · exact .inl (stil_next hs)
    · right
      rcases stil_or cs k with h | h
      · exact absurd h hs
      · unfold stil at hs
        have : ∃ x, x ∈ cs ∧ upC cs (k + 1) x = true ∧ ¬ upC cs k x = true := by
          apply Classical.byContradiction
          intro hn
          exact hs fun x hx hu => Classical.byContradiction fun hq => hn ⟨x, hx, hu, hq⟩
        obtain ⟨x, hx, h1, h2⟩ := this
        have := count_lt (p := upC cs k) (q := upC cs (k + 1)) (l := cs) (fun y _ hy => upC_mono cs k y hy) hx (by simpa using h2) h1
        omega
/-- What the landed ends tells is what the document asks. -/
theorem ends_up {cs : List Cl} {c : Cl} (hc : c ∈ cs) : upE cs cs.length c = upC cs (cs.length + 1) c := by
  have h0 := List.length_pos_of_mem hc
  obtain ⟨n, hn⟩ : ∃ n, cs.length = n + 1 := ⟨cs.length - 1, by omega⟩
  rw [hn, upE_up]
  cases hu : upC cs n c
  · cases hv : upC cs (n + 1 + 1) c
    · rfl
    · exfalso
      rcases stil_or cs n with h | h
      · have := h c hc (stil_next h c hc hv)
        rw [hu] at this
        cases this
      · have hle := List.countP_le_length (p := upC cs n) (l := cs)
        have he : cs.countP (upC cs n) = cs.length := by omega
        have := List.countP_eq_length.1 he c hc
        rw [hu] at this
        cases this
  · exact (upC_mono cs _ c (upC_mono cs _ c hu)).symm
/-- Names that rise. -/
def risAt (L : List ByteArray) (i : Nat) : Bool := decide (i = 0) || lsT (L.getD (i - 1) te) (L.getD i te)
def risTo (L : List ByteArray) : Nat → Bool
  | 0 => true
  | n + 1 => risTo L n && risAt L n
def hasN (l : List Ty) (n : ByteArray) : Bool := l.any fun x => decide (x.nam = n)
def fitN (l : List Ty) (L : List ByteArray) : Bool := decide (L.length ≤ 8) && (L.all fun n => hasN l n) && risTo L L.length
theorem hasN_fnd (l : List Ty) (n : ByteArray) : hasN l n = (fndT l n).isSome := by
  unfold hasN fndT
  rw [Bool.eq_iff_iff, List.any_eq_true, List.find?_isSome]
theorem hasN_find {l : List Ty} (h : okT l = true) (n : ByteArray) : hasN l n = (findT l n).isSome := by rw [find_ok h, hasN_fnd]
theorem namTo_fit {l : List Ty} (h : okT l = true) (L : List ByteArray) : ∀ k, k ≤ L.length → namTo l L k = ((L.take k).all (fun n => hasN l n) && risTo L k)
  | 0, _ => by simp [namTo, risTo]
  | k + 1, hk => by
    have e : L.getD k te = L[k]'(by omega) := by simp [List.getD, show k < L.length by omega]
    rw [namTo, risTo, namTo_fit h L k (by omega), List.take_succ_eq_append_getElem (by omega), List.all_append]
    unfold namAt risAt
    rw [← hasN_find h, ← e]
    simp only [List.all_cons, List.all_nil, Bool.and_true]
    cases (L.take k).all (fun n => hasN l n) <;> cases risTo L k <;> cases hasN l (L.getD k te) <;> simp
theorem fitN_nam {l : List Ty} (h : okT l = true) (L : List ByteArray) : fitN l L = namT l L := by
  unfold fitN namT
  rw [namTo_fit h L _ (Nat.le_refl _), List.take_length]
  cases decide (L.length ≤ 8) <;> cases L.all (fun n => hasN l n) <;> cases risTo L L.length <;> rfl
/-- What the landed mayBe asks of one class at its place, first of all. -/
def fstC (l : List Ty) (cs : List Cl) (i : Nat) : Bool := (wrdB (nums (cs.getD i cl0).nam) && (decide (i = 0) || lsT (cs.getD (i - 1) cl0).nam (cs.getD i cl0).nam)) && (fitN l (cs.getD i cl0).mus && fitN l (cs.getD i cl0).may)
theorem okAt_fst {l : List Ty} (h : okT l = true) {cs : List Cl} {i : Nat} (hi : i < cs.length) : okAtC l cs i = (fstC l cs i && upE cs cs.length (cs.getD i cl0)) := by
  have hm : cs.getD i cl0 ∈ cs := by simp [List.getD, hi]
  unfold okAtC oneC fstC
  rw [ends_up hm, fitN_nam h, fitN_nam h]
  generalize upC cs (cs.length + 1) (cs.getD i cl0) = a
  generalize wrdB _ = b
  generalize namT l (cs.getD i cl0).mus = c
  generalize namT l (cs.getD i cl0).may = d
  generalize (decide (i = 0) || _) = e
  cases a <;> cases b <;> cases c <;> cases d <;> cases e <;> rfl
theorem okToC_all {l : List Ty} {cs : List Cl} : ∀ {n : Nat}, (∀ k, k < n → okAtC l cs k = true) → okToC l cs n = true
  | 0, _ => rfl
  | n + 1, h => by rw [okToC, okToC_all (fun k hk => h k (by omega)), h n (by omega)]; rfl
theorem okC_bad1 {l : List Ty} (h : okT l = true) {cs : List Cl} {i : Nat} (hi : i < cs.length) (hf : fstC l cs i = false) : okC l cs = false := by
  unfold okC
  rw [okToC_bad hi (by rw [okAt_fst h hi, hf]; rfl), Bool.and_false]
theorem okC_bad2 {l : List Ty} (h : okT l = true) {cs : List Cl} {i : Nat} (hi : i < cs.length) (hf : upE cs cs.length (cs.getD i cl0) = false) : okC l cs = false := by
  unfold okC
  rw [okToC_bad hi (by rw [okAt_fst h hi, hf, Bool.and_false]), Bool.and_false]
theorem okC_bad0 {l : List Ty} {cs : List Cl} (h : ¬ cs.length ≤ 12) : okC l cs = false := by
  unfold okC
  rw [decide_eq_false h, Bool.false_and]
theorem okC_good {l : List Ty} (h : okT l = true) {cs : List Cl} (h12 : cs.length ≤ 12) (h1 : ∀ i, i < cs.length → fstC l cs i = true) (h2 : ∀ i, i < cs.length → upE cs cs.length (cs.getD i cl0) = true) : okC l cs = true := by
  unfold okC
  rw [decide_eq_true h12, Bool.true_and]
  exact okToC_all fun k hk => by rw [okAt_fst h hk, h1 k hk, h2 k hk]; rfl
end Go.Proofs.Ytjjildpdelkejaa
/- The landed find and ends of layer 21. -/
namespace Go.Proofs.Ytjjildpdelkejaa
open Go.RowKit

def fcA (cs : List Cl) (n : ByteArray) : Cl := (fndC cs n).getD cl0
def fcB (cs : List Cl) (n : ByteArray) : Bool := (fndC cs n).isSome
theorem fndC_at {l : List Cl} {n : ByteArray} {k : Nat} (hk : k < l.length) (hb : ∀ j, j < k → (l.getD j cl0).nam ≠ n) (h : (l.getD k cl0).nam = n) : fndC l n = some (l.getD k cl0) := by
  induction l generalizing k with
  | nil => simp at hk
  | cons x t ih =>
    unfold fndC at ih ⊢
    cases k with
    | zero => rw [List.find?_cons_of_pos (by simpa using h)]; rfl
    | succ k =>
      have h0 : x.nam ≠ n := by simpa using hb 0 (by omega)
      rw [List.find?_cons_of_neg (by simpa using h0)]
      exact ih (by simpa using hk) (fun j hj => by simpa using hb (j + 1) (by omega)) (by simpa using h)
theorem fndC_not {l : List Cl} {n : ByteArray} (hb : ∀ j, j < l.length → (l.getD j cl0).nam ≠ n) : fndC l n = none := by
  unfold fndC
  rw [List.find?_eq_none]
  intro x hx
  obtain ⟨i, hi, rfl⟩ := List.getElem_of_mem hx
  have := hb i hi
  simpa [List.getD, hi] using this
theorem res_cellC {fn : Func} {p q : Tmp} (h : fn.results = #[.cell p 49, .tmp q]) (tmps : Array Value) (w : World) (g : Nat) (c : Cl) (a1 a2 : Option Addr) (c1 c2 l1 l2 : Nat) (hp : tmps.getD p undef = .pointer (some ⟨g, 0, none⟩)) (hg : Bc g c (.slice a1 l1 c1) (.slice a2 l2 c2) w) :
    (results fn tmps).run Try.prog w = .ok (.tuple #[.agg #[.string c.nam, .string c.abv, .bool c.bar, .slice a1 l1 c1, .slice a2 l2 c2], tmps.getD q undef]) w := by
  have hp' : tmps[p]?.getD undef = .pointer (some ⟨g, 0, none⟩) := by simpa using hp
  have hl := run_loadVar_row (P := Try.prog) w g 49 49 #[.string c.nam, .string c.abv, .bool c.bar, .slice a1 l1 c1, .slice a2 l2 c2] (0, 0) _ hg Try.underlying49 rfl (by kernel_rfl)
  simp [results, h, hp', asAddr, hl]
theorem ret_cv {a b : Cl} {p q : Bool} {u v : Value} (h : a = b) (h' : p = q) : Ending.returned (.tuple #[.agg #[.string a.nam, .string a.abv, .bool a.bar, u, v], .bool p]) = .returned (.tuple #[.agg #[.string b.nam, .string b.abv, .bool b.bar, u, v], .bool q]) := by rw [h, h']
theorem nil_ts0 (w : World) (a : Option Addr) (c : Nat) : TsV w (.slice a 0 c) [] := ⟨a, c, rfl, ⟨Nat.zero_le _, by simp⟩, fun h => absurd h (Nat.lt_irrefl 0)⟩
set_option maxHeartbeats 3200000 in
theorem cfind_at (v : Value) (cs : List Cl) (n : ByteArray) (w0 w : World) (hV : ClsV w0 v cs) (hw0 : Below w0.heap.size w0 w) : Calls Try.prog 54 #[v, .string n] w fun e w' => ∃ a1 c1 a2 c2, e = .returned (.tuple #[.agg #[.string (fcA cs n).nam, .string (fcA cs n).abv, .bool (fcA cs n).bar, .slice a1 (fcA cs n).mus.length c1, .slice a2 (fcA cs n).may.length c2], .bool (fcB cs n)]) ∧ TsV w0 (.slice a1 (fcA cs n).mus.length c1) (fcA cs n).mus ∧ TsV w0 (.slice a2 (fcA cs n).may.length c2) (fcA cs n).may ∧ Below w.heap.size w w' := by
  obtain ⟨a, cap, rfl, hn, hc⟩ := hV
  have HC := hide hc
  have hn2 : (cs.length : Int) ≤ 9223372036854775807 := by omega
  clear hc
  go_enter Try.func54, Try.ntmps54
  go_wp2
  go_loopw [10] (fun i wr => ∃ k : Nat, k ≤ cs.length ∧ i = .int .i64 (k : Int) ∧ Hid (∀ j, j < k → (cs.getD j cl0).nam ≠ n) ∧ Hid (Bc w.heap.size cl0 (.slice none 0 0) (.slice none 0 0) wr) ∧ Below w.heap.size w wr) (fun i _ => cs.length - (intOf i).toNat)
  case atStart => exact ⟨0, Nat.zero_le _, rfl, fun j hj => absurd hj (Nat.not_lt_zero _), heap_new w _, Below.one w _⟩
  case round =>
    obtain ⟨k, hk, rfl, HK, HB, hb⟩ := hrel
    have hsz := hb.size
    have hw := hw0.trans (hb.mono hw0.size)
    by_cases hlt : k < cs.length
    · have hzl : (k : Int) < (cs.length : Int) := by omega
      have hz0 : (0 : Int) ≤ (k : Int) := by omega
      obtain ⟨b, off, rfl, hcc⟩ := unhide HC (by omega)
      obtain ⟨q0, q1, q2, ⟨vm, q3, hM⟩, ⟨vy, q4, hY⟩⟩ := (hcc k hlt)
      have HM := hide hM
      have HY0 := hide hY
      obtain ⟨am, cm, rfl, _⟩ := hM
      obtain ⟨ay, cy, rfl, _⟩ := hY
      replace q0 := (hw.cell (cell_lt q0)).trans q0
      replace q1 := (hw.cell (cell_lt q1)).trans q1
      replace q2 := (hw.cell (cell_lt q2)).trans q2
      replace q3 := (hw.cell (cell_lt q3)).trans q3
      replace q4 := (hw.cell (cell_lt q4)).trans q4
      have HY : Hid ((cs.getD k cl0).nam = n → fndC cs n = some (cs.getD k cl0)) := fun h => fndC_at hlt (unhide HK) h
      have HN : Hid (¬ (cs.getD k cl0).nam = n → ∀ j, j < k + 1 → (cs.getD j cl0).nam ≠ n) := fun h j hj => by
        by_cases e : j = k
        · rw [e]; exact h
        · exact unhide HK j (by omega)
      clear hcc HC HK
      generalize cs.getD k cl0 = t at *
      have hq := txt_beq t.nam n
      have b1 : Below wr.heap.size wr (wr.alloc (.cells #[.string t.nam, .string t.abv, .bool t.bar, .slice am t.mus.length cm, .slice ay t.may.length cy] 49)) := Below.one wr _
      have HB1 := hide ((unhide HB).keep b1)
      have hb1 := hb.trans (b1.mono hsz)
      by_cases h : t.nam = n
      · rw [decide_eq_true h] at hq
        have HE := hide (unhide HY h)
        obtain ⟨c0, c1, c2, c3, c4⟩ := (unhide HB1).cells
        have f0 := (unhide HB1).free 0
        have f1 := (unhide HB1).free 1
        have f2 := (unhide HB1).free 2
        have f3 := (unhide HB1).free 3
        have f4 := (unhide HB1).free 4
        clear h HY HN HB b1
        go_wp2
        refine bodyPost_ret (res_cellC rfl _ _ w.heap.size t am ay cm cy _ _ rfl ((unhide HB1).put t _ _)) rfl ?_
        have e1 : fcA cs n = t := by unfold fcA; rw [unhide HE]; rfl
        have e2 : fcB cs n = true := by unfold fcB; rw [unhide HE]; rfl
        rw [e1, e2]
        exact ⟨am, cm, ay, cy, rfl, unhide HM, unhide HY0, putC_below hb1 (Nat.le_refl _) t _ _⟩
      · rw [decide_eq_false h] at hq
        have HK2 := hide (unhide HN h)
        clear h HY HN HB b1 HM HY0
        go_wp2
        go_roundw
        case rel => exact ⟨k + 1, by omega, by go_num, unhide HK2, unhide HB1, hb1⟩
        case measure => simp [intOf]; omega
    · have hzl : ¬ (k : Int) < (cs.length : Int) := by omega
      obtain rfl : k = cs.length := by omega
      have HE := hide (fndC_not (unhide HK))
      obtain ⟨c0, c1, c2, c3, c4⟩ := (unhide HB).cells
      have f0 := (unhide HB).free 0
      have f1 := (unhide HB).free 1
      have f2 := (unhide HB).free 2
      have f3 := (unhide HB).free 3
      have f4 := (unhide HB).free 4
      clear HK HC
      go_wp2
      refine bodyPost_ret (res_cellC rfl _ _ w.heap.size cl0 none none 0 0 _ _ rfl ((unhide HB).put cl0 _ _)) rfl ?_
      have e1 : fcA cs n = cl0 := by unfold fcA; rw [unhide HE]; rfl
      have e2 : fcB cs n = false := by unfold fcB; rw [unhide HE]; rfl
      rw [e1, e2]
      exact ⟨none, 0, none, 0, rfl, nil_ts0 _ _ _, nil_ts0 _ _ _, putC_below hb (Nat.le_refl _) cl0 _ _⟩
theorem cfind_any (v : Value) (cs : List Cl) (n : ByteArray) (w : World) (hV : ClsV w v cs) : Calls Try.prog 54 #[v, .string n] w fun e w' => ∃ a1 c1 a2 c2, e = .returned (.tuple #[.agg #[.string (fcA cs n).nam, .string (fcA cs n).abv, .bool (fcA cs n).bar, .slice a1 (fcA cs n).mus.length c1, .slice a2 (fcA cs n).may.length c2], .bool (fcB cs n)]) ∧ TsV w (.slice a1 (fcA cs n).mus.length c1) (fcA cs n).mus ∧ TsV w (.slice a2 (fcA cs n).may.length c2) (fcA cs n).may ∧ Below w.heap.size w w' := cfind_at v cs n w w hV (Below.refl _ _)
theorem fc_no {cs : List Cl} {n : ByteArray} (h : fndC cs n = none) : fcA cs n = cl0 ∧ fcB cs n = false := by unfold fcA fcB; rw [h]; exact ⟨rfl, rfl⟩
theorem fc_yes {cs : List Cl} {n : ByteArray} {c : Cl} (h : fndC cs n = some c) : fcA cs n = c ∧ fcB cs n = true := by unfold fcA fcB; rw [h]; exact ⟨rfl, rfl⟩
set_option maxHeartbeats 6400000 in
theorem cends_any (v vm vy : Value) (cs : List Cl) (c : Cl) (w : World) (hC : ClsV w v cs) (hM : TsV w vm c.mus) (hY : TsV w vy c.may) :
    Calls Try.prog 50 #[v, .agg #[.string c.nam, .string c.abv, .bool c.bar, vm, vy]] w fun e w' => e = .returned (.bool (upE cs cs.length c)) ∧ Below w.heap.size w w' := by
  have CF := hide (fun n W (h : Below w.heap.size w W) => cfind_any v cs n W (hC.below h))
  obtain ⟨ac, cc, rfl, hcl, _⟩ := hC
  have hn2 : (cs.length : Int) ≤ 9223372036854775807 := by omega
  obtain ⟨am, cm, rfl, _⟩ := hM
  obtain ⟨ay, cy, rfl, _⟩ := hY
  obtain ⟨U, hU⟩ : ∃ U, upE cs cs.length c = U := ⟨_, rfl⟩
  have HU := hide hU
  rw [hU]
  clear hU
  go_enter Try.func50, Try.ntmps50
  go_wp2
  go_loopw [9] (fun vi wr => ∃ (k : Nat) (x : Cl) (a1 a2 : Option Addr) (c1 c2 : Nat), vi = .int .i64 (k : Int) ∧ k ≤ cs.length ∧ Hid (upE cs (cs.length - k) x = U) ∧ Hid (Bc w.heap.size x (.slice a1 x.mus.length c1) (.slice a2 x.may.length c2) wr) ∧ Below w.heap.size w wr) (fun i _ => cs.length - (intOf i).toNat)
  case atStart => exact ⟨0, c, am, ay, cm, cy, rfl, Nat.zero_le _, unhide HU, heap_new w _, Below.one w _⟩
  case round =>
    clear HU
    obtain ⟨k, x, a1, a2, c1, c2, rfl, hk, HX, HB, hb⟩ := hrel
    have hsz := hb.size
    by_cases hlt : k < cs.length
    · have hzl : (k : Int) < (cs.length : Int) := by omega
      obtain ⟨x0, x1, x2, x3, x4⟩ := (unhide HB).cells
      have hem := emp_iff x.abv
      have C1 := hide (unhide CF x.abv wr hb)
      have HS : Hid (cs.length - k = (cs.length - (k + 1)) + 1) := by show _ = _; omega
      clear CF
      rw [unhide HS] at HX
      by_cases e : x.abv = te
      · rw [decide_eq_true e] at hem
        have HE : Hid (true = U) := by show _ = _; rw [← unhide HX, upE, if_pos e]
        clear e HX HS
        go_wp2
        go_ret
        exact ⟨ret_bool (unhide HE), hb⟩
      rw [decide_eq_false e] at hem
      cases hf : fndC cs x.abv with
      | none =>
        obtain ⟨e1, e2⟩ := fc_no hf
        rw [e1, e2] at C1
        have HE : Hid (false = U) := by show _ = _; rw [← unhide HX, upE, if_neg e, hf]
        clear e HX hf e1 e2 HS
        go_wp2_with (go_at_call 54; refine (unhide C1).mono ?_; rintro e w2 ⟨p1, q1, p2, q2, rfl, _, _, b2⟩; have t2 := hb.trans (b2.mono hsz))
        go_ret
        exact ⟨ret_bool (unhide HE), t2.alloc t2.size _⟩
      | some y =>
        obtain ⟨e1, e2⟩ := fc_yes hf
        rw [e1, e2] at C1
        have HX2 : Hid (upE cs (cs.length - (k + 1)) y = U) := by show _ = _; rw [← unhide HX, upE, if_neg e, hf]
        clear e HX hf e1 e2 HS
        go_wp2_with (go_at_call 54; refine (unhide C1).mono ?_; rintro e w2 ⟨p1, q1, p2, q2, rfl, _, _, b2⟩; have t2 := hb.trans (b2.mono hsz); have o2 := Below.one w2 (.cells #[.string y.nam, .string y.abv, .bool y.bar, .slice p1 y.mus.length q1, .slice p2 y.may.length q2] 49); have t3 := t2.trans (o2.mono t2.size); have B2 := hide (((unhide HB).keep b2).keep o2); obtain ⟨z0, z1, z2, z3, z4⟩ := (unhide B2).cells; have f0 := (unhide B2).free 0; have f1 := (unhide B2).free 1; have f2 := (unhide B2).free 2; have f3 := (unhide B2).free 3; have f4 := (unhide B2).free 4)
        go_roundw
        case rel => exact ⟨k + 1, y, p1, p2, q1, q2, by go_num, by omega, unhide HX2, (unhide B2).put y _ _, putC_below t3 (Nat.le_refl _) y _ _⟩
        case measure => simp [intOf]; omega
    · have hzl : ¬ (k : Int) < (cs.length : Int) := by omega
      have HE : Hid (false = U) := by show _ = _; rw [← unhide HX, show cs.length - k = 0 by omega]; rfl
      clear HX
      go_wp2
      go_ret
      exact ⟨ret_bool (unhide HE), hb⟩
end Go.Proofs.Ytjjildpdelkejaa
/- The landed every, and ContainsFunc, of layer 21, over any function value. -/
namespace Go.Proofs.Ytjjildpdelkejaa
open Go.RowKit

theorem allT_yes {p : ByteArray → Bool} {l : List ByteArray} (h : ∀ j, j < l.length → p (l.getD j te) = true) : l.all p = true := by
  rw [List.all_eq_true]
  intro x hx
  obtain ⟨k, hk, rfl⟩ := List.getElem_of_mem hx
  have := h k hk
  simpa [List.getD, hk] using this
theorem allT_no {p : ByteArray → Bool} {l : List ByteArray} {k : Nat} (hk : k < l.length) (h : p (l.getD k te) = false) : l.all p = false := by
  cases hq : l.all p
  · rfl
  · rw [List.all_eq_true] at hq
    have := hq (l.getD k te) (by simp [List.getD, hk])
    rw [h] at this
    cases this
set_option maxHeartbeats 1600000 in
theorem every_any (g : Nat) (fs lb : Array Value) (p : ByteArray → Bool) (v : Value) (L : List ByteArray) (w : World) (eg : ∀ args w, (callFunc g args).run Try.prog w = .ok (.enter g args) w) (hV : TsV w v L)
    (hf : ∀ (W : World) (x : ByteArray), Below w.heap.size w W → Calls Try.prog g (fs ++ #[.string x] ++ lb) W fun e w' => e = .returned (.bool (p x)) ∧ Below W.heap.size W w') :
    Calls Try.prog 37 #[v, .func (.func g) fs lb] w fun e w' => e = .returned (.bool (L.all p)) ∧ Below w.heap.size w w' := by
  have HF := hide hf
  obtain ⟨a, cap, rfl, hn, hc⟩ := hV
  have HC := hide hc
  have hn2 : (L.length : Int) ≤ 9223372036854775807 := by omega
  clear hf hc
  go_enter Try.func37, Try.ntmps37
  go_wp2
  go_loopw [9] (fun i wr => ∃ k : Nat, k ≤ L.length ∧ i = .int .i64 (k : Int) ∧ Hid (∀ j, j < k → p (L.getD j te) = true) ∧ Below w.heap.size w wr) (fun i _ => L.length - (intOf i).toNat)
  case atStart => exact ⟨0, Nat.zero_le _, rfl, fun j hj => absurd hj (Nat.not_lt_zero _), Below.refl _ _⟩
  case round =>
    obtain ⟨k, hk, rfl, HK, hb⟩ := hrel
    have hsz := hb.size
    by_cases hlt : k < L.length
    · have hzl : (k : Int) < (L.length : Int) := by omega
      have hz0 : (0 : Int) ≤ (k : Int) := by omega
      obtain ⟨b, off, rfl, hcc⟩ := unhide HC (by omega)
      have q0 := (hb.cell (cell_lt (hcc k hlt))).trans (hcc k hlt)
      have HY : Hid (p (L.getD k te) = false → L.all p = false) := fun h => allT_no hlt h
      have HN : Hid (p (L.getD k te) = true → ∀ j, j < k + 1 → p (L.getD j te) = true) := fun h j hj => by
        by_cases e : j = k
        · rw [e]; exact h
        · exact unhide HK j (by omega)
      have hcl := unhide HF wr (L.getD k te) hb
      clear hcc HC HK HF
      generalize L.getD k te = x at *
      cases hp : p x <;> rw [hp] at hcl
      · have HE := hide (unhide HY hp)
        clear hp HY HN
        go_wp2_with (refine hcl.mono ?_; rintro e w2 ⟨rfl, b2⟩)
        go_ret
        exact ⟨ret_bool (unhide HE).symm, hb.trans (b2.mono hsz)⟩
      · have HK2 := hide (unhide HN hp)
        clear hp HY HN
        go_wp2_with (refine hcl.mono ?_; rintro e w2 ⟨rfl, b2⟩)
        go_roundw
        case rel => exact ⟨k + 1, by omega, by go_num, unhide HK2, hb.trans (b2.mono hsz)⟩
        case measure => simp [intOf]; omega
    · have hzl : ¬ (k : Int) < (L.length : Int) := by omega
      obtain rfl : k = L.length := by omega
      have HE := hide (allT_yes (unhide HK))
      clear HK HC HF
      go_wp2
      go_ret
      exact ⟨ret_bool (unhide HE).symm, hb⟩
end Go.Proofs.Ytjjildpdelkejaa
