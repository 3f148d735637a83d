/- The document's Find, Line, Is of layer 20. -/
import Derived.Test.YtjjildpdelkejaaM04
import Derived.Deep.AppendLies
import Derived.OwnWalk
import Derived.Laws.Rows
import Derived.Deep.LoopGhost
namespace Go.Proofs.Ytjjildpdelkejaa
open Go.RowKit

/-- A row of texts of the call's own; of texts that came in. -/
def Tx (B : Nat) (v : Value) (ps : List ByteArray) (w : World) : Prop := w.ownsRow B 9 1 v ps.length (ps.map Value.string)
theorem Tx.nil (B : Nat) (w : World) : Tx B (.slice none 0 0) [] w := ⟨rfl, .inl ⟨rfl, rfl⟩⟩
theorem Tx.below {w w2 : World} {B : Nat} {v : Value} {ps : List ByteArray} (h : Tx B v ps w) (hb : Below w.heap.size w w2) : Tx B v ps w2 := own_below h hb
theorem Tx.own {w : World} {B N : Nat} {v : Value} {ps : List ByteArray} (hN : N = ps.length) (h : Tx B v ps w) : w.ownsRow B 9 1 v N (ps.map Value.string) := by subst hN; exact h
theorem Tx.push {w : World} {B N : Nat} {v : Value} {ps : List ByteArray} {p : ByteArray} (hN : N = ps.length) (h : w.ownsRow B 9 1 v (N + 1) (ps.map Value.string ++ [.string p])) : Tx B v (ps ++ [p]) w := by
  subst hN
  unfold Tx
  rw [List.length_append, List.map_append]
  exact h
/-- A slice that holds texts. -/
def TsV (w : World) (v : Value) (l : List ByteArray) : Prop :=
  ∃ a cap, v = .slice a l.length cap ∧ (l.length ≤ cap ∧ l.length ≤ 9223372036854775807) ∧ (0 < l.length → ∃ b off, a = some ⟨b, off, none⟩ ∧ ∀ j, j < l.length → w.cell? ⟨b, off + j, none⟩ = some (.string (l.getD j te)))
theorem TsV.below {w w2 : World} {v : Value} {l : List ByteArray} (h : TsV w v l) (hb : Below w.heap.size w w2) : TsV w2 v l := by
  obtain ⟨a, cap, rfl, hn, hc⟩ := h
  refine ⟨a, cap, rfl, hn, fun i => ?_⟩
  obtain ⟨b, off, rfl, hcc⟩ := hc i
  exact ⟨b, off, rfl, fun j hj => (hb.cell (cell_lt (hcc j hj))).trans (hcc j hj)⟩
theorem Tx.ts {w : World} {B : Nat} {v : Value} {ps : List ByteArray} (h : Tx B v ps w) (hl : ps.length ≤ 9223372036854775807) : TsV w v ps := by
  rcases h.2 with ⟨hv, h0⟩ | ⟨g, cap, cur, hv, _, _, hcap, _⟩
  · exact ⟨none, 0, by rw [hv, h0], ⟨by omega, hl⟩, fun hi => by omega⟩
  · refine ⟨some ⟨g, 0, none⟩, cap, hv, ⟨hcap, hl⟩, fun hi => ⟨g, 0, rfl, fun j hj => ?_⟩⟩
    have := World.ownsRow.cells h (g := g) (by rw [hv]; rfl) j (.string (ps.getD j te)) (by simp [List.getD, hj])
    rw [add_zero3] at this
    rw [Nat.zero_add]
    exact this
theorem str_info : (Try.prog.info? 9).map (fun i => (i.zero, i.size, i.bytes)) = some (some (.string ⟨#[]⟩), 1, 16) := by kernel_rfl
theorem grown_one {w w2 : World} {row : Option Nat} {o : Obj} (h : (w.alloc o).grownBy w2 row) : w.grownBy w2 row := (World.grownBy_alloc w o row).trans h
theorem res_cell2 {fn : Func} {p q : Tmp} (h : fn.results = #[.cell p 65, .tmp q]) (tmps : Array Value) (w : World) (g : Nat) (a : Ty) (hp : tmps.getD p undef = .pointer (some ⟨g, 0, none⟩)) (hg : Bt g a w) :
    (results fn tmps).run Try.prog w = .ok (.tuple #[.agg #[.string a.nam, .string a.abv, .int .i64 a.syn, .int .i64 a.rul, .bool a.sgl, .bool a.cls], tmps.getD q undef]) w := by
  have hp' : tmps[p]?.getD undef = .pointer (some ⟨g, 0, none⟩) := by simpa using hp
  have hl := run_loadVar_row (P := Try.prog) w g 65 65 #[.string a.nam, .string a.abv, .int .i64 a.syn, .int .i64 a.rul, .bool a.sgl, .bool a.cls] (0, 0) _ hg Try.underlying65 rfl (by kernel_rfl)
  simp [results, h, hp', asAddr, hl]
/-- What Find tells. -/
def fndA (l : List Ty) (n : ByteArray) : Ty := (findT l n).getD ty0
def fndB (l : List Ty) (n : ByteArray) : Bool := (findT l n).isSome
def aggV (a : Ty) : Value := .agg #[.string a.nam, .string a.abv, .int .i64 a.syn, .int .i64 a.rul, .bool a.sgl, .bool a.cls]
theorem chk_ok {l : List Ty} (h : okT l = true) : chkT l = 0 := by unfold chkT; rw [if_pos h]
theorem chk_bad {l : List Ty} (h : okT l = false) : chkT l = 190 := by unfold chkT; rw [h]; rfl
theorem ret_av {a b : Ty} {p q : Bool} (h : a = b) (h' : p = q) : Ending.returned (.tuple #[.agg #[.string a.nam, .string a.abv, .int .i64 a.syn, .int .i64 a.rul, .bool a.sgl, .bool a.cls], .bool p]) = .returned (.tuple #[aggV b, .bool q]) := by rw [h, h']; rfl
theorem fnd_not {l : List Ty} {n : ByteArray} (h : findT l n = none) : fndA l n = ty0 ∧ fndB l n = false := by unfold fndA fndB; rw [h]; exact ⟨rfl, rfl⟩
theorem fnd_yes {l : List Ty} {n : ByteArray} {a : Ty} (h : findT l n = some a) : fndA l n = a ∧ fndB l n = true := by unfold fndA fndB; rw [h]; exact ⟨rfl, rfl⟩
theorem find_bad {l : List Ty} (h : okT l = false) (n : ByteArray) : findT l n = none := by unfold findT; rw [h]; rfl
theorem find_ok {l : List Ty} (h : okT l = true) (n : ByteArray) : findT l n = fndT l n := by unfold findT; rw [if_pos h]
set_option maxHeartbeats 3200000 in
theorem rfind_any (v : Value) (l : List Ty) (n : ByteArray) (w : World) (hV : TysV w v l) : Calls Try.prog 43 #[v, .string n] w fun e w' => e = .returned (.tuple #[aggV (fndA l n), .bool (fndB l n)]) ∧ Below w.heap.size w w' := by
  have B0 : Hid (Bt w.heap.size ty0 (w.alloc (.cells #[.string ⟨#[]⟩, .string ⟨#[]⟩, .int .i64 0, .int .i64 0, .bool false, .bool false] 65))) := heap_new w _
  have b0 := Below.one w (.cells #[.string ⟨#[]⟩, .string ⟨#[]⟩, .int .i64 0, .int .i64 0, .bool false, .bool false] 65)
  have hV0 := hV.below b0
  have CT := hide (rat_any v l n _ hV0)
  have CK := hide (rchk20_any v l _ hV0)
  have HV0 := hide hV0
  obtain ⟨va, vc, rfl⟩ := hV.shape
  have NO : Hid (findT l n = none → ∀ (W : World), Below w.heap.size w W → Ending.returned (.tuple #[.agg #[.string ty0.nam, .string ty0.abv, .int .i64 ty0.syn, .int .i64 ty0.rul, .bool ty0.sgl, .bool ty0.cls], .bool false]) = .returned (.tuple #[aggV (fndA l n), .bool (fndB l n)]) ∧ Below w.heap.size w W) := fun h W hb => ⟨ret_av (fnd_not h).1.symm (fnd_not h).2.symm, hb⟩
  clear hV hV0
  cases hk : okT l
  · rw [chk_bad hk] at CK
    have HF := hide (find_bad hk n)
    clear hk HV0
    generalize ixT l n = i at *
    go_enter Try.func43, Try.ntmps43
    go_wp2_with (first
      | (go_at_call 27; refine (unhide CK).mono ?_; rintro e w2 ⟨rfl, b2⟩; have B2 := hide ((unhide B0).keep b2); obtain ⟨c0, c1, c2, c3, c4, c5⟩ := (unhide B2).cells; simp only [Nat.zero_add] at c1 c2 c3 c4 c5; have f0 := (unhide B2).free 0; have f1 := (unhide B2).free 1; have f2 := (unhide B2).free 2; have f3 := (unhide B2).free 3; have f4 := (unhide B2).free 4; have f5 := (unhide B2).free 5; have t2 := b0.trans (b2.mono b0.size))
      | (go_at_call 64; refine (unhide CT).mono ?_; rintro e w2 ⟨rfl, rfl⟩))
    refine bodyPost_ret (res_cell2 rfl _ _ w.heap.size ty0 rfl ((unhide B2).put ty0)) rfl ?_
    exact unhide NO (unhide HF) _ (put_below t2 (Nat.le_refl _) ty0)
  rw [chk_ok hk] at CK
  have HO := hide (find_ok hk n)
  clear hk
  rcases ixT_fnd l n with ⟨hf, hi⟩ | ⟨j, hj, hi, hf⟩
  · rw [hi] at CT
    have HF := hide ((unhide HO).trans hf)
    clear hf hi HO HV0
    go_enter Try.func43, Try.ntmps43
    go_wp2_with (first
      | (go_at_call 27; refine (unhide CK).mono ?_; rintro e w2 ⟨rfl, b2⟩; have B2 := hide ((unhide B0).keep b2); obtain ⟨c0, c1, c2, c3, c4, c5⟩ := (unhide B2).cells; simp only [Nat.zero_add] at c1 c2 c3 c4 c5; have f0 := (unhide B2).free 0; have f1 := (unhide B2).free 1; have f2 := (unhide B2).free 2; have f3 := (unhide B2).free 3; have f4 := (unhide B2).free 4; have f5 := (unhide B2).free 5; have t2 := b0.trans (b2.mono b0.size))
      | (go_at_call 64; refine (unhide CT).mono ?_; rintro e w2 ⟨rfl, rfl⟩))
    refine bodyPost_ret (res_cell2 rfl _ _ w.heap.size ty0 rfl ((unhide B2).put ty0)) rfl ?_
    exact unhide NO (unhide HF) _ (put_below t2 (Nat.le_refl _) ty0)
  · rw [hi] at CT
    have HF := hide (fnd_yes ((unhide HO).trans hf))
    obtain ⟨va', vc', hvv, _, hcc⟩ := unhide HV0
    cases hvv
    obtain ⟨b, off, rfl, hce⟩ := hcc (by omega)
    have HD := hide (hce j hj)
    have hj0 : ¬ (j : Int) < 0 := by omega
    have hj1 : (j : Int) < (l.length : Int) := by omega
    have hj2 : (0 : Int) ≤ (j : Int) := by omega
    clear hf hi HO hcc hce HV0 NO
    generalize l.getD j ty0 = y at *
    go_enter Try.func43, Try.ntmps43
    go_wp2_with (first
      | (go_at_call 27; refine (unhide CK).mono ?_; rintro e w2 ⟨rfl, b2⟩; have B2 := hide ((unhide B0).keep b2); obtain ⟨c0, c1, c2, c3, c4, c5⟩ := (unhide B2).cells; simp only [Nat.zero_add] at c1 c2 c3 c4 c5; obtain ⟨d0, d1, d2, d3, d4, d5⟩ := (unhide HD).below b2; have f0 := (unhide B2).free 0; have f1 := (unhide B2).free 1; have f2 := (unhide B2).free 2; have f3 := (unhide B2).free 3; have f4 := (unhide B2).free 4; have f5 := (unhide B2).free 5; have t2 := b0.trans (b2.mono b0.size))
      | (go_at_call 64; refine (unhide CT).mono ?_; rintro e w2 ⟨rfl, rfl⟩))
    refine bodyPost_ret (res_cell2 rfl _ _ w.heap.size y rfl ((unhide B2).put y)) rfl ?_
    exact ⟨ret_av (unhide HF).1.symm (unhide HF).2.symm, put_below t2 (Nat.le_refl _) y⟩
end Go.Proofs.Ytjjildpdelkejaa
/- The document's Line and Is of layer 20. -/
namespace Go.Proofs.Ytjjildpdelkejaa
open Go.RowKit

theorem line_bad {l : List Ty} (h : okT l = false) (n : ByteArray) : lineT l n = [] := by unfold lineT; rw [find_bad h]
theorem ln_stop {l : List Ty} (h : okT l = true) {a : Ty} (e : a.abv = te) : ∀ k, lnF l k a = [a.nam]
  | 0 => rfl
  | k + 1 => by rw [lnF, e, fnd_empty h]
/-- A step up a line. -/
theorem line_step {l : List Ty} (h : okT l = true) {k j : Nat} (hu : upT l k (l.getD j ty0) = true) :
    (ixT l (l.getD j ty0).abv = -1 ∧ lnF l k (l.getD j ty0) = [(l.getD j ty0).nam]) ∨ ∃ m i : Nat, k = m + 1 ∧ i < l.length ∧ ixT l (l.getD j ty0).abv = (i : Int) ∧ upT l m (l.getD i ty0) = true ∧ lnF l k (l.getD j ty0) = (l.getD j ty0).nam :: lnF l m (l.getD i ty0) := by
  generalize l.getD j ty0 = y at *
  by_cases e : y.abv = te
  · left
    refine ⟨?_, ln_stop h e k⟩
    rcases ixT_fnd l y.abv with ⟨_, hi⟩ | ⟨i, _, _, hf⟩
    · exact hi
    · rw [e, fnd_empty h] at hf
      cases hf
  · right
    cases k with
    | zero => exact absurd (of_decide_eq_true hu) e
    | succ m =>
      rcases ixT_fnd l y.abv with ⟨hf, _⟩ | ⟨i, hi, hx, hf⟩
      · rw [up_none e hf] at hu; cases hu
      · by_cases hs : (l.getD i ty0).syn = y.syn
        · rw [up_more e hf hs] at hu
          exact ⟨m, i, rfl, hi, hx, hu, by rw [lnF, hf]⟩
        · rw [up_syn e hf hs] at hu; cases hu
set_option maxHeartbeats 3200000 in
theorem rline_any (v : Value) (l : List Ty) (n : ByteArray) (w : World) (hV : TysV w v l) : Calls Try.prog 45 #[v, .string n] w fun e w' => ∃ u, e = .returned u ∧ Tx w.heap.size u (lineT l n) w' ∧ Below w.heap.size w w' := by
  obtain ⟨i0, hi, hz0, hz1, hz2⟩ := info_parts str_info
  have CK := hide (rchk20_any v l w hV)
  have HV := hide hV
  obtain ⟨va, vc, rfl⟩ := hV.shape
  clear hV
  cases hk : okT l
  · rw [chk_bad hk] at CK
    rw [line_bad hk]
    clear hk HV
    go_enter Try.func45, Try.ntmps45
    go_wp2_with (go_at_call 27; refine (unhide CK).mono ?_; rintro e w2 ⟨rfl, b2⟩)
    go_ret
    exact ⟨_, rfl, Tx.nil _ _, b2⟩
  rw [chk_ok hk] at CK
  have HK := hide hk
  have hlen : l.length ≤ 24 := by
    unfold okT at hk
    rw [Bool.and_eq_true] at hk
    exact of_decide_eq_true hk.1
  have CT := hide (fun x W (hb : Below w.heap.size w W) => rat_any _ l x W ((unhide HV).below hb))
  have HS : Hid ((ixT l n = -1 ∧ lineT l n = []) ∨ ∃ j : Nat, j < l.length ∧ ixT l n = (j : Int) ∧ upT l (l.length + 1) (l.getD j ty0) = true ∧ lnF l (l.length + 1) (l.getD j ty0) = lineT l n) := by
    rcases ixT_fnd l n with ⟨hf, hx⟩ | ⟨j, hj, hx, hf⟩
    · exact .inl ⟨hx, by unfold lineT; rw [find_ok hk, hf]⟩
    · refine .inr ⟨j, hj, hx, okT_up hk (by simp [List.getD, hj]), ?_⟩
      unfold lineT
      rw [find_ok hk, hf]
  clear hk
  generalize lineT l n = L at *
  go_enter Try.func45, Try.ntmps45
  go_wp2_with (first
    | (go_at_call 64; refine (unhide CT n _ b1).mono ?_; rintro e w3 ⟨rfl, rfl⟩)
    | (go_at_call 27; refine (unhide CK).mono ?_; rintro e w1 ⟨rfl, b1⟩))
  go_loopg [5, 6] (l.length + 2) (fun g vo vi wr => ∃ out : List ByteArray, Hid (Tx w.heap.size vo out wr) ∧ Below w.heap.size w wr ∧ ((vi = .int .i64 (-1) ∧ Hid (out = L)) ∨ ∃ k j : Nat, vi = .int .i64 (j : Int) ∧ j < l.length ∧ g = k + 1 ∧ out.length + k ≤ l.length + 1 ∧ Hid (upT l k (l.getD j ty0) = true) ∧ Hid (out ++ lnF l k (l.getD j ty0) = L)))
  case atStart =>
    refine ⟨[], Tx.nil _ _, b1, ?_⟩
    rcases unhide HS with ⟨h1, h2⟩ | ⟨j, h1, h2, h3, h4⟩
    · exact .inl ⟨by rw [h1], h2.symm⟩
    · exact .inr ⟨l.length + 1, j, by rw [h2], h1, rfl, by simp, h3, by show _ = _; rw [List.nil_append]; exact h4⟩
  case round =>
    clear HS CK
    obtain ⟨out, HT, hb, hrel⟩ := hrel
    have hsz := hb.size
    rcases hrel with ⟨rfl, HL⟩ | ⟨k, j, rfl, hj, rfl, hol, HU, HL⟩
    · go_wp2
      go_ret
      refine ⟨_, rfl, ?_, hb⟩
      rw [← unhide HL]
      exact unhide HT
    · have hj1 : (j : Int) < (l.length : Int) := by omega
      have hj2 : (0 : Int) ≤ (j : Int) := by omega
      obtain ⟨va', vc', hvv, _, hcc⟩ := unhide HV
      cases hvv
      obtain ⟨b, off, rfl, hce⟩ := hcc (by omega)
      obtain ⟨e0, e1, _⟩ := hce j hj
      have d0 := (hb.cell (cell_lt e0)).trans e0
      have HE1 := hide e1
      clear e0 e1
      have HST := hide (line_step (unhide HK) (unhide HU))
      obtain ⟨N, hN⟩ : ∃ N, N = out.length := ⟨_, rfl⟩
      have HN := hide hN
      rw [← hN] at hol
      have hm1 : N + 1 ≤ maxLen := by unfold maxLen; omega
      have hm2 : (N + 1) * 16 ≤ 140737488355328 := by omega
      clear hcc hce hN HU
      have CX := hide (unhide CT (l.getD j ty0).abv)
      generalize l.getD j ty0 = y at *
      rcases unhide HST with ⟨hx, hln⟩ | ⟨m, i, rfl, hi', hx, hu, hln⟩
      · rw [hx] at CX
        rw [hln] at HL
        clear HST hx hln CT
        go_wp2_with (first
          | (go_at_call 64; refine (unhide CX _ hb9).mono ?_; rintro e w3 ⟨rfl, rfl⟩)
          | (at_builtin; refine wpList_append_lies _ rfl _ _ 32 rfl w.heap.size 9 i0 _ 1 16 Try.underlying32 hi hz0 hz1 hz2 rfl (by omega) _ N _ rfl (World.ownsRow.alloc (Tx.own (unhide HN) (unhide HT)) _) ⟨wr.heap.size, 0, none⟩ 1 1 [.string _] rfl rfl (World.news_of_block (cs := #[.string _]) (t := 9) (fr := (0, 0)) (heap_new wr _)) (by simp [Value.oneCell']) (by omega) hm1 hm2 (by simp; omega) (wr.heap.size + 1) (by simp) ?_; intro g9 cap9 w9 hown9 hgrow9 hat9 hlt9; have hb9 := hb.trans (below_own (grown_one hgrow9) hsz (own_block (Tx.own (unhide HN) (unhide HT)))); have d9 := (hb9.cell (cell_lt (unhide HE1))).trans (unhide HE1); have HT9 := hide (Tx.push (unhide HN) hown9); clear hown9 hgrow9 hat9 hlt9))
        go_roundg k
        case measure => omega
        case rel => exact ⟨out ++ [y.nam], unhide HT9, hb9, .inl ⟨rfl, unhide HL⟩⟩
      · rw [hx] at CX
        rw [hln] at HL
        have HUU := hide hu
        clear HST hx hln CT hu
        go_wp2_with (first
          | (go_at_call 64; refine (unhide CX _ hb9).mono ?_; rintro e w3 ⟨rfl, rfl⟩)
          | (at_builtin; refine wpList_append_lies _ rfl _ _ 32 rfl w.heap.size 9 i0 _ 1 16 Try.underlying32 hi hz0 hz1 hz2 rfl (by omega) _ N _ rfl (World.ownsRow.alloc (Tx.own (unhide HN) (unhide HT)) _) ⟨wr.heap.size, 0, none⟩ 1 1 [.string _] rfl rfl (World.news_of_block (cs := #[.string _]) (t := 9) (fr := (0, 0)) (heap_new wr _)) (by simp [Value.oneCell']) (by omega) hm1 hm2 (by simp; omega) (wr.heap.size + 1) (by simp) ?_; intro g9 cap9 w9 hown9 hgrow9 hat9 hlt9; have hb9 := hb.trans (below_own (grown_one hgrow9) hsz (own_block (Tx.own (unhide HN) (unhide HT)))); have d9 := (hb9.cell (cell_lt (unhide HE1))).trans (unhide HE1); have HT9 := hide (Tx.push (unhide HN) hown9); clear hown9 hgrow9 hat9 hlt9))
        go_roundg (m + 1)
        case measure => omega
        case rel => exact ⟨out ++ [y.nam], unhide HT9, hb9, .inr ⟨m, i, rfl, hi', rfl, by rw [List.length_append, ← unhide HN]; simp; omega, unhide HUU, by show _ = _; rw [← unhide HL]; simp⟩⟩
end Go.Proofs.Ytjjildpdelkejaa
/- The document's Is and Below of layer 20. -/
namespace Go.Proofs.Ytjjildpdelkejaa
open Go.RowKit

theorem ln_len (l : List Ty) : ∀ (k : Nat) (a : Ty), (lnF l k a).length ≤ k + 1
  | 0, _ => by simp [lnF]
  | k + 1, a => by
    rw [lnF]
    cases fndT l a.abv with
    | none => simp
    | some b =>
      have := ln_len l k b
      simp
      omega
theorem line_len (l : List Ty) (n : ByteArray) : (lineT l n).length ≤ 26 := by
  unfold lineT
  cases hf : findT l n with
  | none => simp
  | some a =>
    have hk := (find_some hf).1
    unfold okT at hk
    rw [Bool.and_eq_true] at hk
    have h1 := of_decide_eq_true hk.1
    have := ln_len l (l.length + 1) a
    simp only
    omega
theorem any_no {L : List ByteArray} {a : ByteArray} (h : ∀ i, i < L.length → L.getD i te ≠ a) : (L.any fun x => decide (x = a)) = false := by
  rw [List.any_eq_false]
  intro x hx
  obtain ⟨i, hi, rfl⟩ := List.getElem_of_mem hx
  have := h i hi
  simpa [List.getD, hi] using this
theorem any_yes {L : List ByteArray} {a : ByteArray} {i : Nat} (hi : i < L.length) (h : L.getD i te = a) : (L.any fun x => decide (x = a)) = true := by
  rw [List.any_eq_true]
  exact ⟨L.getD i te, by simp [List.getD, hi], by simpa using h⟩
set_option maxHeartbeats 1600000 in
theorem ris_any (v : Value) (l : List Ty) (n a : ByteArray) (w : World) (hV : TysV w v l) : Calls Try.prog 44 #[v, .string n, .string a] w fun e w' => e = .returned (.bool (isT l n a)) ∧ Below w.heap.size w w' := by
  have CL := hide (rline_any v l n w hV)
  have hlen := line_len l n
  have HI : Hid (isT l n a = (lineT l n).any fun x => decide (x = a)) := rfl
  obtain ⟨va, vc, rfl⟩ := hV.shape
  clear hV
  generalize isT l n a = R at *
  generalize lineT l n = L at *
  go_enter Try.func44, Try.ntmps44
  go_wp2_with (go_at_call 45; refine (unhide CL).mono ?_; rintro e w1 ⟨u, rfl, hu, b1⟩; obtain ⟨ua, uc, rfl, _, hc⟩ := hu.ts (by omega); have HC := hide hc; clear hu hc)
  go_loop [8] (fun i => ∃ k : Nat, k ≤ L.length ∧ i = .int .i64 (k : Int) ∧ Hid (∀ j, j < k → L.getD j te ≠ a)) (fun i => L.length - (intOf i).toNat)
  case atStart => exact ⟨0, Nat.zero_le _, rfl, fun j hj => absurd hj (Nat.not_lt_zero _)⟩
  case round =>
    obtain ⟨k, hk, rfl, HK⟩ := hrel
    by_cases hlt : k < L.length
    · have hzl : (k : Int) < (L.length : Int) := by omega
      have hz0 : (0 : Int) ≤ (k : Int) := by omega
      obtain ⟨b, off, rfl, hcc⟩ := unhide HC (by omega)
      have q1 := hcc k hlt
      have HG : Hid (L.getD k te = L.getD k te) := rfl
      have hq := txt_beq (L.getD k te) a
      by_cases h : L.getD k te = a
      · rw [decide_eq_true h] at hq
        have HE : Hid (true = R) := by show _ = _; rw [unhide HI, any_yes hlt h]
        clear h HK hcc HC HG
        generalize L.getD k te = x at *
        go_wp2
        go_ret
        exact ⟨ret_bool (unhide HE), b1⟩
      · rw [decide_eq_false h] at hq
        have HK2 : Hid (∀ j, j < k + 1 → L.getD j te ≠ a) := fun j hj => by
          by_cases e : j = k
          · rw [e]; exact h
          · exact unhide HK j (by omega)
        clear h HK hcc HC HG
        generalize L.getD k te = x at *
        go_wp2
        go_round
        case rel => exact ⟨k + 1, by omega, by go_num, unhide HK2⟩
        case measure => simp [intOf]; omega
    · have hzl : ¬ (k : Int) < (L.length : Int) := by omega
      have HE : Hid (false = R) := by show _ = _; rw [unhide HI, any_no (fun i hi => unhide HK i (by omega))]
      clear HK
      go_wp2
      go_ret
      exact ⟨ret_bool (unhide HE), b1⟩
/-- Is a type below one of some? -/
def bl (l : List Ty) (ns : List ByteArray) (x : Ty) : Bool := ns.any fun n => isT l x.nam n
def belTo (l : List Ty) (ns : List ByteArray) (i : Nat) : List ByteArray := ((l.take i).filter (bl l ns)).map (·.nam)
theorem belTo_next {l : List Ty} {ns : List ByteArray} {i : Nat} (h : i < l.length) : belTo l ns (i + 1) = if bl l ns (l.getD i ty0) = true then belTo l ns i ++ [(l.getD i ty0).nam] else belTo l ns i := by
  unfold belTo
  rw [List.take_succ_eq_append_getElem h, List.filter_append, List.map_append]
  have e : l.getD i ty0 = l[i] := by simp [List.getD, h]
  rw [e]
  cases hb : bl l ns l[i] <;> simp [hb]
theorem belTo_all (l : List Ty) (ns : List ByteArray) : belTo l ns l.length = belT l ns := by
  unfold belTo belT bl
  rw [List.take_length]
theorem belTo_len (l : List Ty) (ns : List ByteArray) (i : Nat) : (belTo l ns i).length ≤ i := by
  unfold belTo
  rw [List.length_map]
  exact Nat.le_trans (List.length_filter_le _ _) (by rw [List.length_take]; omega)
/-- Of the first k names. -/
def bk (l : List Ty) (ns : List ByteArray) (x : Ty) (k : Nat) : Bool := (ns.take k).any fun n => isT l x.nam n
theorem bk_next {l : List Ty} {ns : List ByteArray} {x : Ty} {k : Nat} (h : k < ns.length) : bk l ns x (k + 1) = (bk l ns x k || isT l x.nam (ns.getD k te)) := by
  unfold bk
  rw [List.take_succ_eq_append_getElem h, List.any_append]
  simp [List.getD, h]
theorem bk_all (l : List Ty) (ns : List ByteArray) (x : Ty) : bk l ns x ns.length = bl l ns x := by unfold bk bl; rw [List.take_length]
end Go.Proofs.Ytjjildpdelkejaa
