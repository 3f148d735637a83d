/- The document's Find, Line, Is of layer 20. -/
import Derived.Test.YtoaoplfbnjajiaaRChk20
import Derived.Deep.AppendLies
import Derived.OwnWalk
import Derived.Laws.Rows
namespace Go.Proofs.Ytoaoplfbnjajiaa
open Go.RowKit

/-- A row of texts of the call's own; of texts that came in. -/
def Tx (B : Nat) (v : Value) (ps : List ByteArray) (w : World) : Prop := w.ownsRow B 9 1 v ps.length (ps.map Value.string)
theorem Tx.nil (B : Nat) (w : World) : Tx B (.slice none 0 0) [] w := ⟨rfl, .inl ⟨rfl, rfl⟩⟩
theorem Tx.below {w w2 : World} {B : Nat} {v : Value} {ps : List ByteArray} (h : Tx B v ps w) (hb : Below w.heap.size w w2) : Tx B v ps w2 := own_below h hb
theorem Tx.own {w : World} {B N : Nat} {v : Value} {ps : List ByteArray} (hN : N = ps.length) (h : Tx B v ps w) : w.ownsRow B 9 1 v N (ps.map Value.string) := by subst hN; exact h
theorem Tx.push {w : World} {B N : Nat} {v : Value} {ps : List ByteArray} {p : ByteArray} (hN : N = ps.length) (h : w.ownsRow B 9 1 v (N + 1) (ps.map Value.string ++ [.string p])) : Tx B v (ps ++ [p]) w := by
  subst hN
  unfold Tx
  rw [List.length_append, List.map_append]
  exact h
/-- A slice that holds texts. -/
def TsV (w : World) (v : Value) (l : List ByteArray) : Prop :=
  ∃ a cap, v = .slice a l.length cap ∧ (l.length ≤ cap ∧ l.length ≤ 9223372036854775807) ∧ (0 < l.length → ∃ b off, a = some ⟨b, off, none⟩ ∧ ∀ j, j < l.length → w.cell? ⟨b, off + j, none⟩ = some (.string (l.getD j te)))
theorem TsV.below {w w2 : World} {v : Value} {l : List ByteArray} (h : TsV w v l) (hb : Below w.heap.size w w2) : TsV w2 v l := by
  obtain ⟨a, cap, rfl, hn, hc⟩ := h
  refine ⟨a, cap, rfl, hn, fun i => ?_⟩
  obtain ⟨b, off, rfl, hcc⟩ := hc i
  exact ⟨b, off, rfl, fun j hj => (hb.cell (cell_lt (hcc j hj))).trans (hcc j hj)⟩
theorem Tx.ts {w : World} {B : Nat} {v : Value} {ps : List ByteArray} (h : Tx B v ps w) (hl : ps.length ≤ 9223372036854775807) : TsV w v ps := by
  rcases h.2 with ⟨hv, h0⟩ | ⟨g, cap, cur, hv, _, _, hcap, _⟩
  · exact ⟨none, 0, by rw [hv, h0], ⟨by omega, hl⟩, fun hi => by omega⟩
  · refine ⟨some ⟨g, 0, none⟩, cap, hv, ⟨hcap, hl⟩, fun hi => ⟨g, 0, rfl, fun j hj => ?_⟩⟩
    have := World.ownsRow.cells h (g := g) (by rw [hv]; rfl) j (.string (ps.getD j te)) (by simp [List.getD, hj])
    rw [add_zero3] at this
    rw [Nat.zero_add]
    exact this
theorem str_info : (Try.prog.info? 9).map (fun i => (i.zero, i.size, i.bytes)) = some (some (.string ⟨#[]⟩), 1, 16) := by kernel_rfl
theorem grown_one {w w2 : World} {row : Option Nat} {o : Obj} (h : (w.alloc o).grownBy w2 row) : w.grownBy w2 row := (World.grownBy_alloc w o row).trans h
theorem res_cell2 {fn : Func} {p q : Tmp} (h : fn.results = #[.cell p 26, .tmp q]) (tmps : Array Value) (w : World) (g : Nat) (a : Ty) (hp : tmps.getD p undef = .pointer (some ⟨g, 0, none⟩)) (hg : Bt g a w) :
    (results fn tmps).run Try.prog w = .ok (.tuple #[.agg #[.string a.nam, .string a.abv, .int .i64 a.syn, .int .i64 a.rul, .bool a.sgl, .bool a.cls], tmps.getD q undef]) w := by
  have hp' : tmps[p]?.getD undef = .pointer (some ⟨g, 0, none⟩) := by simpa using hp
  have hl := run_loadVar_row (P := Try.prog) w g 26 26 #[.string a.nam, .string a.abv, .int .i64 a.syn, .int .i64 a.rul, .bool a.sgl, .bool a.cls] (0, 0) _ hg Try.underlying26 rfl (by kernel_rfl)
  simp [results, h, hp', asAddr, hl]
/-- What Find tells. -/
def fndA (l : List Ty) (n : ByteArray) : Ty := (findT l n).getD ty0
def fndB (l : List Ty) (n : ByteArray) : Bool := (findT l n).isSome
def aggV (a : Ty) : Value := .agg #[.string a.nam, .string a.abv, .int .i64 a.syn, .int .i64 a.rul, .bool a.sgl, .bool a.cls]
theorem chk_ok {l : List Ty} (h : okT l = true) : chkT l = 0 := by unfold chkT; rw [if_pos h]
theorem chk_bad {l : List Ty} (h : okT l = false) : chkT l = 190 := by unfold chkT; rw [h]; rfl
theorem ret_av {a b : Ty} {p q : Bool} (h : a = b) (h' : p = q) : Ending.returned (.tuple #[.agg #[.string a.nam, .string a.abv, .int .i64 a.syn, .int .i64 a.rul, .bool a.sgl, .bool a.cls], .bool p]) = .returned (.tuple #[aggV b, .bool q]) := by rw [h, h']; rfl
theorem fnd_not {l : List Ty} {n : ByteArray} (h : findT l n = none) : fndA l n = ty0 ∧ fndB l n = false := by unfold fndA fndB; rw [h]; exact ⟨rfl, rfl⟩
theorem fnd_yes {l : List Ty} {n : ByteArray} {a : Ty} (h : findT l n = some a) : fndA l n = a ∧ fndB l n = true := by unfold fndA fndB; rw [h]; exact ⟨rfl, rfl⟩
theorem find_bad {l : List Ty} (h : okT l = false) (n : ByteArray) : findT l n = none := by unfold findT; rw [h]; rfl
theorem find_ok {l : List Ty} (h : okT l = true) (n : ByteArray) : findT l n = fndT l n := by unfold findT; rw [if_pos h]
set_option maxHeartbeats 3200000 in
theorem rfind_any (v : Value) (l : List Ty) (n : ByteArray) (w : World) (hV : TysV w v l) : Calls Try.prog 10 #[v, .string n] w fun e w' => e = .returned (.tuple #[aggV (fndA l n), .bool (fndB l n)]) ∧ Below w.heap.size w w' := by
  have B0 : Hid (Bt w.heap.size ty0 (w.alloc (.cells #[.string ⟨#[]⟩, .string ⟨#[]⟩, .int .i64 0, .int .i64 0, .bool false, .bool false] 26))) := heap_new w _
  have b0 := Below.one w (.cells #[.string ⟨#[]⟩, .string ⟨#[]⟩, .int .i64 0, .int .i64 0, .bool false, .bool false] 26)
  have hV0 := hV.below b0
  have CT := hide (rat_any v l n _ hV0)
  have CK := hide (rchk20_any v l _ hV0)
  have HV0 := hide hV0
  obtain ⟨va, vc, rfl⟩ := hV.shape
  have NO : Hid (findT l n = none → ∀ (W : World), Below w.heap.size w W → Ending.returned (.tuple #[.agg #[.string ty0.nam, .string ty0.abv, .int .i64 ty0.syn, .int .i64 ty0.rul, .bool ty0.sgl, .bool ty0.cls], .bool false]) = .returned (.tuple #[aggV (fndA l n), .bool (fndB l n)]) ∧ Below w.heap.size w W) := fun h W hb => ⟨ret_av (fnd_not h).1.symm (fnd_not h).2.symm, hb⟩
  clear hV hV0
  cases hk : okT l
  · rw [chk_bad hk] at CK
    have HF := hide (find_bad hk n)
    clear hk HV0
    generalize ixT l n = i at *
    go_enter Try.func10, Try.ntmps10
    go_wp2_with (first
      | (go_at_call 12; refine (unhide CK).mono ?_; rintro e w2 ⟨rfl, b2⟩; have B2 := hide ((unhide B0).keep b2); obtain ⟨c0, c1, c2, c3, c4, c5⟩ := (unhide B2).cells; simp only [Nat.zero_add] at c1 c2 c3 c4 c5; have f0 := (unhide B2).free 0; have f1 := (unhide B2).free 1; have f2 := (unhide B2).free 2; have f3 := (unhide B2).free 3; have f4 := (unhide B2).free 4; have f5 := (unhide B2).free 5; have t2 := b0.trans (b2.mono b0.size))
      | (go_at_call 26; refine (unhide CT).mono ?_; rintro e w2 ⟨rfl, rfl⟩))
    refine bodyPost_ret (res_cell2 rfl _ _ w.heap.size ty0 rfl ((unhide B2).put ty0)) rfl ?_
    exact unhide NO (unhide HF) _ (put_below t2 (Nat.le_refl _) ty0)
  rw [chk_ok hk] at CK
  have HO := hide (find_ok hk n)
  clear hk
  rcases ixT_fnd l n with ⟨hf, hi⟩ | ⟨j, hj, hi, hf⟩
  · rw [hi] at CT
    have HF := hide ((unhide HO).trans hf)
    clear hf hi HO HV0
    go_enter Try.func10, Try.ntmps10
    go_wp2_with (first
      | (go_at_call 12; refine (unhide CK).mono ?_; rintro e w2 ⟨rfl, b2⟩; have B2 := hide ((unhide B0).keep b2); obtain ⟨c0, c1, c2, c3, c4, c5⟩ := (unhide B2).cells; simp only [Nat.zero_add] at c1 c2 c3 c4 c5; have f0 := (unhide B2).free 0; have f1 := (unhide B2).free 1; have f2 := (unhide B2).free 2; have f3 := (unhide B2).free 3; have f4 := (unhide B2).free 4; have f5 := (unhide B2).free 5; have t2 := b0.trans (b2.mono b0.size))
      | (go_at_call 26; refine (unhide CT).mono ?_; rintro e w2 ⟨rfl, rfl⟩))
    refine bodyPost_ret (res_cell2 rfl _ _ w.heap.size ty0 rfl ((unhide B2).put ty0)) rfl ?_
    exact unhide NO (unhide HF) _ (put_below t2 (Nat.le_refl _) ty0)
  · rw [hi] at CT
    have HF := hide (fnd_yes ((unhide HO).trans hf))
    obtain ⟨va', vc', hvv, _, hcc⟩ := unhide HV0
    cases hvv
    obtain ⟨b, off, rfl, hce⟩ := hcc (by omega)
    have HD := hide (hce j hj)
    have hj0 : ¬ (j : Int) < 0 := by omega
    have hj1 : (j : Int) < (l.length : Int) := by omega
    have hj2 : (0 : Int) ≤ (j : Int) := by omega
    clear hf hi HO hcc hce HV0 NO
    generalize l.getD j ty0 = y at *
    go_enter Try.func10, Try.ntmps10
    go_wp2_with (first
      | (go_at_call 12; refine (unhide CK).mono ?_; rintro e w2 ⟨rfl, b2⟩; have B2 := hide ((unhide B0).keep b2); obtain ⟨c0, c1, c2, c3, c4, c5⟩ := (unhide B2).cells; simp only [Nat.zero_add] at c1 c2 c3 c4 c5; obtain ⟨d0, d1, d2, d3, d4, d5⟩ := (unhide HD).below b2; have f0 := (unhide B2).free 0; have f1 := (unhide B2).free 1; have f2 := (unhide B2).free 2; have f3 := (unhide B2).free 3; have f4 := (unhide B2).free 4; have f5 := (unhide B2).free 5; have t2 := b0.trans (b2.mono b0.size))
      | (go_at_call 26; refine (unhide CT).mono ?_; rintro e w2 ⟨rfl, rfl⟩))
    refine bodyPost_ret (res_cell2 rfl _ _ w.heap.size y rfl ((unhide B2).put y)) rfl ?_
    exact ⟨ret_av (unhide HF).1.symm (unhide HF).2.symm, put_below t2 (Nat.le_refl _) y⟩
end Go.Proofs.Ytoaoplfbnjajiaa
