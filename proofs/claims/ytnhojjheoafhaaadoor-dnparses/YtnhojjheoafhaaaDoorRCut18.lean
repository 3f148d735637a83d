/- The document's unhex and cut of layer 18. -/
import Derived.Test.YtnhojjheoafhaaaDoorMatht18
import Derived.Test.YtnhojjheoafhaaaDoorTxt18
import Derived.Deep.AppendLies
import Derived.OwnWalk
namespace Go.Proofs.YtnhojjheoafhaaaDoor
set_option maxRecDepth 100000
open Go.RowKit

set_option maxHeartbeats 1600000 in
theorem runhex_any (c : Int) (w : World) (h0 : 0 ≤ c) (h1 : c < 256) : Calls Tryd.prog 32 #[.int .u8 c] w fun e w' => e = .returned (.int .i64 (unh c)) ∧ w = w' := by
  have w0 : IntKind.i64.wrap c = c := wrap_in (by omega) (by omega)
  have w1 : IntKind.i64.wrap (c - 48) = c - 48 := wrap_in (by omega) (by omega)
  have w2 : IntKind.i64.wrap (c - 87) = c - 87 := wrap_in (by omega) (by omega)
  have w3 : IntKind.i64.wrap (c - 55) = c - 55 := wrap_in (by omega) (by omega)
  by_cases a1 : 48 ≤ c <;> by_cases a2 : c ≤ 57 <;> by_cases a3 : 97 ≤ c <;> by_cases a4 : c ≤ 102 <;> by_cases a5 : 65 ≤ c <;> by_cases a6 : c ≤ 70 <;> first
    | (exfalso; omega)
    | (have HE : Hid (unh c = (if 48 ≤ c ∧ c ≤ 57 then c - 48 else if 97 ≤ c ∧ c ≤ 102 then c - 87 else if 65 ≤ c ∧ c ≤ 70 then c - 55 else 16)) := rfl
       simp only [a1, a2, a3, a4, a5, a6, and_true, and_false, if_true, if_false] at HE
       rw [unhide HE]
       clear HE
       go_enter Tryd.func32, Tryd.ntmps32
       go_wp2
       go_ret
       exact ⟨rfl, rfl⟩)
/-- What stands from one place to another one. -/
def seg (l : List Int) (f i : Nat) : List Int := (l.drop f).take (i - f)
theorem seg_next {l : List Int} {f i : Nat} (hf : f ≤ i) (hi : i < l.length) : seg l f (i + 1) = seg l f i ++ [l.getD i 0] := by
  unfold seg
  rw [show i + 1 - f = (i - f) + 1 by omega, List.take_succ_eq_append_getElem (by rw [List.length_drop]; omega)]
  simp [List.getD, show f + (i - f) = i by omega, hi]
theorem seg_nil (l : List Int) (f : Nat) : seg l f f = [] := by unfold seg; simp
theorem seg_end {l : List Int} {f i : Nat} (hi : l.length ≤ i) (hf : f ≤ l.length) : seg l f i = l.drop f := by
  unfold seg
  exact List.take_of_length_le (by rw [List.length_drop]; omega)
theorem cutA {l : List Int} {d : Int} {f i : Nat} (hf : f ≤ i) (hi : i < l.length) (h : l.getD i 0 = 92) : cutG d (seg l f i) (l.drop i) = cutG d (seg l f (i + 2)) (l.drop (i + 2)) := by
  rw [drop_consI l i hi, h]
  by_cases hl : i + 1 < l.length
  · rw [drop_consI l (i + 1) hl, cutG_esc, show i + 2 = (i + 1) + 1 by rfl, seg_next (by omega) hl, seg_next hf hi, h]
    simp
  · have e2 : seg l f (i + 2) = l.drop f := seg_end (by omega) (by omega)
    have e1 := seg_next hf hi
    rw [seg_end (by omega) (by omega), h] at e1
    rw [List.drop_eq_nil_of_le (show l.length ≤ i + 1 by omega), List.drop_eq_nil_of_le (show l.length ≤ i + 2 by omega), cutG_last, cutG_nil, e2, e1]
theorem cutB {l : List Int} {d : Int} {f i : Nat} (hd : d ≠ 92) (hi : i < l.length) (h : l.getD i 0 = d) : cutG d (seg l f i) (l.drop i) = seg l f i :: cutG d (seg l (i + 1) (i + 1)) (l.drop (i + 1)) := by
  rw [drop_consI l i hi, h, cutG_sep d _ _ hd, seg_nil]
theorem cutC {l : List Int} {d : Int} {f i : Nat} (hf : f ≤ i) (hi : i < l.length) (h : l.getD i 0 ≠ 92) (h2 : l.getD i 0 ≠ d) : cutG d (seg l f i) (l.drop i) = cutG d (seg l f (i + 1)) (l.drop (i + 1)) := by
  rw [drop_consI l i hi, cutG_one d _ _ _ h h2, seg_next hf hi]
/-- A row of texts of the call's own. -/
def Tx (B : Nat) (v : Value) (ps : List ByteArray) (w : World) : Prop := w.ownsRow B 9 1 v ps.length (ps.map Value.string)
theorem Tx.below {w w2 : World} {B : Nat} {v : Value} {ps : List ByteArray} (h : Tx B v ps w) (hb : Below w.heap.size w w2) : Tx B v ps w2 := own_below h hb
theorem Tx.own {w : World} {B N : Nat} {v : Value} {ps : List ByteArray} (hN : N = ps.length) (h : Tx B v ps w) : w.ownsRow B 9 1 v N (ps.map Value.string) := by subst hN; exact h
theorem Tx.push {w : World} {B N : Nat} {v : Value} {ps : List ByteArray} {p : ByteArray} (hN : N = ps.length) (h : w.ownsRow B 9 1 v (N + 1) (ps.map Value.string ++ [.string p])) : Tx B v (ps ++ [p]) w := by
  subst hN
  unfold Tx
  rw [List.length_append, List.map_append]
  exact h
theorem Tx.at {w : World} {B : Nat} {v : Value} {ps : List ByteArray} (h : Tx B v ps w) (hp : 0 < ps.length) : ∃ g c, v = .slice (some ⟨g, 0, none⟩) ps.length c ∧ ∀ j, j < ps.length → w.cell? ⟨g, j, none⟩ = some (.string (ps.getD j ByteArray.empty)) := by
  rcases h.2 with ⟨_, h0⟩ | ⟨g, cap, cur, hv, _⟩
  · omega
  · refine ⟨g, cap, hv, fun j hj => ?_⟩
    have := World.ownsRow.cells h (g := g) (by rw [hv]; rfl) j (.string (ps.getD j ByteArray.empty)) (by simp [List.getD, hj])
    rwa [add_zero3] at this
theorem str_info : (Tryd.prog.info? 9).map (fun i => (i.zero, i.size, i.bytes)) = some (some (.string ⟨#[]⟩), 1, 16) := by kernel_rfl
theorem grown_one {w w2 : World} {row : Option Nat} {o : Obj} (h : (w.alloc o).grownBy w2 row) : w.grownBy w2 row := (World.grownBy_alloc w o row).trans h
set_option maxHeartbeats 6400000 in
theorem rcut_any (s : ByteArray) (d : Int) (hd : d ≠ 92) (w : World) (hs : s.size ≤ 3000) : Calls Tryd.prog 12 #[.string s, .int .u8 d] w fun e w' => ∃ v ps, e = .returned v ∧ ps.map nums = cutG d [] (nums s) ∧ (∀ p ∈ ps, p.size ≤ s.size) ∧ ps.length ≤ s.size + 1 ∧ Tx w.heap.size v ps w' ∧ Below w.heap.size w w' := by
  obtain ⟨i0, hi, hz0, hz1, hz2⟩ := info_parts str_info
  have hnl := nums_length s
  go_enter Tryd.func12, Tryd.ntmps12
  go_wp2
  go_loopw [5, 6, 7] (fun vo vf vi wr => ∃ (f i : Nat) (ps : List ByteArray), vf = .int .i64 (f : Int) ∧ vi = .int .i64 (i : Int) ∧ f ≤ i ∧ f ≤ s.size ∧ i ≤ s.size + 1 ∧ ps.length ≤ f ∧ (∀ p ∈ ps, p.size ≤ s.size) ∧ Hid (ps.map nums ++ cutG d (seg (nums s) f i) ((nums s).drop i) = cutG d [] (nums s)) ∧ Hid (Tx w.heap.size vo ps wr) ∧ Below w.heap.size w wr) (fun _ _ i _ => s.size + 2 - (intOf i).toNat)
  case atStart => exact ⟨0, 0, [], rfl, rfl, Nat.le_refl _, Nat.zero_le _, Nat.zero_le _, Nat.le_refl _, fun p hp => by simp at hp, by show _ = _; simp [seg], ⟨rfl, .inl ⟨rfl, rfl⟩⟩, Below.refl _ _⟩
  case round =>
    obtain ⟨f, i, ps, rfl, rfl, hfi, hfs, his, hpl, hps, HG, HT, hb⟩ := hrel
    have hsz := hb.size
    have zf0 : (0 : Int) ≤ (f : Int) := by omega
    have zfs : (f : Int) ≤ (s.size : Int) := by omega
    obtain ⟨N, hN⟩ : ∃ N, N = ps.length := ⟨_, rfl⟩
    have HN := hide hN
    rw [← hN] at hpl
    clear hN
    have hm1 : N + 1 ≤ maxLen := by unfold maxLen; omega
    have hm2 : (N + 1) * 16 ≤ 140737488355328 := by omega
    by_cases hlt : i < s.size
    · have hzl : (i : Int) < (s.size : Int) := by omega
      have hz0' : (0 : Int) ≤ (i : Int) := by omega
      have zfi : (f : Int) ≤ (i : Int) := by omega
      have zis : (i : Int) ≤ (s.size : Int) := by omega
      obtain ⟨c, hc⟩ : ∃ c : Int, (s[i].toNat : Int) = c := ⟨_, rfl⟩
      have HAT : Hid ((nums s).getD i 0 = c) := by show _ = _; rw [nums_at s i hlt]; exact hc
      by_cases h92 : c = 92
      · have HG2 : Hid (ps.map nums ++ cutG d (seg (nums s) f (i + 2)) ((nums s).drop (i + 2)) = cutG d [] (nums s)) := by
          show _ = _
          rw [← cutA hfi (by omega) (by rw [unhide HAT]; exact h92)]
          exact unhide HG
        have wi : IntKind.i64.wrap ((i : Int) + 1) = (i : Int) + 1 := wrap_in (by omega) (by omega)
        have wi2 : IntKind.i64.wrap ((i : Int) + 1 + 1) = (i : Int) + 1 + 1 := wrap_in (by omega) (by omega)
        clear HG HAT
        subst h92
        go_wp2
        go_roundw
        case rel => exact ⟨f, i + 2, ps, rfl, by go_num, by omega, hfs, by omega, by rw [← unhide HN]; exact hpl, hps, unhide HG2, unhide HT, hb⟩
        case measure => simp [intOf]; omega
      have h92' : (c == 92) = false := by rw [beq_eq_false_iff_ne]; exact h92
      by_cases hcd : c = d
      · have HG2 : Hid ((ps ++ [s.extract f i]).map nums ++ cutG d (seg (nums s) (i + 1) (i + 1)) ((nums s).drop (i + 1)) = cutG d [] (nums s)) := by
          show _ = _
          have := unhide HG
          rw [cutB hd (by omega) (by rw [unhide HAT]; exact hcd)] at this
          rw [← this, List.map_append, List.map_cons, List.map_nil, nums_sub]
          simp [seg]
        have wi : IntKind.i64.wrap ((i : Int) + 1) = (i : Int) + 1 := wrap_in (by omega) (by omega)
        have HPS : Hid (∀ p ∈ ps ++ [s.extract f i], p.size ≤ s.size) := fun p hp => by
          rcases List.mem_append.1 hp with h | h
          · exact hps p h
          · rw [List.mem_singleton.1 h, ByteArray.size_extract]; omega
        clear HG HAT
        subst hcd
        go_wp2_with (at_builtin; refine wpList_append_lies _ rfl _ _ 41 rfl w.heap.size 9 i0 _ 1 16 Tryd.underlying41 hi hz0 hz1 hz2 rfl (by omega) _ N _ rfl (World.ownsRow.alloc (Tx.own (unhide HN) (unhide HT)) _) ⟨wr.heap.size, 0, none⟩ 1 1 [.string _] rfl rfl (World.news_of_block (cs := #[.string _]) (t := 9) (fr := (0, 0)) (heap_new wr _)) (by simp [Value.oneCell']) (by omega) hm1 hm2 (by simp; omega) (wr.heap.size + 1) (by simp) ?_; intro g9 cap9 w9 hown9 hgrow9 hat9 hlt9)
        go_roundw
        case rel => exact ⟨i + 1, i + 1, _, by go_num, by go_num, Nat.le_refl _, by omega, by omega, by rw [List.length_append, ← unhide HN]; simp; omega, unhide HPS, unhide HG2, Tx.push (unhide HN) hown9, hb.trans (below_own (grown_one hgrow9) hsz (own_block (Tx.own (unhide HN) (unhide HT))))⟩
        case measure => simp [intOf]; omega
      · have HG2 : Hid (ps.map nums ++ cutG d (seg (nums s) f (i + 1)) ((nums s).drop (i + 1)) = cutG d [] (nums s)) := by
          show _ = _
          rw [← cutC hfi (by omega) (by rw [unhide HAT]; exact h92) (by rw [unhide HAT]; exact hcd)]
          exact unhide HG
        have hcd' : (c == d) = false := by rw [beq_eq_false_iff_ne]; exact hcd
        clear HG HAT
        go_wp2
        go_roundw
        case rel => exact ⟨f, i + 1, ps, rfl, by go_num, by omega, hfs, by omega, by rw [← unhide HN]; exact hpl, hps, unhide HG2, unhide HT, hb⟩
        case measure => simp [intOf]; omega
    · have hzl : ¬ (i : Int) < (s.size : Int) := by omega
      have HE : Hid ((ps ++ [s.extract f s.size]).map nums = cutG d [] (nums s)) := by
        show _ = _
        have := unhide HG
        rw [List.drop_eq_nil_of_le (by omega), cutG_nil, seg_end (by omega) (by omega)] at this
        rw [← this, List.map_append, List.map_cons, List.map_nil, nums_drop]
      have HPS : Hid (∀ p ∈ ps ++ [s.extract f s.size], p.size ≤ s.size) := fun p hp => by
        rcases List.mem_append.1 hp with h | h
        · exact hps p h
        · rw [List.mem_singleton.1 h, ByteArray.size_extract]; omega
      clear HG
      go_wp2_with (at_builtin; refine wpList_append_lies _ rfl _ _ 41 rfl w.heap.size 9 i0 _ 1 16 Tryd.underlying41 hi hz0 hz1 hz2 rfl (by omega) _ N _ rfl (World.ownsRow.alloc (Tx.own (unhide HN) (unhide HT)) _) ⟨wr.heap.size, 0, none⟩ 1 1 [.string _] rfl rfl (World.news_of_block (cs := #[.string _]) (t := 9) (fr := (0, 0)) (heap_new wr _)) (by simp [Value.oneCell']) (by omega) hm1 hm2 (by simp; omega) (wr.heap.size + 1) (by simp) ?_; intro g9 cap9 w9 hown9 hgrow9 hat9 hlt9)
      go_ret
      refine ⟨.slice (some ⟨g9, 0, none⟩) (N + 1) cap9, rfl, ps ++ [s.extract f s.size], unhide HE, unhide HPS, ?_, Tx.push (unhide HN) hown9, hb.trans (below_own (grown_one hgrow9) hsz (own_block (Tx.own (unhide HN) (unhide HT))))⟩
      rw [List.length_append, ← unhide HN]; simp; omega
end Go.Proofs.YtnhojjheoafhaaaDoor
