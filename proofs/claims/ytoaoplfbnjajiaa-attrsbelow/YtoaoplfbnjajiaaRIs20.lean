/- The document's Line and Is of layer 20. -/
import Derived.Test.YtoaoplfbnjajiaaRLin20
import Derived.Deep.LoopGhost
namespace Go.Proofs.Ytoaoplfbnjajiaa
open Go.RowKit

theorem line_bad {l : List Ty} (h : okT l = false) (n : ByteArray) : lineT l n = [] := by unfold lineT; rw [find_bad h]
theorem ln_stop {l : List Ty} (h : okT l = true) {a : Ty} (e : a.abv = te) : ∀ k, lnF l k a = [a.nam]
  | 0 => rfl
  | k + 1 => by rw [lnF, e, fnd_empty h]
/-- A step up a line. -/
theorem line_step {l : List Ty} (h : okT l = true) {k j : Nat} (hu : upT l k (l.getD j ty0) = true) :
    (ixT l (l.getD j ty0).abv = -1 ∧ lnF l k (l.getD j ty0) = [(l.getD j ty0).nam]) ∨ ∃ m i : Nat, k = m + 1 ∧ i < l.length ∧ ixT l (l.getD j ty0).abv = (i : Int) ∧ upT l m (l.getD i ty0) = true ∧ lnF l k (l.getD j ty0) = (l.getD j ty0).nam :: lnF l m (l.getD i ty0) := by
  generalize l.getD j ty0 = y at *
  by_cases e : y.abv = te
  · left
    refine ⟨?_, ln_stop h e k⟩
    rcases ixT_fnd l y.abv with ⟨_, hi⟩ | ⟨i, _, _, hf⟩
    · exact hi
    · rw [e, fnd_empty h] at hf
      cases hf
  · right
    cases k with
    | zero => exact absurd (of_decide_eq_true hu) e
    | succ m =>
      rcases ixT_fnd l y.abv with ⟨hf, _⟩ | ⟨i, hi, hx, hf⟩
      · rw [up_none e hf] at hu; cases hu
      · by_cases hs : (l.getD i ty0).syn = y.syn
        · rw [up_more e hf hs] at hu
          exact ⟨m, i, rfl, hi, hx, hu, by rw [lnF, hf]⟩
        · rw [up_syn e hf hs] at hu; cases hu
set_option maxHeartbeats 3200000 in
theorem rline_any (v : Value) (l : List Ty) (n : ByteArray) (w : World) (hV : TysV w v l) : Calls Try.prog 20 #[v, .string n] w fun e w' => ∃ u, e = .returned u ∧ Tx w.heap.size u (lineT l n) w' ∧ Below w.heap.size w w' := by
  obtain ⟨i0, hi, hz0, hz1, hz2⟩ := info_parts str_info
  have CK := hide (rchk20_any v l w hV)
  have HV := hide hV
  obtain ⟨va, vc, rfl⟩ := hV.shape
  clear hV
  cases hk : okT l
  · rw [chk_bad hk] at CK
    rw [line_bad hk]
    clear hk HV
    go_enter Try.func20, Try.ntmps20
    go_wp2_with (go_at_call 12; refine (unhide CK).mono ?_; rintro e w2 ⟨rfl, b2⟩)
    go_ret
    exact ⟨_, rfl, Tx.nil _ _, b2⟩
  rw [chk_ok hk] at CK
  have HK := hide hk
  have hlen : l.length ≤ 24 := by
    unfold okT at hk
    rw [Bool.and_eq_true] at hk
    exact of_decide_eq_true hk.1
  have CT := hide (fun x W (hb : Below w.heap.size w W) => rat_any _ l x W ((unhide HV).below hb))
  have HS : Hid ((ixT l n = -1 ∧ lineT l n = []) ∨ ∃ j : Nat, j < l.length ∧ ixT l n = (j : Int) ∧ upT l (l.length + 1) (l.getD j ty0) = true ∧ lnF l (l.length + 1) (l.getD j ty0) = lineT l n) := by
    rcases ixT_fnd l n with ⟨hf, hx⟩ | ⟨j, hj, hx, hf⟩
    · exact .inl ⟨hx, by unfold lineT; rw [find_ok hk, hf]⟩
    · refine .inr ⟨j, hj, hx, okT_up hk (by simp [List.getD, hj]), ?_⟩
      unfold lineT
      rw [find_ok hk, hf]
  clear hk
  generalize lineT l n = L at *
  go_enter Try.func20, Try.ntmps20
  go_wp2_with (first
    | (go_at_call 26; refine (unhide CT n _ b1).mono ?_; rintro e w3 ⟨rfl, rfl⟩)
    | (go_at_call 12; refine (unhide CK).mono ?_; rintro e w1 ⟨rfl, b1⟩))
  go_loopg [5, 6] (l.length + 2) (fun g vo vi wr => ∃ out : List ByteArray, Hid (Tx w.heap.size vo out wr) ∧ Below w.heap.size w wr ∧ ((vi = .int .i64 (-1) ∧ Hid (out = L)) ∨ ∃ k j : Nat, vi = .int .i64 (j : Int) ∧ j < l.length ∧ g = k + 1 ∧ out.length + k ≤ l.length + 1 ∧ Hid (upT l k (l.getD j ty0) = true) ∧ Hid (out ++ lnF l k (l.getD j ty0) = L)))
  case atStart =>
    refine ⟨[], Tx.nil _ _, b1, ?_⟩
    rcases unhide HS with ⟨h1, h2⟩ | ⟨j, h1, h2, h3, h4⟩
    · exact .inl ⟨by rw [h1], h2.symm⟩
    · exact .inr ⟨l.length + 1, j, by rw [h2], h1, rfl, by simp, h3, by show _ = _; rw [List.nil_append]; exact h4⟩
  case round =>
    clear HS CK
    obtain ⟨out, HT, hb, hrel⟩ := hrel
    have hsz := hb.size
    rcases hrel with ⟨rfl, HL⟩ | ⟨k, j, rfl, hj, rfl, hol, HU, HL⟩
    · go_wp2
      go_ret
      refine ⟨_, rfl, ?_, hb⟩
      rw [← unhide HL]
      exact unhide HT
    · have hj1 : (j : Int) < (l.length : Int) := by omega
      have hj2 : (0 : Int) ≤ (j : Int) := by omega
      obtain ⟨va', vc', hvv, _, hcc⟩ := unhide HV
      cases hvv
      obtain ⟨b, off, rfl, hce⟩ := hcc (by omega)
      obtain ⟨e0, e1, _⟩ := hce j hj
      have d0 := (hb.cell (cell_lt e0)).trans e0
      have HE1 := hide e1
      clear e0 e1
      have HST := hide (line_step (unhide HK) (unhide HU))
      obtain ⟨N, hN⟩ : ∃ N, N = out.length := ⟨_, rfl⟩
      have HN := hide hN
      rw [← hN] at hol
      have hm1 : N + 1 ≤ maxLen := by unfold maxLen; omega
      have hm2 : (N + 1) * 16 ≤ 140737488355328 := by omega
      clear hcc hce hN HU
      have CX := hide (unhide CT (l.getD j ty0).abv)
      generalize l.getD j ty0 = y at *
      rcases unhide HST with ⟨hx, hln⟩ | ⟨m, i, rfl, hi', hx, hu, hln⟩
      · rw [hx] at CX
        rw [hln] at HL
        clear HST hx hln CT
        go_wp2_with (first
          | (go_at_call 26; refine (unhide CX _ hb9).mono ?_; rintro e w3 ⟨rfl, rfl⟩)
          | (at_builtin; refine wpList_append_lies _ rfl _ _ 36 rfl w.heap.size 9 i0 _ 1 16 Try.underlying36 hi hz0 hz1 hz2 rfl (by omega) _ N _ rfl (World.ownsRow.alloc (Tx.own (unhide HN) (unhide HT)) _) ⟨wr.heap.size, 0, none⟩ 1 1 [.string _] rfl rfl (World.news_of_block (cs := #[.string _]) (t := 9) (fr := (0, 0)) (heap_new wr _)) (by simp [Value.oneCell']) (by omega) hm1 hm2 (by simp; omega) (wr.heap.size + 1) (by simp) ?_; intro g9 cap9 w9 hown9 hgrow9 hat9 hlt9; have hb9 := hb.trans (below_own (grown_one hgrow9) hsz (own_block (Tx.own (unhide HN) (unhide HT)))); have d9 := (hb9.cell (cell_lt (unhide HE1))).trans (unhide HE1); have HT9 := hide (Tx.push (unhide HN) hown9); clear hown9 hgrow9 hat9 hlt9))
        go_roundg k
        case measure => omega
        case rel => exact ⟨out ++ [y.nam], unhide HT9, hb9, .inl ⟨rfl, unhide HL⟩⟩
      · rw [hx] at CX
        rw [hln] at HL
        have HUU := hide hu
        clear HST hx hln CT hu
        go_wp2_with (first
          | (go_at_call 26; refine (unhide CX _ hb9).mono ?_; rintro e w3 ⟨rfl, rfl⟩)
          | (at_builtin; refine wpList_append_lies _ rfl _ _ 36 rfl w.heap.size 9 i0 _ 1 16 Try.underlying36 hi hz0 hz1 hz2 rfl (by omega) _ N _ rfl (World.ownsRow.alloc (Tx.own (unhide HN) (unhide HT)) _) ⟨wr.heap.size, 0, none⟩ 1 1 [.string _] rfl rfl (World.news_of_block (cs := #[.string _]) (t := 9) (fr := (0, 0)) (heap_new wr _)) (by simp [Value.oneCell']) (by omega) hm1 hm2 (by simp; omega) (wr.heap.size + 1) (by simp) ?_; intro g9 cap9 w9 hown9 hgrow9 hat9 hlt9; have hb9 := hb.trans (below_own (grown_one hgrow9) hsz (own_block (Tx.own (unhide HN) (unhide HT)))); have d9 := (hb9.cell (cell_lt (unhide HE1))).trans (unhide HE1); have HT9 := hide (Tx.push (unhide HN) hown9); clear hown9 hgrow9 hat9 hlt9))
        go_roundg (m + 1)
        case measure => omega
        case rel => exact ⟨out ++ [y.nam], unhide HT9, hb9, .inr ⟨m, i, rfl, hi', rfl, by rw [List.length_append, ← unhide HN]; simp; omega, unhide HUU, by show _ = _; rw [← unhide HL]; simp⟩⟩
end Go.Proofs.Ytoaoplfbnjajiaa
