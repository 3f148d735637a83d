/- The program's levels, Deep, width, contentsSize, size of layer 15. -/
import Derived.Test.YtcboggoindhmkaaOwn15
namespace Go.Proofs.Ytcboggoindhmkaa
open Go.RowKit

/-- How many levels elements have, counted up to k. -/
def lev (k : Nat) (l : List El) : Nat := if k = 0 then 0 else deepE.L l k
theorem deepL_le (k : Nat) (hk : 1 ≤ k) : ∀ l : List El, deepE.L l k ≤ k
  | [] => by simp [deepE.L]
  | e :: t => by
    simp only [deepE.L]
    have := deepE_le e k hk
    have := deepL_le k hk t
    omega
theorem lev_le (k : Nat) (l : List El) : lev k l ≤ k := by
  unfold lev
  split
  · omega
  · exact deepL_le k (by omega) l
theorem deep_lev (e : El) (k : Nat) : deepE e (k + 1) = 1 + lev k e.els := by
  cases e with
  | mk c m n s els =>
    simp only [deepE, lev, Nat.add_sub_cancel]
    by_cases h : k = 0
    · simp [h]
    · rw [if_pos (by omega), if_neg h]; omega
theorem lev_drop (l : List El) (i k : Nat) (h : i < l.length) : lev (k + 1) (l.drop i) = max (1 + lev k (l.getD i el0).els) (lev (k + 1) (l.drop (i + 1))) := by
  rw [← deep_lev]
  unfold lev
  rw [if_neg (by omega), if_neg (by omega), drop_cons l i h]
  simp only [deepE.L]
/-- An element of a row, laid open. -/
theorem ElV.L.at {w : World} {l : List El} {g off : Nat} (h : ElV.L w l g off) (i : Nat) (hi : i < l.length) : ∃ ad cap, w.cell? ⟨g, off + i * 5, none⟩ = some (.int .i64 (l.getD i el0).cls) ∧ w.cell? ⟨g, off + i * 5 + 1, none⟩ = some (.bool (l.getD i el0).made) ∧ w.cell? ⟨g, off + i * 5 + 2, none⟩ = some (.int .i64 (l.getD i el0).num) ∧ w.cell? ⟨g, off + i * 5 + 3, none⟩ = some (.string (l.getD i el0).con) ∧ w.cell? ⟨g, off + i * 5 + 4, none⟩ = some (.slice ad (l.getD i el0).els.length cap) ∧ ElV w (l.getD i el0) (.agg #[.int .i64 (l.getD i el0).cls, .bool (l.getD i el0).made, .int .i64 (l.getD i el0).num, .string (l.getD i el0).con, .slice ad (l.getD i el0).els.length cap]) := by
  obtain ⟨a0, a1, a2, a3, a4, q0, q1, q2, q3, q4, hv⟩ := h.get i hi
  obtain ⟨ad, cap, hv', _⟩ := hv.open
  cases hv'
  exact ⟨ad, cap, q0, q1, q2, q3, q4, hv⟩
set_option maxHeartbeats 1600000 in
theorem levels_step (k : Nat) (hk : k ≤ 100) (ih : ∀ k', k = k' + 1 → ∀ (l : List El) (v : Value) (w : World), ElsV w v l → Calls Try.prog 53 #[.int .i64 (k' : Int), v] w fun r w' => r = .returned (.int .i64 (lev k' l)) ∧ Gr w w')
    (l : List El) (v : Value) (w : World) (hV : ElsV w v l) : Calls Try.prog 53 #[.int .i64 (k : Int), v] w fun r w' => r = .returned (.int .i64 (lev k l)) ∧ Gr w w' := by
  obtain ⟨ad, cap, rfl, hn, hc⟩ := hV
  have HL := hide hc
  have HIH := hide ih
  clear ih hc
  go_enter Try.func53, Try.ntmps53
  go_wp2
  go_loopw [5, 10] (fun vd vi wr => ∃ (i d : Nat), i ≤ l.length ∧ vi = .int .i64 (i : Int) ∧ vd = .int .i64 (d : Int) ∧ d ≤ k ∧ Hid (lev k l = max d (lev k (l.drop i))) ∧ Gr w wr) (fun _ i _ => l.length - (intOf i).toNat)
  case atStart => exact ⟨0, 0, Nat.zero_le _, rfl, rfl, Nat.zero_le _, (by show _ = _; simp), Gr.refl _⟩
  case round =>
    obtain ⟨i, d, hi, rfl, rfl, hd, HB, hnx⟩ := hrel
    by_cases hlt : i < l.length
    · have hzl : (i : Int) < (l.length : Int) := by omega
      have hz0 : (0 : Int) ≤ (i : Int) := by omega
      obtain ⟨g, off, rfl, hl⟩ := (unhide HL).resolve_left (by omega)
      obtain ⟨ad', cap', q0, q1, q2, q3, q4, hv⟩ := hl.at i hlt
      have k0 := hnx.cell q0
      have k1 := hnx.cell q1
      have k2 := hnx.cell q2
      have k3 := hnx.cell q3
      have k4 := hnx.cell q4
      by_cases hdk : d = k
      · have HE : Hid (lev k l = d) := by
          show _ = _
          rw [unhide HB]
          have := lev_le k (l.drop i)
          omega
        have z : ((d : Int) == (k : Int)) = true := by simp [hdk]
        clear HIH HL HB q0 q1 q2 q3 q4 hv hl
        generalize l.getD i el0 = e at *
        go_wp2
        go_ret
        exact ⟨ret_int (by rw [unhide HE]), hnx.alloc _⟩
      · obtain ⟨k', rfl⟩ : ∃ k', k = k' + 1 := ⟨k - 1, by omega⟩
        have z : ((d : Int) == ((k' + 1 : Nat) : Int)) = false := by simpa using (by omega : ¬ (d : Int) = ((k' + 1 : Nat) : Int))
        have wk : IntKind.i64.wrap (((k' + 1 : Nat) : Int) - 1) = (k' : Int) := (wrap_in (by omega) (by omega)).trans (by omega)
        have CI := unhide HIH k' rfl (l.getD i el0).els _ (wr.alloc (.cells #[.int .i64 (l.getD i el0).cls, .bool (l.getD i el0).made, .int .i64 (l.getD i el0).num, .string (l.getD i el0).con, .slice ad' (l.getD i el0).els.length cap'] 26)) (hv.els.below (hnx.alloc _).below)
        have HS := hide (lev_drop l i k' hlt)
        have hle := lev_le k' (l.getD i el0).els
        clear q0 q1 q2 q3 q4 hv hl HIH HL
        generalize l.getD i el0 = e at *
        generalize lev k' e.els = y at *
        have wy : IntKind.i64.wrap (1 + (y : Int)) = 1 + (y : Int) := wrap_in (by omega) (by omega)
        generalize ((k' + 1 : Nat) : Int) = kk at *
        by_cases hm : d < 1 + y
        · have hmz : (d : Int) < 1 + (y : Int) := by omega
          go_wp2_with (go_at_call 53; refine CI.mono ?_; rintro e w2 ⟨rfl, g2⟩)
          go_roundw
          case rel => exact ⟨i + 1, 1 + y, by omega, by go_num, by go_num, by omega, (by show _ = _; rw [unhide HB, unhide HS]; omega), (hnx.alloc _).trans g2⟩
          case measure => simp [intOf]; omega
        · have hmz : ¬ (d : Int) < 1 + (y : Int) := by omega
          go_wp2_with (go_at_call 53; refine CI.mono ?_; rintro e w2 ⟨rfl, g2⟩)
          go_roundw
          case rel => exact ⟨i + 1, d, by omega, by go_num, rfl, by omega, (by show _ = _; rw [unhide HB, unhide HS]; omega), (hnx.alloc _).trans g2⟩
          case measure => simp [intOf]; omega
    · have hzl : ¬ (i : Int) < (l.length : Int) := by omega
      have HE : Hid (lev k l = d) := by
        show _ = _
        rw [unhide HB, List.drop_eq_nil_of_le (by omega)]
        simp [lev, deepE.L]
      clear HIH HL
      go_wp2
      go_ret
      exact ⟨ret_int (by rw [unhide HE]), hnx⟩
theorem levels_any : ∀ (k : Nat), k ≤ 100 → ∀ (l : List El) (v : Value) (w : World), ElsV w v l → Calls Try.prog 53 #[.int .i64 (k : Int), v] w fun r w' => r = .returned (.int .i64 (lev k l)) ∧ Gr w w'
  | 0, hk, l, v, w, h => levels_step 0 hk (fun k' e => by omega) l v w h
  | k + 1, hk, l, v, w, h => levels_step (k + 1) hk (fun k' e => by
      have : k = k' := by omega
      subst this
      exact levels_any k (by omega)) l v w h
theorem els_1 {w : World} {e : El} {a0 a1 a2 a3 a4 : Value} {T : TypeId} {g : Nat} (hg : g = w.heap.size) (h : ElV w e (.agg #[a0, a1, a2, a3, a4])) : ElsV (w.alloc (.cells #[a0, a1, a2, a3, a4] T)) (.slice (some ⟨g, 0, none⟩) 1 1) [e] := by
  subst hg
  obtain ⟨k0, k1, k2, k3, k4⟩ := box5 (w := w) (T := T) (a0 := a0) (a1 := a1) (a2 := a2) (a3 := a3) (a4 := a4) (Gr.refl _)
  refine ⟨_, 1, rfl, by simp, .inr ⟨w.heap.size, 0, rfl, ?_⟩⟩
  simp only [ElV.L]
  exact ⟨⟨a0, a1, a2, a3, a4, k0, k1, k2, k3, k4, h.grow (Gr.one w _).below⟩, trivial⟩
set_option maxHeartbeats 400000 in
theorem pdeep_any (e : El) (v : Value) (w : World) (hV : ElV w e v) : Calls Try.prog 42 #[v] w fun r w' => r = .returned (.int .i64 (deepE e 13)) ∧ Gr w w' := by
  obtain ⟨ad, cap, hv, _⟩ := hV.open
  subst hv
  have H1 := levels_any 13 (by omega) [e] _ _ (els_1 (T := 26) (g := w.heap.size + 1) (by simp) (hV.grow (Gr.one w (.cells #[.int .i64 e.cls, .bool e.made, .int .i64 e.num, .string e.con, .slice ad e.els.length cap] 26)).below))
  have he : lev 13 [e] = deepE e 13 := by simp [lev, deepE.L]
  rw [he] at H1
  clear he hV
  generalize ((deepE e 13 : Nat) : Int) = x at *
  go_enter Try.func42, Try.ntmps42
  go_wp2_with (go_at_call 53; refine H1.mono ?_; rintro e w2 ⟨rfl, g2⟩)
  go_ret
  exact ⟨rfl, ((Gr.one w _).alloc _).trans g2⟩
/-- How many bytes a length has. -/
def wid (n : Int) : Int := if n < 128 then 1 else if n < 256 then 2 else 3
set_option maxHeartbeats 400000 in
theorem width_any (n : Int) (w : World) : Calls Try.prog 45 #[.int .i64 n] w fun r w' => r = .returned (.int .i64 (wid n)) ∧ w = w' := by
  unfold wid
  by_cases h1 : n < 128
  · rw [if_pos h1]
    go_enter Try.func45, Try.ntmps45
    go_wp2
    go_ret
    exact ⟨rfl, rfl⟩
  · rw [if_neg h1]
    by_cases h2 : n < 256
    · rw [if_pos h2]
      go_enter Try.func45, Try.ntmps45
      go_wp2
      go_ret
      exact ⟨rfl, rfl⟩
    · rw [if_neg h2]
      go_enter Try.func45, Try.ntmps45
      go_wp2
      go_ret
      exact ⟨rfl, rfl⟩
/-- The bytes of some, but no more than 4001; those of an element's contents. -/
def szL (l : List El) : Nat := if sumS l ≤ 4000 then sumS l else 4001
def inE (e : El) : Nat := if e.made then szL e.els else e.con.size
theorem sizeL_le : ∀ (l : List El) (n : Nat), sizeE.L l n ≤ n + sumS l
  | [], n => by simp [sizeE.L, sumS]
  | e :: t, n => by
    simp only [sizeE.L, sumS]
    split
    · have := sizeL_le t (n + sizeE e); omega
    · omega
theorem size_in (e : El) (hf : fineE e = true) : sizeE e = hdr (inE e) := by
  cases e with
  | mk c m n s els =>
    obtain ⟨_, _, _, _, _, fm, fn⟩ := fine_parts hf
    simp only [sizeE, inE]
    cases m
    · rw [fn rfl]; simp [sizeE.L]
    · rw [fm rfl]
      simp only [if_true]
      unfold szL
      by_cases h : sumS els ≤ 4000
      · rw [if_pos h]
        have h1 := sizeL_le els 0
        have h2 := sizeL_sum els 0 (by omega)
        rw [h2, Nat.zero_add]
      · rw [if_neg h]
        have : ¬ sizeE.L els 0 ≤ 4000 := fun h2 => by have := sizeL_sum els 0 h2; omega
        unfold hdr
        rw [if_pos (by omega), if_pos (by omega)]
theorem sumS_app : ∀ a b : List El, sumS (a ++ b) = sumS a + sumS b
  | [], b => by simp [sumS]
  | e :: t, b => by simp only [List.cons_append, sumS, sumS_app t b]; omega
theorem sumS_take (l : List El) (i : Nat) (h : i < l.length) : sumS (l.take (i + 1)) = sumS (l.take i) + sizeE (l.getD i el0) := by
  rw [take_el l i h, sumS_app]; simp [sumS]
theorem sumS_take_le (l : List El) (i : Nat) : sumS (l.take i) ≤ sumS l := by
  have : sumS l = sumS (l.take i) + sumS (l.drop i) := by rw [← sumS_app, List.take_append_drop]
  omega
theorem hdr_wid (n : Nat) (h : n ≤ 4000) : ((hdr n : Nat) : Int) = 1 + wid n + n ∧ hdr n ≤ 4004 := by
  unfold hdr wid
  rw [if_neg (by omega)]
  by_cases h1 : n < 128
  · rw [if_neg (by omega), if_neg (by omega), if_pos (by omega)]; omega
  · by_cases h2 : n < 256
    · rw [if_neg (by omega), if_pos (by omega), if_neg (by omega), if_pos (by omega)]; omega
    · rw [if_pos (by omega), if_neg (by omega), if_neg (by omega)]; omega
theorem wid_in (n : Int) : 1 ≤ wid n ∧ wid n ≤ 3 := by unfold wid; repeat' split <;> omega
/-- contentsSize answers as it should. -/
def CsOk (e : El) : Prop := ∀ (v : Value) (w : World), ElV w e v → Calls Try.prog 44 #[v] w fun r w' => r = .returned (.int .i64 (inE e)) ∧ Gr w w'
set_option maxHeartbeats 3200000 in
theorem size_of (l : List El) (hf : ∀ e, e ∈ l → fineE e = true) (hC : ∀ e, e ∈ l → CsOk e) (v : Value) (w : World) (hV : ElsV w v l) : Calls Try.prog 36 #[v] w fun r w' => r = .returned (.int .i64 (szL l)) ∧ Gr w w' := by
  obtain ⟨ad, cap, rfl, hn, hc⟩ := hV
  have HL := hide hc
  have HC := hide hC
  have HF := hide hf
  clear hC hc hf
  go_enter Try.func36, Try.ntmps36
  go_wp2
  go_loopw [3, 9] (fun vx vi wr => ∃ (i x : Nat), i ≤ l.length ∧ vi = .int .i64 (i : Int) ∧ vx = .int .i64 (x : Int) ∧ x ≤ 8100 ∧ Hid (sumS (l.take i) = x) ∧ Gr w wr) (fun _ i _ => l.length - (intOf i).toNat)
  case atStart => exact ⟨0, 0, Nat.zero_le _, rfl, rfl, by omega, (by show _ = _; simp [sumS]), Gr.refl _⟩
  case round =>
    obtain ⟨i, x, hi, rfl, rfl, hx, HB, hnx⟩ := hrel
    by_cases hlt : i < l.length
    · have hzl : (i : Int) < (l.length : Int) := by omega
      have hz0 : (0 : Int) ≤ (i : Int) := by omega
      obtain ⟨g, off, rfl, hl⟩ := (unhide HL).resolve_left (by omega)
      obtain ⟨ad', cap', q0, q1, q2, q3, q4, hv⟩ := hl.at i hlt
      have k0 := hnx.cell q0
      have k1 := hnx.cell q1
      have k2 := hnx.cell q2
      have k3 := hnx.cell q3
      have k4 := hnx.cell q4
      have CI := unhide HC _ (getD_mem l i hlt) _ (wr.alloc (.cells #[.int .i64 (l.getD i el0).cls, .bool (l.getD i el0).made, .int .i64 (l.getD i el0).num, .string (l.getD i el0).con, .slice ad' (l.getD i el0).els.length cap'] 26)) (hv.grow (hnx.alloc _).below)
      have HZ := hide (size_in _ (unhide HF _ (getD_mem l i hlt)))
      have HS := hide (sumS_take l i hlt)
      have HTL := hide (sumS_take_le l (i + 1))
      clear q0 q1 q2 q3 q4 hv hl HL HC HF
      generalize l.getD i el0 = e at *
      generalize inE e = y at *
      by_cases hxy : 4000 < x ∨ 4000 < y
      · have HE : Hid (szL l = 4001) := by
          show _ = _
          unfold szL
          rw [if_neg]
          have h1 := unhide HS
          have h2 := unhide HTL
          have h3 := unhide HB
          have h4 := unhide HZ
          rcases hxy with h | h
          · omega
          · have : hdr y = 100000 := by unfold hdr; rw [if_pos h]
            omega
        clear HS HTL HB HZ
        by_cases hx4 : 4000 < x
        · have zx : (4000 : Int) < (x : Int) := by omega
          go_wp2_with (go_at_call 44; refine CI.mono ?_; rintro e w2 ⟨rfl, g2⟩)
          go_ret
          exact ⟨ret_int (by rw [unhide HE]; rfl), (hnx.alloc _).trans g2⟩
        · have zx : ¬ (4000 : Int) < (x : Int) := by omega
          have zy : (4000 : Int) < (y : Int) := by omega
          go_wp2_with (go_at_call 44; refine CI.mono ?_; rintro e w2 ⟨rfl, g2⟩)
          go_ret
          exact ⟨ret_int (by rw [unhide HE]; rfl), (hnx.alloc _).trans g2⟩
      · have zx : ¬ (4000 : Int) < (x : Int) := by omega
        have zy : ¬ (4000 : Int) < (y : Int) := by omega
        have CW := hide (fun W => width_any (y : Int) W)
        obtain ⟨e1, e2⟩ := hdr_wid y (by omega)
        obtain ⟨e3, e4⟩ := wid_in (y : Int)
        have HH := hide e1
        clear e1
        generalize wid (y : Int) = u at *
        generalize hdr y = hy at *
        have w1 : IntKind.i64.wrap (1 + u) = 1 + u := wrap_in (by omega) (by omega)
        have w2 : IntKind.i64.wrap (1 + u + (y : Int)) = 1 + u + (y : Int) := wrap_in (by omega) (by omega)
        have w3 : IntKind.i64.wrap ((x : Int) + (1 + u + (y : Int))) = (x : Int) + (1 + u + (y : Int)) := wrap_in (by omega) (by omega)
        go_wp2_with (first
          | (go_at_call 45; refine (unhide CW _).mono ?_; rintro e w3 ⟨rfl, rfl⟩)
          | (go_at_call 44; refine CI.mono ?_; rintro e w2 ⟨rfl, g2⟩))
        go_roundw
        case rel => exact ⟨i + 1, x + hy, by omega, by go_num, (by have := unhide HH; go_num), (by omega), (by show _ = _; rw [unhide HS, unhide HB, unhide HZ]), (hnx.alloc _).trans g2⟩
        case measure => simp [intOf]; omega
    · have hzl : ¬ (i : Int) < (l.length : Int) := by omega
      have HX : Hid (sumS l = x) := by
        show _ = _
        rw [← unhide HB, List.take_of_length_le (by omega)]
      clear HL HC HF HB
      by_cases hx4 : x ≤ 4000
      · have z1 : ¬ (4001 : Int) < (x : Int) := by omega
        go_wp2
        go_ret
        exact ⟨ret_int (by unfold szL; rw [unhide HX, if_pos hx4]), hnx⟩
      · by_cases hx5 : x = 4001
        · subst hx5
          go_wp2
          go_ret
          exact ⟨ret_int (by unfold szL; rw [unhide HX, if_neg hx4]; rfl), hnx⟩
        · have z1 : (4001 : Int) < (x : Int) := by omega
          go_wp2
          go_ret
          exact ⟨ret_int (by unfold szL; rw [unhide HX, if_neg hx4]; rfl), hnx⟩
set_option maxHeartbeats 1600000 in
theorem cs_any (e : El) : fineE e = true → CsOk e := by
  induction e using El.ind with
  | h c m n s els ih =>
    intro hf v w hV
    obtain ⟨f0, _⟩ := fine_parts hf
    have hall := fineL_mem els f0
    obtain ⟨ad, cap, hv, _⟩ := hV.open
    subst hv
    cases m
    · have HE : Hid (inE (.mk c false n s els) = s.size) := rfl
      clear ih hf f0 hall hV
      generalize inE (.mk c false n s els) = z at *
      simp only
      go_enter Try.func44, Try.ntmps44
      go_wp2
      go_ret
      exact ⟨ret_int (by rw [unhide HE]), Gr.one w _⟩
    · have HE : Hid (inE (.mk c true n s els) = szL els) := rfl
      have CI := size_of els hall (fun e he => ih e he (hall e he)) _ (w.alloc (.cells #[.int .i64 c, .bool true, .int .i64 n, .string s, .slice ad els.length cap] 26)) (hV.els.below (Gr.one w _).below)
      clear ih hf f0 hall hV
      generalize szL els = z at *
      go_enter Try.func44, Try.ntmps44
      go_wp2_with (go_at_call 36; refine CI.mono ?_; rintro e w2 ⟨rfl, g2⟩)
      go_ret
      exact ⟨ret_int (by rw [unhide HE]), (Gr.one w _).trans g2⟩
theorem size_any (l : List El) (hf : ∀ e, e ∈ l → fineE e = true) (v : Value) (w : World) (hV : ElsV w v l) : Calls Try.prog 36 #[v] w fun r w' => r = .returned (.int .i64 (szL l)) ∧ Gr w w' :=
  size_of l hf (fun e he => cs_any e (hf e he)) v w hV
end Go.Proofs.Ytcboggoindhmkaa
