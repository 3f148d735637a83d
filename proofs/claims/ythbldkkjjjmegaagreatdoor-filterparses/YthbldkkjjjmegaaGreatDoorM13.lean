/- The document's extended of layer 24. (By gen_re.py.) -/
import Derived.Test.YthbldkkjjjmegaaGreatDoorM12
import Derived.Test.YthbldkkjjjmegaaGreatDoorM09
import Derived.Deep.CutRange
namespace Go.Proofs.YthbldkkjjjmegaaGreatDoor
set_option maxRecDepth 100000
open Go.RowKit

theorem froz11 {W : World} {B : Nat} {cs : Array Value} {T : TypeId} (h : W.heap[B]? = some (.cells cs T)) (j : Nat) : W.frozen? ⟨B, j, none⟩ = false := by simp [World.frozen?, h]
theorem dn_no {q : ByteArray} (h : ¬ q = dnT) : (q.toList == [100, 110]) = false := by
  have e : (⟨#[100, 110]⟩ : ByteArray).toList = [100, 110] := by rw [Lib.toList_data]
  rw [← e]
  exact txt_no h
/-- Eleven cells, stored one behind the other. -/
theorem put11h {W : World} {g : Nat} {a0 a1 a2 a3 a4 a5 a6 a7 a8 a9 a10 b0 b1 b2 b3 b4 b5 b6 b7 b8 b9 b10 : Value} {T : TypeId} (h : W.heap[g]? = some (.cells #[a0, a1, a2, a3, a4, a5, a6, a7, a8, a9, a10] T)) : (((((((((((W.setCell ⟨g, 0, none⟩ b0).setCell ⟨g, 1, none⟩ b1).setCell ⟨g, 2, none⟩ b2).setCell ⟨g, 3, none⟩ b3).setCell ⟨g, 4, none⟩ b4).setCell ⟨g, 5, none⟩ b5).setCell ⟨g, 6, none⟩ b6).setCell ⟨g, 7, none⟩ b7).setCell ⟨g, 8, none⟩ b8).setCell ⟨g, 9, none⟩ b9).setCell ⟨g, 10, none⟩ b10).heap[g]? = some (.cells #[b0, b1, b2, b3, b4, b5, b6, b7, b8, b9, b10] T) := by
  simp [World.setCell, Array.getElem?_modify, h]
theorem res_fil2 {fn : Func} {p q : Tmp} (h : fn.results = #[.cell p 27, .tmp q]) (tmps : Array Value) (w : World) (g : Nat) (a0 a1 a2 a3 a4 a5 a6 a7 a8 a9 a10 : Value) (hp : tmps.getD p undef = .pointer (some ⟨g, 0, none⟩)) (hg : w.heap[g]? = some (.cells #[a0, a1, a2, a3, a4, a5, a6, a7, a8, a9, a10] 27)) :
    (results fn tmps).run Tryz.prog w = .ok (.tuple #[.agg #[a0, a1, a2, a3, a4, a5, a6, a7, a8, a9, a10], tmps.getD q undef]) w := by
  have hp' : tmps[p]?.getD undef = .pointer (some ⟨g, 0, none⟩) := by simpa using hp
  have hl := run_loadVar_row (P := Tryz.prog) w g 27 27 #[a0, a1, a2, a3, a4, a5, a6, a7, a8, a9, a10] (0, 0) _ hg Tryz.underlying27 rfl (by kernel_rfl)
  simp [results, h, hp', asAddr, hl]
theorem map_eq1 {ps : List ByteArray} {a : List Int} (h : ps.map nums = [a]) : ∃ p, ps = [p] ∧ nums p = a := by
  cases ps with
  | nil => cases h
  | cons p t =>
    cases t with
    | nil => simp at h; exact ⟨p, rfl, h⟩
    | cons q u => simp at h
def exF (n r : ByteArray) (d : Bool) : Fl := .mk 9 n ⟨#[]⟩ ⟨#[]⟩ [] ⟨#[]⟩ false false r d []
theorem flv_ex (w : World) (n r : ByteArray) (d : Bool) : FlV w (exF n r d) (.agg #[.int .i64 9, .string n, .string ⟨#[]⟩, .string ⟨#[]⟩, .slice none 0 0, .string ⟨#[]⟩, .bool false, .bool false, .string r, .bool d, .slice none 0 0]) := by
  unfold exF
  simp only [FlV]
  exact ⟨none, 0, none, 0, rfl, TxC.nil _ _, by decide, .inl rfl⟩
/-- What extended tells of the pieces between the colons. -/
def exB (l : List (List Int)) : Bool := (extP l).isSome
set_option maxHeartbeats 12800000 in
theorem rext24_any (s : ByteArray) (w : World) (hs : s.size ≤ 4000) : Calls Tryz.prog 65 #[.string s] w fun y w' => ∃ x, y = .returned (.tuple #[x, .bool (exB (splitL 58 ((nums s).map smlC)))]) ∧ (∀ n d r, extP (splitL 58 ((nums s).map smlC)) = some (n, d, r) → FlV w' (exF (strOfNums n) (strOfNums r) d) x) ∧ (∃ n r d, FlV w' (exF n r d) x) ∧ Below w.heap.size w w' := by
  have b1 := Below.one w (.cells #[.int .i64 0, .string ⟨#[]⟩, .string ⟨#[]⟩, .string ⟨#[]⟩, .slice none 0 0, .string ⟨#[]⟩, .bool false, .bool false, .string ⟨#[]⟩, .bool false, .slice none 0 0] 27)
  have b2 := b1.trans ((Below.one (w.alloc (.cells #[.int .i64 0, .string ⟨#[]⟩, .string ⟨#[]⟩, .string ⟨#[]⟩, .slice none 0 0, .string ⟨#[]⟩, .bool false, .bool false, .string ⟨#[]⟩, .bool false, .slice none 0 0] 27)) (.cells #[.int .i64 9, .string ⟨#[]⟩, .string ⟨#[]⟩, .string ⟨#[]⟩, .slice none 0 0, .string ⟨#[]⟩, .bool false, .bool false, .string ⟨#[]⟩, .bool false, .slice none 0 0] 27)).mono b1.size)
  have HR := keep_blk (heap_new w (.cells #[.int .i64 0, .string ⟨#[]⟩, .string ⟨#[]⟩, .string ⟨#[]⟩, .slice none 0 0, .string ⟨#[]⟩, .bool false, .bool false, .string ⟨#[]⟩, .bool false, .slice none 0 0] 27)) (Below.one (w.alloc (.cells #[.int .i64 0, .string ⟨#[]⟩, .string ⟨#[]⟩, .string ⟨#[]⟩, .slice none 0 0, .string ⟨#[]⟩, .bool false, .bool false, .string ⟨#[]⟩, .bool false, .slice none 0 0] 27)) (.cells #[.int .i64 9, .string ⟨#[]⟩, .string ⟨#[]⟩, .string ⟨#[]⟩, .slice none 0 0, .string ⟨#[]⟩, .bool false, .bool false, .string ⟨#[]⟩, .bool false, .slice none 0 0] 27))
  have HF := heap_new (w.alloc (.cells #[.int .i64 0, .string ⟨#[]⟩, .string ⟨#[]⟩, .string ⟨#[]⟩, .slice none 0 0, .string ⟨#[]⟩, .bool false, .bool false, .string ⟨#[]⟩, .bool false, .slice none 0 0] 27)) (.cells #[.int .i64 9, .string ⟨#[]⟩, .string ⟨#[]⟩, .string ⟨#[]⟩, .slice none 0 0, .string ⟨#[]⟩, .bool false, .bool false, .string ⟨#[]⟩, .bool false, .slice none 0 0] 27)
  rw [World.size_alloc] at HF
  have CL := hide (fun W => rlower24_any s W (by omega))
  obtain ⟨t, ht⟩ : ∃ t, t = strOfNums ((nums s).map smlC) := ⟨_, rfl⟩
  have hbl : ∀ x ∈ (nums s).map smlC, 0 ≤ x ∧ x < 256 := fun x hx => by
    obtain ⟨y, hy, rfl⟩ := List.mem_map.1 hx
    have := nums_bound s y hy
    unfold smlC
    split <;> omega
  have hnt : nums t = (nums s).map smlC := by rw [ht, nums_strOfNums _ hbl]
  have hts : t.size ≤ 4000 := by rw [← nums_length, hnt, List.length_map, nums_length]; exact hs
  rw [← ht] at CL
  rw [← hnt]
  have CS := hide (fun W => rsplit24_any t 58 W (by omega))
  clear ht hbl hnt hs
  generalize hL : splitL 58 (nums t) = L at *
  have hLne : L ≠ [] := by rw [← hL]; exact split_ne 58 _
  clear hL
  go_enter Tryz.func65, Tryz.ntmps65
  go_upto_region 3 with (first
    | (go_at_call 66; refine (unhide CS _).mono ?_; rintro e w4 ⟨v, ps, rfl, hps, hpz, hpl, hT, b4⟩)
    | (go_at_call 64; refine (unhide CL _).mono ?_; rintro e w3 ⟨rfl, b3⟩))
  have HR4 := keep_blk (keep_blk HR b3) b4
  have HF4 := keep_blk (keep_blk HF b3) b4
  have t3 := b2.trans (b3.mono b2.size)
  have t4 := t3.trans (b4.mono t3.size)
  have hps0 : 0 < ps.length := by
    cases ps with
    | nil => exact absurd hps.symm hLne
    | cons _ _ => simp
  obtain ⟨g, c, rfl, hc⟩ := hT.at hps0
  have hg3 := (World.ownsRow.lt hT g rfl).1
  have hgz := b3.size
  simp only [World.size_alloc] at hgz
  have hgF : ¬ g = w.heap.size + 1 := by omega
  have hgF2 : ¬ w.heap.size + 1 = g := by omega
  have hgR : ¬ g = w.heap.size := by omega
  have hgR2 : ¬ w.heap.size = g := by omega
  subst hps
  obtain ⟨k0, k1, k2, k3, k4, k5, k6, k7, k8, k9, k10⟩ := cells11 HF4
  obtain ⟨m0, m1, m2, m3, m4, m5, m6, m7, m8, m9, m10⟩ := cells11 HR4
  have frF := froz11 HF4
  have frR := froz11 HR4
  clear hg3 hgz hpz hpl hT CS CL b3 b4 t3 HR HF b1 b2 hLne
  rcases ps with _ | ⟨p, _ | ⟨q, _ | ⟨r, _ | ⟨u, ps⟩⟩⟩⟩
  · exact absurd hps0 (by simp)

  · have c0 := hc 0 (by simp)
    simp only [List.getD_cons_zero] at c0
    have hX : extP (List.map nums [p]) = some (nums p, false, []) := by
      show extP [nums p] = some (nums p, false, [])
      rfl
    have hB : exB (List.map nums [p]) = true := by unfold exB; rw [hX]; rfl
    go_wp2
    refine bodyPost_ret (res_fil2 rfl _ _ w.heap.size (.int .i64 9) (.string p) (.string ⟨#[]⟩) (.string ⟨#[]⟩) (.slice none 0 0) (.string ⟨#[]⟩) (.bool false) (.bool false) (.string ⟨#[]⟩) (.bool false) (.slice none 0 0) rfl (by
      refine put11h (a0 := .int .i64 0) (a1 := .string ⟨#[]⟩) (a2 := .string ⟨#[]⟩) (a3 := .string ⟨#[]⟩) (a4 := .slice none 0 0) (a5 := .string ⟨#[]⟩) (a6 := .bool false) (a7 := .bool false) (a8 := .string ⟨#[]⟩) (a9 := .bool false) (a10 := .slice none 0 0) ?_
      repeat (first | with_reducible exact HR4 | refine (Below.heap_setCell _ _ _ _ (by dsimp only; omega)).trans ?_))) rfl ?_
    refine ⟨_, by rw [hB]; rfl, (fun n9 d9 r9 h9 => by
        rw [hX] at h9
        injection h9 with h9
        injection h9 with h1 h9
        injection h9 with h2 h3
        rw [← h1, ← h2, ← h3, strOfNums_nums, sn_nil]
        exact flv_ex _ _ _ _), ⟨p, ⟨#[]⟩, false, flv_ex _ p ⟨#[]⟩ false⟩, ?_⟩
    repeat (first | with_reducible exact t4 | refine Below.setCell ?_ (by dsimp only; omega) _)
  · have c0 := hc 0 (by simp)
    have c1 := hc 1 (by simp)
    simp only [List.getD_cons_zero, List.getD_cons_succ] at c0 c1
    by_cases hq : q = dnT
    · have nq : nums q = [100, 110] := by rw [hq]; rfl
      have hX : extP (List.map nums [p, q]) = some (nums p, true, []) := by
        show extP [nums p, nums q] = some (nums p, true, [])
        unfold extP; simp only; rw [if_pos nq]
      have hB : exB (List.map nums [p, q]) = true := by unfold exB; rw [hX]; rfl
      unfold dnT at hq
      subst hq
      go_wp2
      refine bodyPost_ret (res_fil2 rfl _ _ w.heap.size (.int .i64 9) (.string p) (.string ⟨#[]⟩) (.string ⟨#[]⟩) (.slice none 0 0) (.string ⟨#[]⟩) (.bool false) (.bool false) (.string ⟨#[]⟩) (.bool true) (.slice none 0 0) rfl (by
        refine put11h (a0 := .int .i64 0) (a1 := .string ⟨#[]⟩) (a2 := .string ⟨#[]⟩) (a3 := .string ⟨#[]⟩) (a4 := .slice none 0 0) (a5 := .string ⟨#[]⟩) (a6 := .bool false) (a7 := .bool false) (a8 := .string ⟨#[]⟩) (a9 := .bool false) (a10 := .slice none 0 0) ?_
        repeat (first | with_reducible exact HR4 | refine (Below.heap_setCell _ _ _ _ (by dsimp only; omega)).trans ?_))) rfl ?_
      refine ⟨_, by rw [hB]; rfl, (fun n9 d9 r9 h9 => by
          rw [hX] at h9
          injection h9 with h9
          injection h9 with h1 h9
          injection h9 with h2 h3
          rw [← h1, ← h2, ← h3, strOfNums_nums, sn_nil]
          exact flv_ex _ _ _ _), ⟨p, ⟨#[]⟩, true, flv_ex _ p ⟨#[]⟩ true⟩, ?_⟩
      repeat (first | with_reducible exact t4 | refine Below.setCell ?_ (by dsimp only; omega) _)
    · have nq : ¬ nums q = [100, 110] := fun h => hq (by rw [← strOfNums_nums q, h]; rfl)
      have d1 : (q.toList == [100, 110]) = false := dn_no hq
      clear hq
      by_cases hq0 : q = ⟨#[]⟩
      · have nq0 : nums q = [] := by rw [hq0]; rfl
        have hX : extP (List.map nums [p, q]) = none := by
          show extP [nums p, nums q] = none
          unfold extP; simp only; rw [if_neg nq, if_pos nq0]
        have hB : exB (List.map nums [p, q]) = false := by unfold exB; rw [hX]; rfl
        subst hq0
        go_wp2
        refine bodyPost_ret (res_fil2 rfl _ _ w.heap.size (.int .i64 9) (.string p) (.string ⟨#[]⟩) (.string ⟨#[]⟩) (.slice none 0 0) (.string ⟨#[]⟩) (.bool false) (.bool false) (.string ⟨#[]⟩) (.bool false) (.slice none 0 0) rfl (by
          refine put11h (a0 := .int .i64 0) (a1 := .string ⟨#[]⟩) (a2 := .string ⟨#[]⟩) (a3 := .string ⟨#[]⟩) (a4 := .slice none 0 0) (a5 := .string ⟨#[]⟩) (a6 := .bool false) (a7 := .bool false) (a8 := .string ⟨#[]⟩) (a9 := .bool false) (a10 := .slice none 0 0) ?_
          repeat (first | with_reducible exact HR4 | refine (Below.heap_setCell _ _ _ _ (by dsimp only; omega)).trans ?_))) rfl ?_
        refine ⟨_, by rw [hB]; rfl, (fun n9 d9 r9 h9 => by rw [hX] at h9; cases h9), ⟨p, ⟨#[]⟩, false, flv_ex _ p ⟨#[]⟩ false⟩, ?_⟩
        repeat (first | with_reducible exact t4 | refine Below.setCell ?_ (by dsimp only; omega) _)
      · have nq0 : ¬ nums q = [] := fun h => hq0 (by rw [← strOfNums_nums q, h]; rfl)
        have hX : extP (List.map nums [p, q]) = some (nums p, false, nums q) := by
          show extP [nums p, nums q] = some (nums p, false, nums q)
          unfold extP; simp only; rw [if_neg nq, if_neg nq0]
        have hB : exB (List.map nums [p, q]) = true := by unfold exB; rw [hX]; rfl
        obtain ⟨e1, e2, e3⟩ := emp_no (show ¬ q = ByteArray.empty from hq0)
        clear hq0
        go_wp2
        refine bodyPost_ret (res_fil2 rfl _ _ w.heap.size (.int .i64 9) (.string p) (.string ⟨#[]⟩) (.string ⟨#[]⟩) (.slice none 0 0) (.string ⟨#[]⟩) (.bool false) (.bool false) (.string q) (.bool false) (.slice none 0 0) rfl (by
          refine put11h (a0 := .int .i64 0) (a1 := .string ⟨#[]⟩) (a2 := .string ⟨#[]⟩) (a3 := .string ⟨#[]⟩) (a4 := .slice none 0 0) (a5 := .string ⟨#[]⟩) (a6 := .bool false) (a7 := .bool false) (a8 := .string ⟨#[]⟩) (a9 := .bool false) (a10 := .slice none 0 0) ?_
          repeat (first | with_reducible exact HR4 | refine (Below.heap_setCell _ _ _ _ (by dsimp only; omega)).trans ?_))) rfl ?_
        refine ⟨_, by rw [hB]; rfl, (fun n9 d9 r9 h9 => by
            rw [hX] at h9
            injection h9 with h9
            injection h9 with h1 h9
            injection h9 with h2 h3
            rw [← h1, ← h2, ← h3, strOfNums_nums, strOfNums_nums]
            exact flv_ex _ _ _ _), ⟨p, q, false, flv_ex _ p q false⟩, ?_⟩
        repeat (first | with_reducible exact t4 | refine Below.setCell ?_ (by dsimp only; omega) _)
  · have c0 := hc 0 (by simp)
    have c1 := hc 1 (by simp)
    have c2 := hc 2 (by simp)
    simp only [List.getD_cons_zero, List.getD_cons_succ] at c0 c1 c2
    by_cases hq : q = dnT
    · have nq : nums q = [100, 110] := by rw [hq]; rfl
      by_cases hr0 : r = ⟨#[]⟩
      · have nr0 : nums r = [] := by rw [hr0]; rfl
        have hX : extP (List.map nums [p, q, r]) = none := by
          show extP [nums p, nums q, nums r] = none
          unfold extP; simp only; rw [if_neg (fun h => h.2 nr0)]
        have hB : exB (List.map nums [p, q, r]) = false := by unfold exB; rw [hX]; rfl
        unfold dnT at hq
        subst hq
        subst hr0
        go_wp2
        refine bodyPost_ret (res_fil2 rfl _ _ w.heap.size (.int .i64 9) (.string p) (.string ⟨#[]⟩) (.string ⟨#[]⟩) (.slice none 0 0) (.string ⟨#[]⟩) (.bool false) (.bool false) (.string ⟨#[]⟩) (.bool true) (.slice none 0 0) rfl (by
          refine put11h (a0 := .int .i64 0) (a1 := .string ⟨#[]⟩) (a2 := .string ⟨#[]⟩) (a3 := .string ⟨#[]⟩) (a4 := .slice none 0 0) (a5 := .string ⟨#[]⟩) (a6 := .bool false) (a7 := .bool false) (a8 := .string ⟨#[]⟩) (a9 := .bool false) (a10 := .slice none 0 0) ?_
          repeat (first | with_reducible exact HR4 | refine (Below.heap_setCell _ _ _ _ (by dsimp only; omega)).trans ?_))) rfl ?_
        refine ⟨_, by rw [hB]; rfl, (fun n9 d9 r9 h9 => by rw [hX] at h9; cases h9), ⟨p, ⟨#[]⟩, true, flv_ex _ p ⟨#[]⟩ true⟩, ?_⟩
        repeat (first | with_reducible exact t4 | refine Below.setCell ?_ (by dsimp only; omega) _)
      · have nr0 : ¬ nums r = [] := fun h => hr0 (by rw [← strOfNums_nums r, h]; rfl)
        have hX : extP (List.map nums [p, q, r]) = some (nums p, true, nums r) := by
          show extP [nums p, nums q, nums r] = some (nums p, true, nums r)
          unfold extP; simp only; rw [if_pos ⟨nq, nr0⟩]
        have hB : exB (List.map nums [p, q, r]) = true := by unfold exB; rw [hX]; rfl
        unfold dnT at hq
        subst hq
        obtain ⟨e1, e2, e3⟩ := emp_no (show ¬ r = ByteArray.empty from hr0)
        clear hr0
        go_wp2
        refine bodyPost_ret (res_fil2 rfl _ _ w.heap.size (.int .i64 9) (.string p) (.string ⟨#[]⟩) (.string ⟨#[]⟩) (.slice none 0 0) (.string ⟨#[]⟩) (.bool false) (.bool false) (.string r) (.bool true) (.slice none 0 0) rfl (by
          refine put11h (a0 := .int .i64 0) (a1 := .string ⟨#[]⟩) (a2 := .string ⟨#[]⟩) (a3 := .string ⟨#[]⟩) (a4 := .slice none 0 0) (a5 := .string ⟨#[]⟩) (a6 := .bool false) (a7 := .bool false) (a8 := .string ⟨#[]⟩) (a9 := .bool false) (a10 := .slice none 0 0) ?_
          repeat (first | with_reducible exact HR4 | refine (Below.heap_setCell _ _ _ _ (by dsimp only; omega)).trans ?_))) rfl ?_
        refine ⟨_, by rw [hB]; rfl, (fun n9 d9 r9 h9 => by
            rw [hX] at h9
            injection h9 with h9
            injection h9 with h1 h9
            injection h9 with h2 h3
            rw [← h1, ← h2, ← h3, strOfNums_nums, strOfNums_nums]
            exact flv_ex _ _ _ _), ⟨p, r, true, flv_ex _ p r true⟩, ?_⟩
        repeat (first | with_reducible exact t4 | refine Below.setCell ?_ (by dsimp only; omega) _)
    · have nq : ¬ nums q = [100, 110] := fun h => hq (by rw [← strOfNums_nums q, h]; rfl)
      have d1 : (q.toList == [100, 110]) = false := dn_no hq
      clear hq
      by_cases hq0 : q = ⟨#[]⟩
      · have hX : extP (List.map nums [p, q, r]) = none := by
          show extP [nums p, nums q, nums r] = none
          unfold extP; simp only; rw [if_neg (fun h => nq h.1)]
        have hB : exB (List.map nums [p, q, r]) = false := by unfold exB; rw [hX]; rfl
        subst hq0
        go_wp2
        refine bodyPost_ret (res_fil2 rfl _ _ w.heap.size (.int .i64 9) (.string p) (.string ⟨#[]⟩) (.string ⟨#[]⟩) (.slice none 0 0) (.string ⟨#[]⟩) (.bool false) (.bool false) (.string ⟨#[]⟩) (.bool false) (.slice none 0 0) rfl (by
          refine put11h (a0 := .int .i64 0) (a1 := .string ⟨#[]⟩) (a2 := .string ⟨#[]⟩) (a3 := .string ⟨#[]⟩) (a4 := .slice none 0 0) (a5 := .string ⟨#[]⟩) (a6 := .bool false) (a7 := .bool false) (a8 := .string ⟨#[]⟩) (a9 := .bool false) (a10 := .slice none 0 0) ?_
          repeat (first | with_reducible exact HR4 | refine (Below.heap_setCell _ _ _ _ (by dsimp only; omega)).trans ?_))) rfl ?_
        refine ⟨_, by rw [hB]; rfl, (fun n9 d9 r9 h9 => by rw [hX] at h9; cases h9), ⟨p, ⟨#[]⟩, false, flv_ex _ p ⟨#[]⟩ false⟩, ?_⟩
        repeat (first | with_reducible exact t4 | refine Below.setCell ?_ (by dsimp only; omega) _)
      · have hX : extP (List.map nums [p, q, r]) = none := by
          show extP [nums p, nums q, nums r] = none
          unfold extP; simp only; rw [if_neg (fun h => nq h.1)]
        have hB : exB (List.map nums [p, q, r]) = false := by unfold exB; rw [hX]; rfl
        obtain ⟨e1, e2, e3⟩ := emp_no (show ¬ q = ByteArray.empty from hq0)
        clear hq0
        go_wp2
        refine bodyPost_ret (res_fil2 rfl _ _ w.heap.size (.int .i64 9) (.string p) (.string ⟨#[]⟩) (.string ⟨#[]⟩) (.slice none 0 0) (.string ⟨#[]⟩) (.bool false) (.bool false) (.string q) (.bool false) (.slice none 0 0) rfl (by
          refine put11h (a0 := .int .i64 0) (a1 := .string ⟨#[]⟩) (a2 := .string ⟨#[]⟩) (a3 := .string ⟨#[]⟩) (a4 := .slice none 0 0) (a5 := .string ⟨#[]⟩) (a6 := .bool false) (a7 := .bool false) (a8 := .string ⟨#[]⟩) (a9 := .bool false) (a10 := .slice none 0 0) ?_
          repeat (first | with_reducible exact HR4 | refine (Below.heap_setCell _ _ _ _ (by dsimp only; omega)).trans ?_))) rfl ?_
        refine ⟨_, by rw [hB]; rfl, (fun n9 d9 r9 h9 => by rw [hX] at h9; cases h9), ⟨p, q, false, flv_ex _ p q false⟩, ?_⟩
        repeat (first | with_reducible exact t4 | refine Below.setCell ?_ (by dsimp only; omega) _)
  · have hlen : (p :: q :: r :: u :: ps).length = ps.length + 4 := by simp
    have zl1 : (1 : Int) < (ps.length : Int) + 4 := by omega
    have c0 := hc 0 (by simp)
    have c1 := hc 1 (by simp)
    have c2 := hc 2 (by simp)
    simp only [List.getD_cons_zero, List.getD_cons_succ] at c0 c1 c2
    by_cases hq : q = dnT
    · have nq : nums q = [100, 110] := by rw [hq]; rfl
      by_cases hr0 : r = ⟨#[]⟩
      · have nr0 : nums r = [] := by rw [hr0]; rfl
        have hX : extP (List.map nums (p :: q :: r :: u :: ps)) = none := by
          show extP (nums p :: nums q :: nums r :: nums u :: ps.map nums) = none
          rfl
        have hB : exB (List.map nums (p :: q :: r :: u :: ps)) = false := by unfold exB; rw [hX]; rfl
        unfold dnT at hq
        subst hq
        subst hr0
        go_wp2
        refine bodyPost_ret (res_fil2 rfl _ _ w.heap.size (.int .i64 9) (.string p) (.string ⟨#[]⟩) (.string ⟨#[]⟩) (.slice none 0 0) (.string ⟨#[]⟩) (.bool false) (.bool false) (.string ⟨#[]⟩) (.bool true) (.slice none 0 0) rfl (by
          refine put11h (a0 := .int .i64 0) (a1 := .string ⟨#[]⟩) (a2 := .string ⟨#[]⟩) (a3 := .string ⟨#[]⟩) (a4 := .slice none 0 0) (a5 := .string ⟨#[]⟩) (a6 := .bool false) (a7 := .bool false) (a8 := .string ⟨#[]⟩) (a9 := .bool false) (a10 := .slice none 0 0) ?_
          repeat (first | with_reducible exact HR4 | refine (Below.heap_setCell _ _ _ _ (by dsimp only; omega)).trans ?_))) rfl ?_
        refine ⟨_, by rw [hB]; rfl, (fun n9 d9 r9 h9 => by rw [hX] at h9; cases h9), ⟨p, ⟨#[]⟩, true, flv_ex _ p ⟨#[]⟩ true⟩, ?_⟩
        repeat (first | with_reducible exact t4 | refine Below.setCell ?_ (by dsimp only; omega) _)
      · have nr0 : ¬ nums r = [] := fun h => hr0 (by rw [← strOfNums_nums r, h]; rfl)
        have hX : extP (List.map nums (p :: q :: r :: u :: ps)) = none := by
          show extP (nums p :: nums q :: nums r :: nums u :: ps.map nums) = none
          rfl
        have hB : exB (List.map nums (p :: q :: r :: u :: ps)) = false := by unfold exB; rw [hX]; rfl
        unfold dnT at hq
        subst hq
        obtain ⟨e1, e2, e3⟩ := emp_no (show ¬ r = ByteArray.empty from hr0)
        clear hr0
        go_wp2
        refine bodyPost_ret (res_fil2 rfl _ _ w.heap.size (.int .i64 9) (.string p) (.string ⟨#[]⟩) (.string ⟨#[]⟩) (.slice none 0 0) (.string ⟨#[]⟩) (.bool false) (.bool false) (.string r) (.bool true) (.slice none 0 0) rfl (by
          refine put11h (a0 := .int .i64 0) (a1 := .string ⟨#[]⟩) (a2 := .string ⟨#[]⟩) (a3 := .string ⟨#[]⟩) (a4 := .slice none 0 0) (a5 := .string ⟨#[]⟩) (a6 := .bool false) (a7 := .bool false) (a8 := .string ⟨#[]⟩) (a9 := .bool false) (a10 := .slice none 0 0) ?_
          repeat (first | with_reducible exact HR4 | refine (Below.heap_setCell _ _ _ _ (by dsimp only; omega)).trans ?_))) rfl ?_
        refine ⟨_, by rw [hB]; rfl, (fun n9 d9 r9 h9 => by rw [hX] at h9; cases h9), ⟨p, r, true, flv_ex _ p r true⟩, ?_⟩
        repeat (first | with_reducible exact t4 | refine Below.setCell ?_ (by dsimp only; omega) _)
    · have nq : ¬ nums q = [100, 110] := fun h => hq (by rw [← strOfNums_nums q, h]; rfl)
      have d1 : (q.toList == [100, 110]) = false := dn_no hq
      clear hq
      by_cases hq0 : q = ⟨#[]⟩
      · have hX : extP (List.map nums (p :: q :: r :: u :: ps)) = none := by
          show extP (nums p :: nums q :: nums r :: nums u :: ps.map nums) = none
          rfl
        have hB : exB (List.map nums (p :: q :: r :: u :: ps)) = false := by unfold exB; rw [hX]; rfl
        subst hq0
        go_wp2
        refine bodyPost_ret (res_fil2 rfl _ _ w.heap.size (.int .i64 9) (.string p) (.string ⟨#[]⟩) (.string ⟨#[]⟩) (.slice none 0 0) (.string ⟨#[]⟩) (.bool false) (.bool false) (.string ⟨#[]⟩) (.bool false) (.slice none 0 0) rfl (by
          refine put11h (a0 := .int .i64 0) (a1 := .string ⟨#[]⟩) (a2 := .string ⟨#[]⟩) (a3 := .string ⟨#[]⟩) (a4 := .slice none 0 0) (a5 := .string ⟨#[]⟩) (a6 := .bool false) (a7 := .bool false) (a8 := .string ⟨#[]⟩) (a9 := .bool false) (a10 := .slice none 0 0) ?_
          repeat (first | with_reducible exact HR4 | refine (Below.heap_setCell _ _ _ _ (by dsimp only; omega)).trans ?_))) rfl ?_
        refine ⟨_, by rw [hB]; rfl, (fun n9 d9 r9 h9 => by rw [hX] at h9; cases h9), ⟨p, ⟨#[]⟩, false, flv_ex _ p ⟨#[]⟩ false⟩, ?_⟩
        repeat (first | with_reducible exact t4 | refine Below.setCell ?_ (by dsimp only; omega) _)
      · have hX : extP (List.map nums (p :: q :: r :: u :: ps)) = none := by
          show extP (nums p :: nums q :: nums r :: nums u :: ps.map nums) = none
          rfl
        have hB : exB (List.map nums (p :: q :: r :: u :: ps)) = false := by unfold exB; rw [hX]; rfl
        obtain ⟨e1, e2, e3⟩ := emp_no (show ¬ q = ByteArray.empty from hq0)
        clear hq0
        go_wp2
        refine bodyPost_ret (res_fil2 rfl _ _ w.heap.size (.int .i64 9) (.string p) (.string ⟨#[]⟩) (.string ⟨#[]⟩) (.slice none 0 0) (.string ⟨#[]⟩) (.bool false) (.bool false) (.string q) (.bool false) (.slice none 0 0) rfl (by
          refine put11h (a0 := .int .i64 0) (a1 := .string ⟨#[]⟩) (a2 := .string ⟨#[]⟩) (a3 := .string ⟨#[]⟩) (a4 := .slice none 0 0) (a5 := .string ⟨#[]⟩) (a6 := .bool false) (a7 := .bool false) (a8 := .string ⟨#[]⟩) (a9 := .bool false) (a10 := .slice none 0 0) ?_
          repeat (first | with_reducible exact HR4 | refine (Below.heap_setCell _ _ _ _ (by dsimp only; omega)).trans ?_))) rfl ?_
        refine ⟨_, by rw [hB]; rfl, (fun n9 d9 r9 h9 => by rw [hX] at h9; cases h9), ⟨p, q, false, flv_ex _ p q false⟩, ?_⟩
        repeat (first | with_reducible exact t4 | refine Below.setCell ?_ (by dsimp only; omega) _)
end Go.Proofs.YthbldkkjjjmegaaGreatDoor
