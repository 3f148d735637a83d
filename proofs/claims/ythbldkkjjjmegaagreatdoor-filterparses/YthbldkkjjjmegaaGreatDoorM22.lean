/- The landed extended of layer 24. (By gen_exl.py.) -/
import Derived.Test.YthbldkkjjjmegaaGreatDoorM17
import Derived.Test.YthbldkkjjjmegaaGreatDoorM13
import Derived.Test.YthbldkkjjjmegaaGreatDoorM21
namespace Go.Proofs.YthbldkkjjjmegaaGreatDoor
set_option maxRecDepth 100000
open Go.RowKit

/-- What extended tells. -/
def ExPost (L : List (List Int)) (w : World) (e : Ending) (w' : World) : Prop :=
  ∃ n r d, e = .returned (.tuple #[.agg #[.int .i64 9, .string n, .string ⟨#[]⟩, .string ⟨#[]⟩, .slice none 0 0, .string ⟨#[]⟩, .bool false, .bool false, .string r, .bool d, .slice none 0 0], .bool (exB L)]) ∧ (∀ n' d' r', extP L = some (n', d', r') → n = strOfNums n' ∧ r = strOfNums r' ∧ d = d') ∧ Below w.heap.size w w'
theorem rowcell {W : World} {g : Nat} {ps : List ByteArray} {T : TypeId} (h : W.heap[g]? = some (.cells (ps.map Value.string).toArray T)) (j : Nat) (hj : j < ps.length) : W.cell? ⟨g, j, none⟩ = some (.string (ps.getD j ByteArray.empty)) := by
  simp only [World.cell?, h]
  simp [List.getD, hj]
theorem three_blk (w : World) (a b c : Obj) : (((w.alloc a).alloc b).alloc c).heap[w.heap.size]? = some a := keep_blk (keep_blk (heap_new w a) (Below.one _ _)) (Below.one _ _)
theorem three_below (w : World) (a b c : Obj) : Below w.heap.size w (((w.alloc a).alloc b).alloc c) := (((Gr.one w a).alloc b).alloc c).below
set_option maxRecDepth 4000 in
set_option maxHeartbeats 12800000 in
theorem ext_land (s : ByteArray) (w : World) (hL : Ly w) (hs : s.size ≤ 4000) : Calls Tryz.prog 75 #[.string s] w fun e w' => ExPost (splitL 58 (nums s)) w e w' := by
  obtain ⟨ps, hps, hC⟩ := split_land s 58 hs
  rw [show ((58 : UInt8).toNat : Int) = 58 from rfl] at hps
  have CS := hide (hC _ (hL.keep (Below.one w (.cells #[.int .i64 0, .string ⟨#[]⟩, .string ⟨#[]⟩, .string ⟨#[]⟩, .slice none 0 0, .string ⟨#[]⟩, .bool false, .bool false, .string ⟨#[]⟩, .bool false, .slice none 0 0] 27))))
  have hLne : splitL 58 (nums s) ≠ [] := split_ne 58 _
  have hps0 : ps ≠ [] := fun h => hLne (by rw [← hps, h]; rfl)
  clear hC hLne
  rw [World.size_alloc] at CS
  rw [← hps]
  clear hps
  rcases ps with _ | ⟨p, _ | ⟨q, _ | ⟨r, _ | ⟨u, ps⟩⟩⟩⟩
  · exact absurd rfl hps0

  · replace CS : Hid (Calls Tryz.prog 81 #[.string s, .string ⟨#[58]⟩] (w.alloc (.cells #[.int .i64 0, .string ⟨#[]⟩, .string ⟨#[]⟩, .string ⟨#[]⟩, .slice none 0 0, .string ⟨#[]⟩, .bool false, .bool false, .string ⟨#[]⟩, .bool false, .slice none 0 0] 27)) fun e w' => e = .returned (.slice (some ⟨w.heap.size + 1, 0, none⟩) 1 1) ∧ w' = (w.alloc (.cells #[.int .i64 0, .string ⟨#[]⟩, .string ⟨#[]⟩, .string ⟨#[]⟩, .slice none 0 0, .string ⟨#[]⟩, .bool false, .bool false, .string ⟨#[]⟩, .bool false, .slice none 0 0] 27)).alloc (.cells #[.string p] 9)) := CS
    clear hps0
    have HX : Hid (extP (List.map nums [p]) = some (nums p, false, [])) := by
      show extP [nums p] = some (nums p, false, [])
      rfl
    have HB : Hid (exB (List.map nums [p]) = true) := by show _ = _; unfold exB; rw [unhide HX]; rfl
    go_enter Tryz.func75, Tryz.ntmps75
    go_wp2_with (go_at_call 81; refine (unhide CS).mono ?_; rintro e w3 ⟨rfl, rfl⟩)
    refine bodyPost_ret (res_fil2 rfl _ _ w.heap.size (.int .i64 9) (.string p) (.string ⟨#[]⟩) (.string ⟨#[]⟩) (.slice none 0 0) (.string ⟨#[]⟩) (.bool false) (.bool false) (.string ⟨#[]⟩) (.bool false) (.slice none 0 0) rfl (three_blk _ _ _ _)) rfl ?_
    refine ⟨p, ⟨#[]⟩, false, by rw [unhide HB]; rfl, (fun n9 d9 r9 h9 => by
        rw [unhide HX] at h9
        injection h9 with h9
        injection h9 with h1 h9
        injection h9 with h2 h3
        rw [← h1, ← h2, ← h3, strOfNums_nums, sn_nil]
        exact ⟨rfl, rfl, rfl⟩), by first | exact three_below _ _ _ _ | exact (three_below _ _ _ _).drew⟩
  · replace CS : Hid (Calls Tryz.prog 81 #[.string s, .string ⟨#[58]⟩] (w.alloc (.cells #[.int .i64 0, .string ⟨#[]⟩, .string ⟨#[]⟩, .string ⟨#[]⟩, .slice none 0 0, .string ⟨#[]⟩, .bool false, .bool false, .string ⟨#[]⟩, .bool false, .slice none 0 0] 27)) fun e w' => e = .returned (.slice (some ⟨w.heap.size + 1, 0, none⟩) 2 2) ∧ w' = (w.alloc (.cells #[.int .i64 0, .string ⟨#[]⟩, .string ⟨#[]⟩, .string ⟨#[]⟩, .slice none 0 0, .string ⟨#[]⟩, .bool false, .bool false, .string ⟨#[]⟩, .bool false, .slice none 0 0] 27)).alloc (.cells #[.string p, .string q] 9)) := CS
    clear hps0
    by_cases hq : q = dnT
    · have nq : nums q = [100, 110] := by rw [hq]; rfl
      have HX : Hid (extP (List.map nums [p, q]) = some (nums p, true, [])) := by
        show extP [nums p, nums q] = some (nums p, true, [])
        unfold extP; simp only; rw [if_pos nq]
      have HB : Hid (exB (List.map nums [p, q]) = true) := by show _ = _; unfold exB; rw [unhide HX]; rfl
      unfold dnT at hq
      subst hq
      clear nq
      go_enter Tryz.func75, Tryz.ntmps75
      go_wp2_with (go_at_call 81; refine (unhide CS).mono ?_; rintro e w3 ⟨rfl, rfl⟩)
      refine bodyPost_ret (res_fil2 rfl _ _ w.heap.size (.int .i64 9) (.string p) (.string ⟨#[]⟩) (.string ⟨#[]⟩) (.slice none 0 0) (.string ⟨#[]⟩) (.bool false) (.bool false) (.string ⟨#[]⟩) (.bool true) (.slice none 0 0) rfl (three_blk _ _ _ _)) rfl ?_
      refine ⟨p, ⟨#[]⟩, true, by rw [unhide HB]; rfl, (fun n9 d9 r9 h9 => by
          rw [unhide HX] at h9
          injection h9 with h9
          injection h9 with h1 h9
          injection h9 with h2 h3
          rw [← h1, ← h2, ← h3, strOfNums_nums, sn_nil]
          exact ⟨rfl, rfl, rfl⟩), by first | exact three_below _ _ _ _ | exact (three_below _ _ _ _).drew⟩
    have nq : ¬ nums q = [100, 110] := fun h => hq (by rw [← strOfNums_nums q, h]; rfl)
    have d1 : (q.toList == [100, 110]) = false := (dn_noL hq).1
    clear hq
    by_cases hq0 : q = ⟨#[]⟩
    · have nq0 : nums q = [] := by rw [hq0]; rfl
      have HX : Hid (extP (List.map nums [p, q]) = none) := by
        show extP [nums p, nums q] = none
        unfold extP; simp only; rw [if_neg nq, if_pos nq0]
      have HB : Hid (exB (List.map nums [p, q]) = false) := by show _ = _; unfold exB; rw [unhide HX]; rfl
      have e1 := txt_yes ⟨#[]⟩
      subst hq0
      clear nq nq0 d1
      go_enter Tryz.func75, Tryz.ntmps75
      go_wp2_with (go_at_call 81; refine (unhide CS).mono ?_; rintro e w3 ⟨rfl, rfl⟩)
      go_region
      all_goals
        go_wp2
        refine bodyPost_ret (res_fil2 rfl _ _ w.heap.size (.int .i64 9) (.string p) (.string ⟨#[]⟩) (.string ⟨#[]⟩) (.slice none 0 0) (.string ⟨#[]⟩) (.bool false) (.bool false) (.string ⟨#[]⟩) (.bool false) (.slice none 0 0) rfl (three_blk _ _ _ _)) rfl ?_
        refine ⟨p, ⟨#[]⟩, false, by rw [unhide HB]; rfl, (fun n9 d9 r9 h9 => by rw [unhide HX] at h9; cases h9), by first | exact three_below _ _ _ _ | exact (three_below _ _ _ _).drew⟩
    have nq0 : ¬ nums q = [] := fun h => hq0 (by rw [← strOfNums_nums q, h]; rfl)
    have HX : Hid (extP (List.map nums [p, q]) = some (nums p, false, nums q)) := by
      show extP [nums p, nums q] = some (nums p, false, nums q)
      unfold extP; simp only; rw [if_neg nq, if_neg nq0]
    have HB : Hid (exB (List.map nums [p, q]) = true) := by show _ = _; unfold exB; rw [unhide HX]; rfl
    have e0 : q.toList.isEmpty = false := by rw [emp_sz, decide_eq_false]; intro h; exact hq0 ((sz0 q).1 h)
    clear nq nq0 hq0
    go_enter Tryz.func75, Tryz.ntmps75
    go_wp2_with (go_at_call 81; refine (unhide CS).mono ?_; rintro e w3 ⟨rfl, rfl⟩)
    go_region
    all_goals
      go_wp2
      refine bodyPost_ret (res_fil2 rfl _ _ w.heap.size (.int .i64 9) (.string p) (.string ⟨#[]⟩) (.string ⟨#[]⟩) (.slice none 0 0) (.string ⟨#[]⟩) (.bool false) (.bool false) (.string q) (.bool false) (.slice none 0 0) rfl (three_blk _ _ _ _)) rfl ?_
      refine ⟨p, q, false, by rw [unhide HB]; rfl, (fun n9 d9 r9 h9 => by
          rw [unhide HX] at h9
          injection h9 with h9
          injection h9 with h1 h9
          injection h9 with h2 h3
          rw [← h1, ← h2, ← h3, strOfNums_nums, strOfNums_nums]
          exact ⟨rfl, rfl, rfl⟩), by first | exact three_below _ _ _ _ | exact (three_below _ _ _ _).drew⟩
  · replace CS : Hid (Calls Tryz.prog 81 #[.string s, .string ⟨#[58]⟩] (w.alloc (.cells #[.int .i64 0, .string ⟨#[]⟩, .string ⟨#[]⟩, .string ⟨#[]⟩, .slice none 0 0, .string ⟨#[]⟩, .bool false, .bool false, .string ⟨#[]⟩, .bool false, .slice none 0 0] 27)) fun e w' => e = .returned (.slice (some ⟨w.heap.size + 1, 0, none⟩) 3 3) ∧ w' = (w.alloc (.cells #[.int .i64 0, .string ⟨#[]⟩, .string ⟨#[]⟩, .string ⟨#[]⟩, .slice none 0 0, .string ⟨#[]⟩, .bool false, .bool false, .string ⟨#[]⟩, .bool false, .slice none 0 0] 27)).alloc (.cells #[.string p, .string q, .string r] 9)) := CS
    clear hps0
    by_cases hq : q = dnT
    · have nq : nums q = [100, 110] := by rw [hq]; rfl
      by_cases hr0 : r = ⟨#[]⟩
      · have nr0 : nums r = [] := by rw [hr0]; rfl
        have HX : Hid (extP (List.map nums [p, q, r]) = none) := by
          show extP [nums p, nums q, nums r] = none
          unfold extP; simp only; rw [if_neg (fun h => h.2 nr0)]
        have HB : Hid (exB (List.map nums [p, q, r]) = false) := by show _ = _; unfold exB; rw [unhide HX]; rfl
        unfold dnT at hq
        subst hq
        subst hr0
        clear nq nr0
        go_enter Tryz.func75, Tryz.ntmps75
        go_wp2_with (go_at_call 81; refine (unhide CS).mono ?_; rintro e w3 ⟨rfl, rfl⟩)
        go_region
        all_goals
          go_wp2
          refine bodyPost_ret (res_fil2 rfl _ _ w.heap.size (.int .i64 9) (.string p) (.string ⟨#[]⟩) (.string ⟨#[]⟩) (.slice none 0 0) (.string ⟨#[]⟩) (.bool false) (.bool false) (.string ⟨#[]⟩) (.bool true) (.slice none 0 0) rfl (three_blk _ _ _ _)) rfl ?_
          refine ⟨p, ⟨#[]⟩, true, by rw [unhide HB]; rfl, (fun n9 d9 r9 h9 => by rw [unhide HX] at h9; cases h9), by first | exact three_below _ _ _ _ | exact (three_below _ _ _ _).drew⟩
      have nr0 : ¬ nums r = [] := fun h => hr0 (by rw [← strOfNums_nums r, h]; rfl)
      have HX : Hid (extP (List.map nums [p, q, r]) = some (nums p, true, nums r)) := by
        show extP [nums p, nums q, nums r] = some (nums p, true, nums r)
        unfold extP; simp only; rw [if_pos ⟨nq, nr0⟩]
      have HB : Hid (exB (List.map nums [p, q, r]) = true) := by show _ = _; unfold exB; rw [unhide HX]; rfl
      have e0 : r.toList.isEmpty = false := by rw [emp_sz, decide_eq_false]; intro h; exact hr0 ((sz0 r).1 h)
      unfold dnT at hq
      subst hq
      clear nq nr0 hr0
      go_enter Tryz.func75, Tryz.ntmps75
      go_wp2_with (go_at_call 81; refine (unhide CS).mono ?_; rintro e w3 ⟨rfl, rfl⟩)
      go_region
      all_goals
        go_wp2
        refine bodyPost_ret (res_fil2 rfl _ _ w.heap.size (.int .i64 9) (.string p) (.string ⟨#[]⟩) (.string ⟨#[]⟩) (.slice none 0 0) (.string ⟨#[]⟩) (.bool false) (.bool false) (.string r) (.bool true) (.slice none 0 0) rfl (three_blk _ _ _ _)) rfl ?_
        refine ⟨p, r, true, by rw [unhide HB]; rfl, (fun n9 d9 r9 h9 => by
            rw [unhide HX] at h9
            injection h9 with h9
            injection h9 with h1 h9
            injection h9 with h2 h3
            rw [← h1, ← h2, ← h3, strOfNums_nums, strOfNums_nums]
            exact ⟨rfl, rfl, rfl⟩), by first | exact three_below _ _ _ _ | exact (three_below _ _ _ _).drew⟩
    have nq : ¬ nums q = [100, 110] := fun h => hq (by rw [← strOfNums_nums q, h]; rfl)
    have d1 : (q.toList == [100, 110]) = false := (dn_noL hq).1
    clear hq
    have HX : Hid (extP (List.map nums [p, q, r]) = none) := by
      show extP [nums p, nums q, nums r] = none
      unfold extP; simp only; rw [if_neg (fun h => nq h.1)]
    have HB : Hid (exB (List.map nums [p, q, r]) = false) := by show _ = _; unfold exB; rw [unhide HX]; rfl
    clear nq
    go_enter Tryz.func75, Tryz.ntmps75
    go_wp2_with (go_at_call 81; refine (unhide CS).mono ?_; rintro e w3 ⟨rfl, rfl⟩)
    go_region
    all_goals
      go_wp2
      refine bodyPost_ret (res_fil2 rfl _ _ w.heap.size (.int .i64 9) (.string p) (.string ⟨#[]⟩) (.string ⟨#[]⟩) (.slice none 0 0) (.string ⟨#[]⟩) (.bool false) (.bool false) (.string q) (.bool false) (.slice none 0 0) rfl (three_blk _ _ _ _)) rfl ?_
      refine ⟨p, q, false, by rw [unhide HB]; rfl, (fun n9 d9 r9 h9 => by rw [unhide HX] at h9; cases h9), by first | exact three_below _ _ _ _ | exact (three_below _ _ _ _).drew⟩
  · obtain ⟨N, hN⟩ : ∃ N, N = (p :: q :: r :: u :: ps).length := ⟨_, rfl⟩
    obtain ⟨ROW, hROW⟩ : ∃ ROW : Array Value, ROW = ((p :: q :: r :: u :: ps).map Value.string).toArray := ⟨_, rfl⟩
    have c0 : ROW[0]? = some (.string p) := by rw [hROW]; rfl
    have c1 : ROW[1]? = some (.string q) := by rw [hROW]; rfl
    have c2 : ROW[2]? = some (.string r) := by rw [hROW]; rfl
    rw [← hN, ← hROW] at CS
    have hN4 : 4 ≤ N := by rw [hN]; simp
    have g1 : (((N - 1 : Nat) : Int) == 1) = false := by rw [beq_eq_false_iff_ne]; omega
    have g2 : (((N - 1 - 1 : Nat) : Int) == 1) = false := by rw [beq_eq_false_iff_ne]; omega
    have g3 : (((N - 2 : Nat) : Int) == 1) = false := by rw [beq_eq_false_iff_ne]; omega
    clear hN hROW hps0
    replace CS : Hid (Calls Tryz.prog 81 #[.string s, .string ⟨#[58]⟩] (w.alloc (.cells #[.int .i64 0, .string ⟨#[]⟩, .string ⟨#[]⟩, .string ⟨#[]⟩, .slice none 0 0, .string ⟨#[]⟩, .bool false, .bool false, .string ⟨#[]⟩, .bool false, .slice none 0 0] 27)) fun e w' => e = .returned (.slice (some ⟨w.heap.size + 1, 0, none⟩) N N) ∧ w' = (w.alloc (.cells #[.int .i64 0, .string ⟨#[]⟩, .string ⟨#[]⟩, .string ⟨#[]⟩, .slice none 0 0, .string ⟨#[]⟩, .bool false, .bool false, .string ⟨#[]⟩, .bool false, .slice none 0 0] 27)).alloc (.cells ROW 9)) := CS
    by_cases hq : q = dnT
    · have HX : Hid (extP (List.map nums (p :: q :: r :: u :: ps)) = none) := by show _ = _; simp [extP]
      have HB : Hid (exB (List.map nums (p :: q :: r :: u :: ps)) = false) := by show _ = _; unfold exB; rw [unhide HX]; rfl
      unfold dnT at hq
      subst hq
      go_enter Tryz.func75, Tryz.ntmps75
      go_wp2_with (go_at_call 81; refine (unhide CS).mono ?_; rintro e w3 ⟨rfl, rfl⟩)
      go_region
      all_goals
        go_wp2
        refine bodyPost_ret (res_fil2 rfl _ _ w.heap.size (.int .i64 9) (.string p) (.string ⟨#[]⟩) (.string ⟨#[]⟩) (.slice none 0 0) (.string ⟨#[]⟩) (.bool false) (.bool false) (.string r) (.bool true) (.slice none 0 0) rfl (three_blk _ _ _ _)) rfl ?_
        refine ⟨p, r, true, by rw [unhide HB]; rfl, (fun n9 d9 r9 h9 => by rw [unhide HX] at h9; cases h9), by first | exact three_below _ _ _ _ | exact (three_below _ _ _ _).drew⟩
    have d1 : (q.toList == [100, 110]) = false := (dn_noL hq).1
    clear hq
    have HX : Hid (extP (List.map nums (p :: q :: r :: u :: ps)) = none) := by show _ = _; simp [extP]
    have HB : Hid (exB (List.map nums (p :: q :: r :: u :: ps)) = false) := by show _ = _; unfold exB; rw [unhide HX]; rfl
    go_enter Tryz.func75, Tryz.ntmps75
    go_wp2_with (go_at_call 81; refine (unhide CS).mono ?_; rintro e w3 ⟨rfl, rfl⟩)
    go_region
    all_goals
      go_wp2
      refine bodyPost_ret (res_fil2 rfl _ _ w.heap.size (.int .i64 9) (.string p) (.string ⟨#[]⟩) (.string ⟨#[]⟩) (.slice none 0 0) (.string ⟨#[]⟩) (.bool false) (.bool false) (.string q) (.bool false) (.slice none 0 0) rfl (three_blk _ _ _ _)) rfl ?_
      refine ⟨p, q, false, by rw [unhide HB]; rfl, (fun n9 d9 r9 h9 => by rw [unhide HX] at h9; cases h9), by first | exact three_below _ _ _ _ | exact (three_below _ _ _ _).drew⟩
end Go.Proofs.YthbldkkjjjmegaaGreatDoor
