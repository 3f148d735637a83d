/- The landed Key, textKey, bothKeys, Equal, Cmp of layer 22. -/
import Derived.Test.YtefobkgifigclaaGreatDoorM47
import Derived.Test.YtefobkgifigclaaGreatDoorM43
import Derived.Test.YtefobkgifigclaaGreatDoorM41
import Derived.Test.YtefobkgifigclaaGreatDoorM19
import Derived.Test.YtefobkgifigclaaGreatDoorM35
import Derived.Lib.ItoaLen
namespace Go.Proofs.YtefobkgifigclaaGreatDoor
set_option maxRecDepth 100000
open Go.RowKit

/-- What the library's and the program's tables hold. -/
def LK (w : World) : Prop := L12 w ∧ S17.Ly w
theorem LK.keep {w w2 : World} (h : LK w) (hb : Below w.heap.size w w2) : LK w2 := ⟨h.1.keep hb, h.2.keep hb⟩
theorem LK.ly18 {w : World} (h : LK w) : S18.Ly w := h.2.2.1
theorem known_at (n : Int) (h : 1 ≤ n ∧ n ≤ 11) (w : World) : Calls Tryz.prog 21 #[.int .i64 n] w fun e w' => e = .returned (.bool true) ∧ w = w' := by
  have := known22_any n w
  rw [decide_eq_true h] at this
  exact this.mono fun e w' ⟨h1, h2⟩ => ⟨h1, h2.symm⟩
set_option maxHeartbeats 1600000 in
theorem key22_fold (va vb : Value) (s : ByteArray) (w : World) (hL : LK w) (hs : s.size ≤ 400) (hz : Ez 2 s) (hE : vE 2 s = 0) :
    Calls Tryz.prog 22 #[.agg #[va, vb], .int .i64 2, .string s] w fun e w' => e = .returned (.tuple #[.string (vS 2 s), .int .i64 0]) ∧ Below w.heap.size w w' := by
  have b0 := Below.one w (.cells #[va, vb] 38)
  have HV : Hid (∀ W, Below w.heap.size w W → Calls Tryz.prog 37 #[.int .i64 2, .string s] W fun e w' => e = .returned (.tuple #[.string (vS 2 s), .int .i64 0]) ∧ Below W.heap.size W w') := fun W h => by
    have := value_any 2 s W (hL.keep h).1 (by omega) (by omega) hz
    rwa [hE] at this
  have CK := hide (fun W => known_at 2 (by omega) W)
  have CY := hide (fun W => way22_any 2 W)
  have hzl : ¬ (400 : Int) < (s.size : Int) := by omega
  clear hL hs hz hE
  generalize vS 2 s = out at *
  go_enter Tryz.func22, Tryz.ntmps22
  go_wp2_with (first
    | (go_at_call 37; refine (unhide HV _ t2).mono ?_; rintro e w3 ⟨rfl, b3⟩; have t3 := t2.trans (b3.mono t2.size))
    | (go_at_call 11; refine (unhide CY _).mono ?_; rintro e w2 ⟨rfl, b2⟩; have t2 := b0.trans (b2.mono b0.size))
    | (go_at_call 21; refine (unhide CK _).mono ?_; rintro e w' ⟨rfl, rfl⟩))
  refine bodyPost_ret (results_tmp2 rfl _ _ _) rfl ?_
  exact ⟨rfl, t3⟩
theorem intE_size {s : ByteArray} (h : intE s = 0) : s.size ≤ 400 := by
  cases hp : intP s with
  | none => rw [(int_none hp).2] at h; cases h
  | some n =>
    obtain ⟨i1, i2⟩ := intP_in hp
    have h1 := Lib.itoa_length_le n (by omega) (by omega)
    have h2 : s.data.toList.length = s.size := by show s.data.toList.length = s.data.size; simp
    rw [intP_text hp, h2] at h1
    omega
theorem parF_size {s : ByteArray} (h : S14.parF (S14.nums s) = 0) : s.size ≤ 400 := by
  unfold S14.parF at h
  by_cases hk : S14.okG (S14.nums s) = true
  · unfold S14.okG at hk
    rw [Bool.and_eq_true, Bool.and_eq_true, decide_eq_true_eq] at hk
    obtain ⟨⟨h1, h2⟩, h3⟩ := hk
    unfold S14.inZ at h1 h2
    rw [decide_eq_true_eq] at h1 h2
    have h4 := S14.txt_len _ _ h1.1 h1.2 h2.1 h2.2
    rw [h3, S14.nums_length] at h4
    omega
  · rw [if_neg hk] at h
    cases h
set_option maxHeartbeats 1600000 in
theorem key22_int (va vb : Value) (s : ByteArray) (w : World) (hL : LK w) (hs48 : s.size ≤ 281474976710656) :
    Calls Tryz.prog 22 #[.agg #[va, vb], .int .i64 3, .string s] w fun e w' => ∃ k g, e = .returned (.tuple #[.string k, .int .i64 g]) ∧ (intE s = 0 → g = 0 ∧ k = ⟨(keyI (intN s)).toArray⟩) ∧ Below w.heap.size w w' := by
  have b0 := Below.one w (.cells #[va, vb] 38)
  have CK := hide (fun W => known_at 3 (by omega) W)
  have CW := hide (whole22 s _ (hL.keep b0).2 hs48)
  have HS := hide (intE_size (s := s))
  clear hL
  obtain ⟨ea, he⟩ : ∃ ea, ea = intE s := ⟨_, rfl⟩
  rw [← he] at CW HS ⊢
  clear he
  generalize (⟨(keyI (intN s)).toArray⟩ : ByteArray) = kk at *
  by_cases hs : s.size ≤ 400
  · have hzl : ¬ (400 : Int) < (s.size : Int) := by omega
    clear hs HS
    go_enter Tryz.func22, Tryz.ntmps22
    go_wp2_with (first
      | (go_at_call 33; refine (unhide CW).mono ?_; rintro e w3 ⟨k, g, rfl, hkg, b3⟩; have HKG := hide hkg; clear hkg)
      | (go_at_call 21; refine (unhide CK _).mono ?_; rintro e w' ⟨rfl, rfl⟩))
    refine bodyPost_ret (results_tmp2 rfl _ _ _) rfl ?_
    exact ⟨_, _, rfl, unhide HKG, b0.trans (b3.mono b0.size)⟩
  · have hzl : (400 : Int) < (s.size : Int) := by omega
    have HN : Hid (¬ ea = 0) := fun h => hs (unhide HS h)
    clear hs HS CW
    go_enter Tryz.func22, Tryz.ntmps22
    go_wp2_with (go_at_call 21; refine (unhide CK _).mono ?_; rintro e w' ⟨rfl, rfl⟩)
    refine bodyPost_ret (results_tmp2 rfl _ _ _) rfl ?_
    exact ⟨_, _, rfl, fun h => absurd h (unhide HN), b0⟩
set_option maxHeartbeats 1600000 in
theorem key22_gauss (va vb : Value) (r : Int) (near : Bool) (hr : (r = 10 ∧ near = false) ∨ (r = 11 ∧ near = true)) (s : ByteArray) (w : World) (hL : LK w) (hs63 : s.size ≤ 9223372036854775806) :
    Calls Tryz.prog 22 #[.agg #[va, vb], .int .i64 r, .string s] w fun e w' => ∃ k g, e = .returned (.tuple #[.string k, .int .i64 g]) ∧ (S14.parF (S14.nums s) = 0 → g = 0 ∧ k = if near then ⟨(keyN (S14.parG (S14.nums s)).1 (S14.parG (S14.nums s)).2).toArray⟩ else ⟨(keyG (S14.parG (S14.nums s)).1 (S14.parG (S14.nums s)).2).toArray⟩) ∧ Below w.heap.size w w' := by
  have b0 := Below.one w (.cells #[va, vb] 38)
  have CK := hide (fun W => known_at r (by omega) W)
  have CW := hide (place22 s near _ (hL.keep b0).2 hs63)
  have HS := hide (parF_size (s := s))
  clear hL
  obtain ⟨ea, he⟩ : ∃ ea, ea = S14.parF (S14.nums s) := ⟨_, rfl⟩
  rw [← he] at CW HS ⊢
  clear he
  generalize (if near = true then (⟨(keyN (S14.parG (S14.nums s)).1 (S14.parG (S14.nums s)).2).toArray⟩ : ByteArray) else ⟨(keyG (S14.parG (S14.nums s)).1 (S14.parG (S14.nums s)).2).toArray⟩) = kk at *
  by_cases hs : s.size ≤ 400
  · have hzl : ¬ (400 : Int) < (s.size : Int) := by omega
    clear hs HS
    rcases hr with ⟨rfl, rfl⟩ | ⟨rfl, rfl⟩
    all_goals
      go_enter Tryz.func22, Tryz.ntmps22
      go_wp2_with (first
        | (go_at_call 36; refine (unhide CW).mono ?_; rintro e w3 ⟨k, g, rfl, hkg, b3⟩; have HKG := hide hkg; clear hkg)
        | (go_at_call 21; refine (unhide CK _).mono ?_; rintro e w' ⟨rfl, rfl⟩))
      refine bodyPost_ret (results_tmp2 rfl _ _ _) rfl ?_
      exact ⟨_, _, rfl, unhide HKG, b0.trans (b3.mono b0.size)⟩
  · have hzl : (400 : Int) < (s.size : Int) := by omega
    have HN : Hid (¬ ea = 0) := fun h => hs (unhide HS h)
    clear hs HS CW hr
    go_enter Tryz.func22, Tryz.ntmps22
    go_wp2_with (go_at_call 21; refine (unhide CK _).mono ?_; rintro e w' ⟨rfl, rfl⟩)
    refine bodyPost_ret (results_tmp2 rfl _ _ _) rfl ?_
    exact ⟨_, _, rfl, fun h => absurd h (unhide HN), b0⟩
set_option maxHeartbeats 1600000 in
theorem text22 (va vb : Value) (s out : ByteArray) (w : World) (hL : LK w) (hE : S18.parE (S18.nums s) = 0)
    (CN : ∀ vn W, Below w.heap.size w W → S18.NmV W vn (S18.parN (S18.nums s)) → Calls Tryz.prog 23 #[.agg #[va, vb], vn] W fun e w' => e = .returned (.tuple #[.string out, .int .i64 0]) ∧ Below W.heap.size W w') :
    Calls Tryz.prog 35 #[.agg #[va, vb], .string s] w fun e w' => e = .returned (.tuple #[.string out, .int .i64 0]) ∧ Below w.heap.size w w' := by
  have b0 := Below.one w (.cells #[va, vb] 38)
  have CP := S18.parse_any s _ (hL.keep b0).ly18
  rw [hE] at CP
  have HP := hide CP
  have HN := hide CN
  have hB : Hid ((w.alloc (.cells #[va, vb] 38)).heap[w.heap.size]? = some (.cells #[va, vb] 38)) := heap_new w _
  clear CP CN hL hE
  generalize S18.parN (S18.nums s) = N at *
  go_enter Tryz.func35, Tryz.ntmps35
  go_wp2_with (first
    | (go_at_call 23; refine (unhide HN _ _ t2 (unhide HV)).mono ?_; rintro e w3 ⟨rfl, b3⟩)
    | (go_at_call 56; refine (unhide HP).mono ?_; rintro e w2 ⟨vn, rfl, hv, b2⟩; have t2 := b0.trans (b2.mono b0.size); have HV := hide hv; have c0 := S18.blk_cell (box22 (unhide hB) b2) 0; have c1 := S18.blk_cell (box22 (unhide hB) b2) 1; clear hv))
  refine bodyPost_ret (results_tmp2 rfl _ _ _) rfl ?_
  exact ⟨rfl, t2.trans (b3.mono t2.size)⟩
set_option maxHeartbeats 1600000 in
theorem key22_name (va vb : Value) (s out : ByteArray) (w : World) (hL : LK w) (hs : s.size ≤ 400) (hE : S18.parE (S18.nums s) = 0)
    (CN : ∀ vn W, Below w.heap.size w W → S18.NmV W vn (S18.parN (S18.nums s)) → Calls Tryz.prog 23 #[.agg #[va, vb], vn] W fun e w' => e = .returned (.tuple #[.string out, .int .i64 0]) ∧ Below W.heap.size W w') :
    Calls Tryz.prog 22 #[.agg #[va, vb], .int .i64 6, .string s] w fun e w' => e = .returned (.tuple #[.string out, .int .i64 0]) ∧ Below w.heap.size w w' := by
  have b0 := Below.one w (.cells #[va, vb] 38)
  have CK := hide (fun W => known_at 6 (by omega) W)
  have CT := hide (text22 va vb s out _ (hL.keep b0) hE (fun vn W h => CN vn W (b0.trans (h.mono b0.size))))
  have hzl : ¬ (400 : Int) < (s.size : Int) := by omega
  have hB : (w.alloc (.cells #[va, vb] 38)).heap[w.heap.size]? = some (.cells #[va, vb] 38) := heap_new w _
  have c0 := S18.blk_cell hB 0
  have c1 := S18.blk_cell hB 1
  clear CN hL hE hs hB
  go_enter Tryz.func22, Tryz.ntmps22
  go_wp2_with (first
    | (go_at_call 35; refine (unhide CT).mono ?_; rintro e w3 ⟨rfl, b3⟩)
    | (go_at_call 21; refine (unhide CK _).mono ?_; rintro e w' ⟨rfl, rfl⟩))
  refine bodyPost_ret (results_tmp2 rfl _ _ _) rfl ?_
  exact ⟨rfl, b0.trans (b3.mono b0.size)⟩
end Go.Proofs.YtefobkgifigclaaGreatDoor
