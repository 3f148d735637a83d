/- The program's length of layer 15: what a length says, read. -/
import Derived.Test.YtcboggoindhmkaaDb15
import Derived.ScopeJumps
import Derived.Laws.BitsAllLaws
namespace Go.Proofs.Ytcboggoindhmkaa
open Go.RowKit

/-- A scope whose label is jumped to once at most, and ahead: the way on from the label is walked from where the jump stands. -/
theorem scope_once {P : Program} {a : Act} {w : World} {Q : Exit → Act → World → Prop} {c rest : Code} (l : Nat) (hf : findLabel c l = some (Code.skip.seq rest))
    (first : c.wp P (Exit.jump l (fun a w => rest.wp P (Exit.noGoto Q) a w) Q) a w) : (Code.scope c).wp P Q a w := by
  refine wp_scope_jumps l (fun a w => rest.wp P (Exit.noGoto Q) a w) (fun _ _ => 0) hf first fun a w h => wp_seq (wp_skip (wp_mono h ?_))
  intro e a' w' h
  cases e with
  | goto l' => exact absurd h (by simp [Exit.noGoto])
  | normal => exact h
  | exit id => exact h
  | ret => exact h
  | panic ch => exact h
  | outgrown => exact h
/-- The bytes of a text, as a new slice. -/
theorem bytes_new (t : ByteArray) (w : World) : ∃ (w1 : World) (cap1 : Nat), (convert 9 71 (.string t)).run Try.prog w = .ok (.slice (some ⟨w.heap.size, 0, none⟩) t.size cap1) w1 ∧
    (∀ j, j < t.size → w1.cell? ⟨w.heap.size, j, none⟩ = some (.int .u8 ((nums t).getD j 0))) ∧ Below w.heap.size w w1 := by
  refine ⟨_, _, run_bytes_of_string w 9 71 5 t Try.underlying9 Try.underlying71 Try.underlying5, ?_, ((Below.refl _ _).drew).alloc (Nat.le_refl _) _⟩
  intro j hj
  have := World.cell?_alloc_mark w.drew (bytesRow t (grownCap w t.size 0 5)) 5 ((bytesRow t (grownCap w t.size 0 5)).size, (bytesRow t (grownCap w t.size 0 5)).size + 1) j
  refine this.trans ?_
  rw [bytesRow_at t _ j (by simpa using hj), nums_at t j hj]
  rfl
theorem ofInt_i64 (a : Nat) (ha : a < 9223372036854775808) : (BitVec.ofInt 64 (a : Int)).toNat = a := by
  rw [BitVec.ofInt_natCast, BitVec.toNat_ofNat]; exact Nat.mod_eq_of_lt (by omega)
theorem i64_or256 (x y : Int) (h0 : 0 ≤ x) (h1 : x < 16777216) (h2 : 0 ≤ y) (h3 : y < 256) : bits .or .i64 (x * 256) y = 256 * x + y := by
  obtain ⟨a, rfl⟩ := Int.eq_ofNat_of_zero_le h0
  obtain ⟨b, rfl⟩ := Int.eq_ofNat_of_zero_le h2
  have e : (a : Int) * 256 = ((256 * a : Nat) : Int) := by omega
  rw [e]
  show IntKind.i64.wrap ((BitVec.ofInt 64 ((256 * a : Nat) : Int) ||| BitVec.ofInt 64 (b : Int)).toNat : Int) = _
  rw [BitVec.toNat_or, ofInt_i64 _ (by omega), ofInt_i64 b (by omega), nat_join 8 (256 * a) b (by omega) (by omega), wrap_in (by omega) (by omega)]
  omega
theorem nums_sub (s : ByteArray) (a b : Nat) : nums (s.extract a b) = ((nums s).drop a).take (b - a) := by
  simp [nums, ByteArray.data_extract, Array.toList_extract, List.extract, List.map_take, List.map_drop]
theorem nums_drop (s : ByteArray) (a : Nat) : nums (s.extract a s.size) = (nums s).drop a := by
  rw [nums_sub]
  exact List.take_of_length_le (by rw [List.length_drop, nums_length]; omega)
theorem getD_sub (l : List Int) (a n j : Nat) (h : j < n) : ((l.drop a).take n).getD j 0 = l.getD (a + j) 0 := by
  simp [List.getD, h]
theorem getD_nums (s : ByteArray) (j : Nat) : 0 ≤ (nums s).getD j 0 ∧ (nums s).getD j 0 < 256 := by
  by_cases h : j < (nums s).length
  · have : (nums s).getD j 0 = (nums s)[j] := by simp [List.getD, h]
    rw [this]; exact nums_bound s _ (List.getElem_mem h)
  · simp [List.getD, List.getElem?_eq_none (Nat.le_of_not_lt h)]
/-- What a length says, its own bytes; the error. -/
def lenB (s : List Int) : Int × Int × Int :=
  if s.length < 1 then (0, 0, 150)
  else if s.getD 0 0 < 128 then (s.getD 0 0, 1, 0)
  else if s.getD 0 0 = 128 ∨ 130 < s.getD 0 0 then (0, 0, 152)
  else if (s.length : Int) < s.getD 0 0 - 127 then (0, 0, 150)
  else if s.getD 0 0 = 129 then (if s.getD 1 0 < 128 then (0, 0, 152) else (s.getD 1 0, 2, 0))
  else if s.getD 1 0 = 0 then (0, 0, 152) else (256 * s.getD 1 0 + s.getD 2 0, 3, 0)
theorem head_len (s : List Int) (h : 1 ≤ s.length) (h2 : s.getD 0 0 % 32 ≠ 31) : headB s = if (lenB (s.drop 1)).2.2 = 0 then (1 + (lenB (s.drop 1)).2.1, (lenB (s.drop 1)).1, 0) else (0, 0, (lenB (s.drop 1)).2.2) := by
  have hL : lenB (s.drop 1) = if s.length < 2 then (0, 0, 150) else if s.getD 1 0 < 128 then (s.getD 1 0, 1, 0) else if s.getD 1 0 = 128 ∨ 130 < s.getD 1 0 then (0, 0, 152) else if (s.length : Int) < s.getD 1 0 - 126 then (0, 0, 150) else if s.getD 1 0 = 129 then (if s.getD 2 0 < 128 then (0, 0, 152) else (s.getD 2 0, 2, 0)) else if s.getD 2 0 = 0 then (0, 0, 152) else (256 * s.getD 2 0 + s.getD 3 0, 3, 0) := by
    have e1 : (s.length - 1 < 1) = (s.length < 2) := propext (by omega)
    have e2 : (((s.length - 1 : Nat) : Int) < s.getD 1 0 - 127) = ((s.length : Int) < s.getD 1 0 - 126) := propext (by omega)
    unfold lenB
    simp only [List.length_drop, getD_drop, Nat.add_zero, Nat.reduceAdd]
    simp only [e1, e2]
  generalize lenB (s.drop 1) = L at *
  unfold headB
  rw [if_neg (by omega), if_neg h2]
  by_cases a : s.length < 2
  · rw [if_pos a] at hL ⊢; rw [hL]; rfl
  · rw [if_neg a] at hL ⊢
    by_cases b : s.getD 1 0 < 128
    · rw [if_pos b] at hL ⊢; rw [hL]; rfl
    · rw [if_neg b] at hL ⊢
      by_cases c : s.getD 1 0 = 128 ∨ 130 < s.getD 1 0
      · rw [if_pos c] at hL ⊢; rw [hL]; rfl
      · rw [if_neg c] at hL ⊢
        by_cases d : (s.length : Int) < s.getD 1 0 - 126
        · rw [if_pos d] at hL ⊢; rw [hL]; rfl
        · rw [if_neg d] at hL ⊢
          by_cases e : s.getD 1 0 = 129
          · rw [if_pos e] at hL ⊢
            by_cases f : s.getD 2 0 < 128
            · rw [if_pos f] at hL ⊢; rw [hL]; rfl
            · rw [if_neg f] at hL ⊢; rw [hL]; rfl
          · rw [if_neg e] at hL ⊢
            by_cases f : s.getD 2 0 = 0
            · rw [if_pos f] at hL ⊢; rw [hL]; rfl
            · rw [if_neg f] at hL ⊢; rw [hL]; rfl
theorem wid_low (c d : Int) (hc : c = 0) (h : d < 256) : wid (256 * c + d) = if d < 128 then 1 else 2 := by
  unfold wid
  by_cases q : d < 128
  · rw [if_pos q, if_pos (by omega)]
  · rw [if_neg q, if_neg (by omega), if_pos (by omega)]
theorem toList_none {s : ByteArray} (h : s.size = 0) : s.toList.isEmpty = true := by
  rw [List.isEmpty_iff, ByteArray.toList_eq]
  exact List.eq_nil_of_length_eq_zero (by rw [Array.length_toList]; exact h)
theorem toList_some {s : ByteArray} (h : 0 < s.size) : s.toList.isEmpty = false := by
  cases h2 : s.toList.isEmpty
  · rfl
  · rw [List.isEmpty_iff] at h2
    have h3 := congrArg List.length h2
    rw [ByteArray.toList_eq, Array.length_toList] at h3
    have h4 : s.size = 0 := h3
    omega
set_option maxHeartbeats 6400000 in
theorem length_any (s : ByteArray) (w : World) : Calls Try.prog 47 #[.string s] w fun r w' => r = .returned (.tuple #[.int .i64 (lenB (nums s)).1, .int .i64 (lenB (nums s)).2.1, .int .i64 (lenB (nums s)).2.2]) ∧ Below w.heap.size w w' := by
  have HB : Hid (lenB (nums s) = if s.size < 1 then (0, 0, 150) else if (nums s).getD 0 0 < 128 then ((nums s).getD 0 0, 1, 0) else if (nums s).getD 0 0 = 128 ∨ 130 < (nums s).getD 0 0 then (0, 0, 152) else if (s.size : Int) < (nums s).getD 0 0 - 127 then (0, 0, 150) else if (nums s).getD 0 0 = 129 then (if (nums s).getD 1 0 < 128 then (0, 0, 152) else ((nums s).getD 1 0, 2, 0)) else if (nums s).getD 1 0 = 0 then (0, 0, 152) else (256 * (nums s).getD 1 0 + (nums s).getD 2 0, 3, 0)) := by
    show _ = _
    unfold lenB
    rw [nums_length]
  by_cases n1 : s.size < 1
  · have e1 := toList_none (show s.size = 0 by omega)
    rw [unhide HB, if_pos n1]
    clear HB
    go_enter Try.func47, Try.ntmps47
    go_wp2
    refine scope_once 0 rfl ?_
    go_wp2
    simp only [Exit.jump]
    go_ret3
    exact ⟨rfl, Below.refl _ _⟩
  have e1 := toList_some (show 0 < s.size by omega)
  have i1 : 0 < s.size := by omega
  have hat := nums_at s 0 i1
  obtain ⟨b, hb⟩ : ∃ b : Int, (s[0].toNat : Int) = b := ⟨_, rfl⟩
  rw [hb] at hat
  have b0 := getD_nums s 0
  rw [hat] at b0
  obtain ⟨b0, b1⟩ := b0
  rw [hat, if_neg n1] at HB
  clear hat n1
  by_cases n2 : b < 128
  · rw [unhide HB, if_pos n2]
    clear HB
    go_enter Try.func47, Try.ntmps47
    go_wp2
    refine scope_once 0 rfl ?_
    go_wp2
    simp only [Exit.jump]
    go_ret3
    exact ⟨rfl, Below.refl _ _⟩
  rw [if_neg n2] at HB
  by_cases n3 : b = 128 ∨ 130 < b
  · rw [unhide HB, if_pos n3]
    have z1 : (b == 129) = false := by simp; omega
    have z2 : (b == 130) = false := by simp; omega
    clear HB n3
    go_enter Try.func47, Try.ntmps47
    go_wp2
    refine scope_once 0 rfl ?_
    go_wp2
    go_step3
    refine And.intro rfl ?_
    change Code.wp _ _ _ _ _
    go_wp2
    simp only [Exit.noGoto]
    go_ret3
    exact ⟨rfl, Below.refl _ _⟩
  rw [if_neg n3] at HB
  have CW := hide (fun n W => width_any n W)
  by_cases n4 : b = 129
  · subst n4
    clear n3
    by_cases n5 : s.size < 2
    · have l3 : (s.size : Int) < 2 := by omega
      rw [unhide HB, if_pos (by omega)]
      clear HB
      go_enter Try.func47, Try.ntmps47
      go_wp2
      refine scope_once 0 rfl ?_
      go_wp2
      simp only [Exit.jump]
      go_ret3
      exact ⟨rfl, Below.refl _ _⟩
    have l3 : ¬ (s.size : Int) < 2 := by omega
    have l4 : (2 : Int) ≤ (s.size : Int) := by omega
    obtain ⟨w1, cap1, hcv, hcell, hbel⟩ := bytes_new (s.extract 1 2) w
    have hz : (s.extract 1 2).size = 1 := by rw [ByteArray.size_extract]; omega
    have y0 := hcell 0 (by omega)
    rw [nums_sub, getD_sub _ _ _ _ (by omega)] at y0
    have c0 := getD_nums s 1
    rw [hz] at hcv
    simp only [Nat.add_zero] at y0
    generalize (nums s).getD 1 0 = c at *
    obtain ⟨c0, c1⟩ := c0
    have o1 : bits .or .i64 0 c = c := by have := i64_or256 0 c (by omega) (by omega) c0 c1; simpa using this
    rw [if_neg (by omega), if_pos rfl] at HB
    have BE := hide hbel
    clear hcell hbel hz
    by_cases n6 : c < 128
    · have hw := unhide CW c
      rw [show wid c = 1 by unfold wid; rw [if_pos n6]] at hw
      have HW := hide hw
      clear hw CW
      rw [unhide HB, if_pos n6]
      clear HB
      go_enter Try.func47, Try.ntmps47
      go_wp2
      refine scope_once 0 rfl ?_
      go_wp2
      refine wp_loop_rounds 2 ?_
      rw [rounds_succ]
      go_wp2
      rw [rounds_succ]
      go_wp2_with (go_at_call 45; refine (unhide HW _).mono ?_; rintro e w3 ⟨rfl, rfl⟩)
      go_step3
      refine And.intro rfl ?_
      change Code.wp _ _ _ _ _
      go_wp2
      simp only [Exit.noGoto]
      go_ret3
      exact ⟨rfl, unhide BE⟩
    · have hw := unhide CW c
      rw [show wid c = 2 by unfold wid; rw [if_neg n6, if_pos c1]] at hw
      have HW := hide hw
      clear hw CW
      rw [unhide HB, if_neg n6]
      clear HB
      go_enter Try.func47, Try.ntmps47
      go_wp2
      refine scope_once 0 rfl ?_
      go_wp2
      refine wp_loop_rounds 2 ?_
      rw [rounds_succ]
      go_wp2
      rw [rounds_succ]
      go_wp2_with (go_at_call 45; refine (unhide HW _).mono ?_; rintro e w3 ⟨rfl, rfl⟩)
      simp only [Exit.jump]
      go_ret3
      exact ⟨rfl, unhide BE⟩
  have n5 : b = 130 := by omega
  subst n5
  clear n3 n4
  by_cases n5 : s.size < 3
  · have l3 : (s.size : Int) < 3 := by omega
    rw [unhide HB, if_pos (by omega)]
    clear HB
    go_enter Try.func47, Try.ntmps47
    go_wp2
    refine scope_once 0 rfl ?_
    go_wp2
    simp only [Exit.jump]
    go_ret3
    exact ⟨rfl, Below.refl _ _⟩
  have l3 : ¬ (s.size : Int) < 3 := by omega
  have l4 : (3 : Int) ≤ (s.size : Int) := by omega
  obtain ⟨w1, cap1, hcv, hcell, hbel⟩ := bytes_new (s.extract 1 3) w
  have hz : (s.extract 1 3).size = 2 := by rw [ByteArray.size_extract]; omega
  have y0 := hcell 0 (by omega)
  have y1 := hcell 1 (by omega)
  rw [nums_sub, getD_sub _ _ _ _ (by omega)] at y0 y1
  have c0 := getD_nums s 1
  have d0 := getD_nums s 2
  rw [hz] at hcv
  simp only [Nat.add_zero, Nat.reduceAdd] at y0 y1
  generalize (nums s).getD 1 0 = c at *
  generalize (nums s).getD 2 0 = d at *
  obtain ⟨c0, c1⟩ := c0
  obtain ⟨d0, d1⟩ := d0
  have o1 : bits .or .i64 0 c = c := by have := i64_or256 0 c (by omega) (by omega) c0 c1; simpa using this
  have o2 : wrap64 (c * 256) = c * 256 := by unfold wrap64; omega
  have o3 := i64_or256 c d c0 (by omega) d0 d1
  rw [if_neg (by omega), if_neg (by omega)] at HB
  have BE := hide hbel
  clear hcell hbel hz
  by_cases n6 : c = 0
  · have hw := unhide CW (256 * c + d)
    rw [wid_low c d n6 d1] at hw
    have HW := hide hw
    clear hw CW
    rw [unhide HB, if_pos n6]
    clear HB n6
    have q3 : ((if d < 128 then (1 : Int) else 2) == 3) = false := by split <;> rfl
    generalize (if d < 128 then (1 : Int) else 2) = u at *
    go_enter Try.func47, Try.ntmps47
    go_wp2
    refine scope_once 0 rfl ?_
    go_wp2
    refine wp_loop_rounds 3 ?_
    rw [rounds_succ]
    go_wp2
    rw [rounds_succ]
    go_wp2
    rw [rounds_succ]
    go_wp2_with (go_at_call 45; refine (unhide HW _).mono ?_; rintro e w3 ⟨rfl, rfl⟩)
    go_step3
    refine And.intro rfl ?_
    change Code.wp _ _ _ _ _
    go_wp2
    simp only [Exit.noGoto]
    go_ret3
    exact ⟨rfl, unhide BE⟩
  · have hw := unhide CW (256 * c + d)
    rw [show wid (256 * c + d) = 3 by unfold wid; rw [if_neg (by omega), if_neg (by omega)]] at hw
    have HW := hide hw
    clear hw CW
    rw [unhide HB, if_neg n6]
    clear HB
    go_enter Try.func47, Try.ntmps47
    go_wp2
    refine scope_once 0 rfl ?_
    go_wp2
    refine wp_loop_rounds 3 ?_
    rw [rounds_succ]
    go_wp2
    rw [rounds_succ]
    go_wp2
    rw [rounds_succ]
    go_wp2_with (go_at_call 45; refine (unhide HW _).mono ?_; rintro e w3 ⟨rfl, rfl⟩)
    simp only [Exit.jump]
    go_ret3
    exact ⟨rfl, unhide BE⟩
end Go.Proofs.Ytcboggoindhmkaa
