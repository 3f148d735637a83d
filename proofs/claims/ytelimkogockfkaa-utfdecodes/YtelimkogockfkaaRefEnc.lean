/- Contract of the document's Encode. -/
import Derived.Test.YtelimkogockfkaaOne
namespace Go.Proofs.Ytelimkogockfkaa
open Go.RowKit

theorem cell_lt {w : World} {a : Addr} {v : Value} (h : w.cell? a = some v) : a.block < w.heap.size := by
  rcases Nat.lt_or_ge a.block w.heap.size with h' | h'
  · exact h'
  · simp [World.cell?, Array.getElem?_eq_none h'] at h
theorem strOfNums_append (a b : List Int) : strOfNums a ++ strOfNums b = strOfNums (a ++ b) := by
  unfold strOfNums
  rw [ByteArray.mk_append_mk, List.map_append]
theorem ret_se {a b : ByteArray} {c d : Int} (h : a = b) (h' : c = d) : Ending.returned (.tuple #[.string a, .int .i64 c]) = .returned (.tuple #[.string b, .int .i64 d]) := by rw [h, h']

/-- What Encode tells: the bytes, or an error. -/
def encS (l : List Int) : ByteArray := if okL l then strOfNums (encL l) else strOfNums []
def encE (l : List Int) : Int := if okL l then 0 else 10

theorem take_snoc (l : List Int) (k : Nat) (h : k < l.length) : l.take (k + 1) = l.take k ++ [l.getD k 0] := by
  rw [List.take_succ_eq_append_getElem h]; simp [List.getD, h]
theorem okL_snoc (l : List Int) (x : Int) : okL (l ++ [x]) = (okL l && isPt x) := by simp [okL]
theorem encL_snoc (l : List Int) (x : Int) : encL (l ++ [x]) = encL l ++ enc1 x := by rw [encL_append]; simp [encL]
theorem okL_bad (l : List Int) (k : Nat) (h : k < l.length) (hx : isPt (l.getD k 0) = false) : okL l = false := by
  unfold okL
  rw [List.all_eq_false]
  refine ⟨l[k], List.getElem_mem h, ?_⟩
  simp [List.getD, h] at hx
  simp [hx]
theorem okL_all (l : List Int) : okL (l.take l.length) = okL l := by rw [List.take_length]

set_option maxHeartbeats 800000 in
theorem rencode_some (b off len cap : Nat) (l : List Int) (w : World) (hl : l.length = len) (hlen : len ≤ 80000)
    (hcell : ∀ i, i < len → w.cell? ⟨b, off + i, none⟩ = some (.int .i32 (l.getD i 0)))
    (hw : ∀ i, i < len → -2147483648 ≤ l.getD i 0 ∧ l.getD i 0 ≤ 2147483647) :
    Calls Try.prog 10 #[.slice (some ⟨b, off, none⟩) len cap] w fun e w' => e = .returned (.tuple #[.string (encS l), .int .i64 (encE l)]) ∧ Below w.heap.size w w' := by
  have HL := hide hl
  have HC := hide hcell
  have HW := hide hw
  clear hl hcell hw
  go_enter Try.func10, Try.ntmps10
  go_wp2
  go_loopw [4, 5] (fun o i wr => ∃ k : Nat, k ≤ len ∧ i = .int .i64 k ∧ o = .string (strOfNums (encL (l.take k))) ∧ okL (l.take k) = true ∧ Below w.heap.size w wr) (fun _ i _ => len - (intOf i).toNat)
  case atStart => exact ⟨0, Nat.zero_le _, rfl, rfl, rfl, Below.refl _ _⟩
  case round =>
    obtain ⟨k, hk, rfl, rfl, hok, hnx⟩ := hrel
    have HOK := hide hok
    clear hok
    by_cases hlt : k < len
    · have hc0 := unhide HC k hlt
      have hbk := cell_lt hc0
      have hc1 : wr.cell? ⟨b, off + k, none⟩ = some (.int .i32 (l.getD k 0)) := (hnx.cell (by exact hbk)).trans hc0
      obtain ⟨b1, b2⟩ := unhide HW k hlt
      have hsn := hide (take_snoc l k (by rw [unhide HL]; exact hlt))
      have HB := hide (okL_bad l k (by rw [unhide HL]; exact hlt))
      clear hc0 hbk
      generalize l.getD k 0 = x at *
      have hzl : (k : Int) < (len : Int) := by omega
      cases hx : isPt x
      · have HE := hide (unhide HB hx)
        go_wp2_with (go_at_call 12; refine (rpoint_no _ _ b1 b2 hx).mono ?_; rintro e w' ⟨rfl, rfl⟩)
        go_ret2
        have he := unhide HE
        exact ⟨ret_se (by unfold encS; rw [he]; rfl) (by unfold encE; rw [he]; rfl), hnx⟩
      · have hs1 := encL_bound (l.take k)
        have hs2 := enc1_bound x
        have hs3 : (l.take k).length ≤ k := List.length_take_le _ _
        have hs : (strOfNums (encL (l.take k))).size + (strOfNums (enc1 x)).size ≤ 9223372036854775807 := by rw [strOfNums_size, strOfNums_size]; omega
        have HX := hide hx
        clear hs1 hs2 hs3
        go_wp2_with (first | (go_at_call 12; refine (rpoint_yes _ _ (unhide HX)).mono ?_; rintro e w' ⟨rfl, rfl⟩) | (go_at_call 22; refine (one_any _ _ (unhide HX)).mono ?_; rintro e w' ⟨rfl, C, rfl⟩))
        go_roundw
        case rel =>
          have hn : (l.take k ++ [x]) = l.take (k + 1) := (unhide hsn).symm
          refine ⟨k + 1, by omega, by go_num, ?_, ?_, hnx.alloc hnx.size _⟩
          · rw [strOfNums_append, ← encL_snoc, hn]
          · rw [← hn, okL_snoc, unhide HOK, unhide HX]; rfl
        case measure => simp [intOf]; omega
    · have hzl : ¬ (k : Int) < (len : Int) := by omega
      go_wp2
      go_ret2
      have hkl : k = l.length := by rw [unhide HL]; omega
      have hok := unhide HOK
      rw [hkl, okL_all] at hok
      exact ⟨ret_se (by rw [hkl, List.take_length]; unfold encS; rw [hok]; rfl) (by unfold encE; rw [hok]; rfl), hnx⟩
end Go.Proofs.Ytelimkogockfkaa
