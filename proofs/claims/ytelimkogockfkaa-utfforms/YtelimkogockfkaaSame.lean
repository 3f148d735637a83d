/- Contract of the document's Same, of two lists that are the same; Encode of no code points; Decode beyond the text. -/
import Derived.Test.YtelimkogockfkaaRunes
import Derived.Test.YtelimkogockfkaaEnc
namespace Go.Proofs.Ytelimkogockfkaa
open Go.RowKit

/-- A slice that holds the numbers l. -/
def Row (w : World) (v : Value) (l : List Int) : Prop :=
  ∃ a cap, v = .slice a l.length cap ∧ ∀ i, i < l.length → ∃ b off, a = some ⟨b, off, none⟩ ∧ ∀ j, j < l.length → w.cell? ⟨b, off + j, none⟩ = some (.int .i32 (l.getD j 0))

theorem Row.below {w w2 : World} {v : Value} {l : List Int} (h : Row w v l) (hb : Below w.heap.size w w2) : Row w2 v l := by
  obtain ⟨a, cap, rfl, hc⟩ := h
  refine ⟨a, cap, rfl, fun i hi => ?_⟩
  obtain ⟨b, off, rfl, hcc⟩ := hc i hi
  exact ⟨b, off, rfl, fun j hj => (hb.cell (p := ⟨b, off + j, none⟩) (cell_lt (hcc j hj))).trans (hcc j hj)⟩

theorem Row.of_own {w : World} {B : Nat} {v : Value} {l : List Int} (h : w.ownsRow B 21 1 v l.length (l.map (Value.int .i32))) : Row w v l := by
  rcases h.2 with ⟨hv, h0⟩ | ⟨g, cap, cur, hv, _⟩
  · exact ⟨none, 0, by rw [hv, h0], fun i hi => by omega⟩
  · refine ⟨some ⟨g, 0, none⟩, cap, hv, fun i hi => ⟨g, 0, rfl, fun j hj => ?_⟩⟩
    have := h.cells (g := g) (by rw [hv]; rfl) j (.int .i32 (l.getD j 0)) (by simp [List.getD, hj])
    rw [add_zero g j] at this
    rw [Nat.zero_add]
    exact this

set_option maxHeartbeats 400000 in
theorem same_empty (a b : Option Addr) (c d : Nat) (w : World) :
    Calls Try.prog 20 #[.slice a 0 c, .slice b 0 d] w fun e w' => e = .returned (.bool true) ∧ Below w.heap.size w w' := by
  go_enter Try.func20, Try.ntmps20
  go_wp2
  refine wp_loop_rounds 1 ?_
  rw [rounds_succ]
  go_wp2
  go_ret
  exact ⟨rfl, Below.refl _ _⟩

set_option maxHeartbeats 800000 in
theorem same_some (b1 o1 c1 b2 o2 c2 : Nat) (l : List Int) (w : World) (hl : l.length ≤ 80000)
    (h1 : ∀ j, j < l.length → w.cell? ⟨b1, o1 + j, none⟩ = some (.int .i32 (l.getD j 0))) (h2 : ∀ j, j < l.length → w.cell? ⟨b2, o2 + j, none⟩ = some (.int .i32 (l.getD j 0))) :
    Calls Try.prog 20 #[.slice (some ⟨b1, o1, none⟩) l.length c1, .slice (some ⟨b2, o2, none⟩) l.length c2] w fun e w' => e = .returned (.bool true) ∧ Below w.heap.size w w' := by
  have H1 := hide h1
  have H2 := hide h2
  clear h1 h2
  go_enter Try.func20, Try.ntmps20
  go_wp2
  go_loopw [5] (fun i wr => ∃ k : Nat, k ≤ l.length ∧ i = .int .i64 k ∧ Below w.heap.size w wr) (fun i _ => l.length - (intOf i).toNat)
  case atStart => exact ⟨0, Nat.zero_le _, rfl, Below.refl _ _⟩
  case round =>
    obtain ⟨k, hk, rfl, hnx⟩ := hrel
    by_cases hlt : k < l.length
    · have hzl : (k : Int) < (l.length : Int) := by omega
      have hz0 : (0 : Int) ≤ (k : Int) := by omega
      have g1 := unhide H1 k hlt
      have g2 := unhide H2 k hlt
      have k1 : wr.cell? ⟨b1, o1 + k, none⟩ = some (.int .i32 (l.getD k 0)) := (hnx.cell (by exact cell_lt g1)).trans g1
      have k2 : wr.cell? ⟨b2, o2 + k, none⟩ = some (.int .i32 (l.getD k 0)) := (hnx.cell (by exact cell_lt g2)).trans g2
      clear g1 g2
      generalize l.getD k 0 = x at *
      go_wp2
      go_quiet (fail)
      go_wp2
      go_roundw
      case rel => exact ⟨k + 1, by omega, by go_num, below_drewN hnx _⟩
      case measure => simp [intOf]; omega
    · have hzl : ¬ (k : Int) < (l.length : Int) := by omega
      go_wp2
      go_ret
      exact ⟨rfl, hnx⟩

theorem same_any (v1 v2 : Value) (l : List Int) (w : World) (hl : l.length ≤ 80000) (h1 : Row w v1 l) (h2 : Row w v2 l) :
    Calls Try.prog 20 #[v1, v2] w fun e w' => e = .returned (.bool true) ∧ Below w.heap.size w w' := by
  obtain ⟨a, c, rfl, h1⟩ := h1
  obtain ⟨b, d, rfl, h2⟩ := h2
  by_cases h0 : l.length = 0
  · rw [h0]; exact same_empty a b c d w
  · obtain ⟨b1, o1, rfl, k1⟩ := h1 0 (by omega)
    obtain ⟨b2, o2, rfl, k2⟩ := h2 0 (by omega)
    exact same_some b1 o1 c b2 o2 d l w hl k1 k2

theorem empty_nums : strOfNums [] = { data := #[] } := rfl

set_option maxHeartbeats 400000 in
theorem encode_empty (a : Option Addr) (cap : Nat) (w : World) :
    Calls Try.prog 9 #[.slice a 0 cap] w fun e w' => e = .returned (.tuple #[.string (strOfNums []), .int .i64 0]) ∧ Below w.heap.size w w' := by
  obtain ⟨i0, hi, hz0, hz1, hz2⟩ := info_parts Try.info5
  go_enter Try.func9, Try.ntmps9
  go_wp2_with (refine wpList_make_own _ rfl _ _ 43 rfl w.heap.size 5 i0 (.int .u8 0) 1 Try.underlying43 hi hz0 hz1 .i64 .i64 _ 0 rfl rfl rfl (by rw [hz2]; omega) (Nat.zero_le _) (Nat.le_refl _) ?_; intro w1 hown1 hgrow1)
  refine wp_loop_rounds 1 ?_
  rw [rounds_succ]
  have HB : Below w.heap.size w w1 := (Below.refl _ _).grown hgrow1 (Nat.le_refl _) (by intro k h; cases h)
  have hcv := run_convert_bytes_arg w1 43 5 Try.underlying43 Try.underlying5 w.heap.size 0 0 0 [] rfl (fun i hi => by omega) 9 Try.underlying9
  clear hown1 hgrow1
  go_wp2
  go_ret2
  exact ⟨rfl, HB⟩

set_option maxHeartbeats 400000 in
theorem rencode_empty (a : Option Addr) (cap : Nat) (w : World) :
    Calls Try.prog 10 #[.slice a 0 cap] w fun e w' => e = .returned (.tuple #[.string (strOfNums []), .int .i64 0]) ∧ Below w.heap.size w w' := by
  go_enter Try.func10, Try.ntmps10
  go_wp2
  refine wp_loop_rounds 1 ?_
  rw [rounds_succ]
  go_wp2
  go_ret2
  exact ⟨rfl, Below.refl _ _⟩

theorem encode_any (v : Value) (l : List Int) (w : World) (hl : l.length ≤ 80000) (h : Row w v l) :
    Calls Try.prog 9 #[v] w fun e w' => e = .returned (.tuple #[.string (encS l), .int .i64 (encE l)]) ∧ Below w.heap.size w w' := by
  obtain ⟨a, c, rfl, h1⟩ := h
  by_cases h0 : l.length = 0
  · obtain rfl : l = [] := List.eq_nil_of_length_eq_zero h0
    exact encode_empty a c w
  · obtain ⟨b1, o1, rfl, k1⟩ := h1 0 (by omega)
    exact encode_some b1 o1 l.length c l w rfl hl k1

theorem rencode_any (v : Value) (l : List Int) (w : World) (hl : l.length ≤ 80000) (h : Row w v l) (hw : ∀ x ∈ l, -2147483648 ≤ x ∧ x ≤ 2147483647) :
    Calls Try.prog 10 #[v] w fun e w' => e = .returned (.tuple #[.string (encS l), .int .i64 (encE l)]) ∧ Below w.heap.size w w' := by
  obtain ⟨a, c, rfl, h1⟩ := h
  by_cases h0 : l.length = 0
  · obtain rfl : l = [] := List.eq_nil_of_length_eq_zero h0
    exact rencode_empty a c w
  · obtain ⟨b1, o1, rfl, k1⟩ := h1 0 (by omega)
    exact rencode_some b1 o1 l.length c l w rfl hl k1 fun i hi => by
      have : l.getD i 0 = l[i] := by simp [List.getD, hi]
      rw [this]
      exact hw _ (List.getElem_mem hi)

set_option maxRecDepth 100000 in
set_option maxHeartbeats 400000 in
theorem decode_out (s : ByteArray) (at_ : Int) (w : World) (h : within s at_ = false) :
    Calls Try.prog 16 #[.string s, .int .i64 at_] w fun e w' => e = .returned (.tuple #[.int .i32 0, .int .i64 0, .int .i64 2]) ∧ w' = w := by
  have h' : at_ < 0 ∨ (0 ≤ at_ ∧ (s.size : Int) ≤ at_) := by unfold within at h; rw [decide_eq_false_iff_not] at h; omega
  clear h
  rcases h' with h1 | ⟨h1, h2⟩
  · go_enter Try.func16, Try.ntmps16
    go_wp2
    go_step3
    go_wp2
    try rw [Exit.noGoto_ret]
    go_ret3
    exact ⟨rfl, rfl⟩
  · go_enter Try.func16, Try.ntmps16
    go_wp2
    go_step3
    go_wp2
    try rw [Exit.noGoto_ret]
    go_ret3
    exact ⟨rfl, rfl⟩
end Go.Proofs.Ytelimkogockfkaa
