/- Contracts of the document's bytes of a code point, and its length. -/
import Derived.Test.YtegpdppfdgcljaaULeaf
namespace Go.Proofs.Ytegpdppfdgcljaa
open Go.RowKit

theorem ret_str {a b : ByteArray} (h : a = b) : Ending.returned (.string a) = .returned (.string b) := by rw [h]

theorem conv_new (w : World) (xs : List Int) (C : Array Value) (n c : Nat) (hC : C = (xs.map (Value.int .u8)).toArray) (hn : xs.length = n) :
    (convert 68 9 (.slice (some ⟨w.heap.size, 0, none⟩) n c)).run Try.prog (w.alloc (.cells C 5)) = .ok (.string (strOfNums xs)) (w.alloc (.cells C 5)) := by
  subst hC
  refine run_convert_bytes_arg (w.alloc _) 68 5 Try.underlying68 Try.underlying5 w.heap.size 0 n c xs hn ?_ 9 Try.underlying9
  intro i hi
  have hi' : i < xs.length := by omega
  rw [World.cell?_alloc_mark]
  simp [List.getD, hi']

set_option maxHeartbeats 400000 in
theorem one_1 (r : Int) (w : World) (h0 : 0 ≤ r) (h1 : r < 128) :
    Calls Try.prog 33 #[.int .i32 r] w fun e w' => e = .returned (.string (strOfNums [r])) ∧ ∃ C, w' = w.alloc (.cells C 5) := by
  have hc := conv_new w [r] #[.int .u8 r] 1 1 rfl rfl
  go_enter Try.func33, Try.ntmps33
  go_wp2
  go_ret
  exact ⟨rfl, _, rfl⟩

set_option maxHeartbeats 400000 in
theorem one_2 (r : Int) (w : World) (h0 : 128 ≤ r) (h1 : r < 2048) :
    Calls Try.prog 33 #[.int .i32 r] w fun e w' => e = .returned (.string (strOfNums [192 + r / 64, 128 + r % 64])) ∧ ∃ C, w' = w.alloc (.cells C 5) := by
  have hc := conv_new w [192 + r / 64, 128 + r % 64] #[.int .u8 (192 + r / 64), .int .u8 (128 + r % 64)] 2 2 rfl rfl
  have h2 : ¬ r < 128 := by omega
  go_enter Try.func33, Try.ntmps33
  go_wp2
  go_ret
  exact ⟨rfl, _, rfl⟩

set_option maxHeartbeats 400000 in
theorem one_3 (r : Int) (w : World) (h0 : 2048 ≤ r) (h1 : r < 65536) :
    Calls Try.prog 33 #[.int .i32 r] w fun e w' => e = .returned (.string (strOfNums [224 + r / 4096, 128 + r / 64 % 64, 128 + r % 64])) ∧ ∃ C, w' = w.alloc (.cells C 5) := by
  have hc := conv_new w [224 + r / 4096, 128 + r / 64 % 64, 128 + r % 64] #[.int .u8 (224 + r / 4096), .int .u8 (128 + r / 64 % 64), .int .u8 (128 + r % 64)] 3 3 rfl rfl
  have h2 : ¬ r < 128 := by omega
  have h3 : ¬ r < 2048 := by omega
  go_enter Try.func33, Try.ntmps33
  go_wp2
  go_ret
  exact ⟨rfl, _, rfl⟩

set_option maxHeartbeats 400000 in
theorem one_4 (r : Int) (w : World) (h0 : 65536 ≤ r) (h1 : r ≤ 1114111) :
    Calls Try.prog 33 #[.int .i32 r] w fun e w' => e = .returned (.string (strOfNums [240 + r / 262144, 128 + r / 4096 % 64, 128 + r / 64 % 64, 128 + r % 64])) ∧ ∃ C, w' = w.alloc (.cells C 5) := by
  have hc := conv_new w [240 + r / 262144, 128 + r / 4096 % 64, 128 + r / 64 % 64, 128 + r % 64] #[.int .u8 (240 + r / 262144), .int .u8 (128 + r / 4096 % 64), .int .u8 (128 + r / 64 % 64), .int .u8 (128 + r % 64)] 4 4 rfl rfl
  have h2 : ¬ r < 128 := by omega
  have h3 : ¬ r < 2048 := by omega
  have h4 : ¬ r < 65536 := by omega
  go_enter Try.func33, Try.ntmps33
  go_wp2
  go_ret
  exact ⟨rfl, _, rfl⟩

theorem one_any (r : Int) (w : World) (h : isPt r = true) :
    Calls Try.prog 33 #[.int .i32 r] w fun e w' => e = .returned (.string (strOfNums (enc1 r))) ∧ ∃ C, w' = w.alloc (.cells C 5) := by
  obtain ⟨h0, h1⟩ := isPt_lo h
  unfold enc1
  by_cases a : r < 128
  · rw [if_pos a]; exact one_1 r w h0 a
  rw [if_neg a]
  by_cases b : r < 2048
  · rw [if_pos b]; exact one_2 r w (by omega) b
  rw [if_neg b]
  by_cases c : r < 65536
  · rw [if_pos c]; exact one_3 r w (by omega) c
  rw [if_neg c]
  exact one_4 r w (by omega) h1

end Go.Proofs.Ytegpdppfdgcljaa
