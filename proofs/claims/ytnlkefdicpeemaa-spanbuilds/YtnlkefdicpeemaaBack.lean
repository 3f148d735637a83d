/- slices.Backward of spans: the last first. -/
import Derived.Test.YtnlkefdicpeemaaRound
import Derived.Test.YtnlkefdicpeemaaPlain
namespace Go.Proofs.Ytnlkefdicpeemaa
open Go.RowKit
attribute [local go_sem] Oper.semAt_some

/-- The places from n - 1 downwards, k of them. -/
def down (n k : Nat) : List Nat := (List.range k).map (fun j => n - 1 - j)
theorem down_succ (n k : Nat) : down n (k + 1) = down n k ++ [n - 1 - k] := by simp [down, List.range_succ]
theorem down_length (n k : Nat) : (down n k).length = k := by simp [down]
theorem down_mem (n k x : Nat) : x ∈ down n k ↔ ∃ j, j < k ∧ x = n - 1 - j := by
  simp only [down, List.mem_map, List.mem_range]
  constructor
  · rintro ⟨j, h1, h2⟩; exact ⟨j, h1, h2.symm⟩
  · rintro ⟨j, h1, h2⟩; exact ⟨j, h1, h2.symm⟩

/-- What a round is handed: the place, and the span there. -/
def bk (L : List Sp) (x : Nat) : Array Value := #[.int .i64 (x : Int), .agg #[.int .i32 (L.getD x sp0).f, .int .i32 (L.getD x sp0).t, .int .i64 (L.getD x sp0).h]]
/-- What a round must leave: two blocks. -/
def Kp2 (p q : Nat) (W W' : World) : Prop := W'.heap[p]? = W.heap[p]? ∧ W'.heap[q]? = W.heap[q]?

theorem cell_block {W W' : World} {a : Addr} (h : W'.heap[a.block]? = W.heap[a.block]?) : W'.cell? a = W.cell? a := World.cell?_of_block h

set_option maxRecDepth 100000 in
set_option maxHeartbeats 2000000 in
theorem back1_some (n l Bs b off cap : Nat) (L : List Sp) (hL : L.length ≤ 1000) (J Jx : List Nat → World → Prop)
    (hY : ∀ pre x W, J pre W → pre.length < L.length → YieldAt Fence.wide (n - 1) Try.prog l (bk L x) W fun e W' =>
      (e = .returned (.bool true) ∧ J (pre ++ [x]) W' ∧ Kp2 Bs b W W') ∨ (e = .returned (.bool false) ∧ Jx (pre ++ [x]) W'))
    (W : World) (hBs : W.cell? ⟨Bs, 0, none⟩ = some (.slice (some ⟨b, off, none⟩) L.length cap)) (hc : ∀ j, j < L.length →
    W.cell? ⟨b, off + j * 3, none⟩ = some (.int .i32 (L.getD j sp0).f) ∧ W.cell? ⟨b, off + j * 3 + 1, none⟩ = some (.int .i32 (L.getD j sp0).t) ∧ W.cell? ⟨b, off + j * 3 + 2, none⟩ = some (.int .i64 (L.getD j sp0).h)) (h0 : J [] W) :
    CallsIn Fence.wide n Try.prog 34 #[.func (.yield l) #[] #[], .pointer (some ⟨Bs, 0, none⟩)] W fun e W' => (∃ v, e = .returned v) ∧
      ((∃ ys, ys = down L.length L.length ∧ J ys W') ∨ (∃ pre, (∃ k, k ≤ L.length ∧ pre = down L.length k) ∧ Jx pre W')) := by
  have HC := hide hc
  have HY := hide hY
  clear hc hY
  refine callsIn_of_wp Try.func34 rfl trivial ?_ rfl
  simp only [Try.ntmps34, List.size_toArray, List.length_cons, List.length_nil, Nat.reduceAdd, Nat.reduceSub, Array.replicate_succ, Array.replicate_zero, List.push_toArray, List.append_toArray, List.nil_append, List.cons_append]
  gi_wp2
  gi_loopw [3] (fun i wr => ∃ k : Nat, k ≤ L.length ∧ i = .int .i64 ((L.length : Int) - 1 - k) ∧ J (down L.length k) wr ∧ Kp2 Bs b W wr)
    (fun i _ => (intOf i + 1).toNat)
  case atStart => exact ⟨0, Nat.zero_le _, by simp, h0, ⟨rfl, rfl⟩⟩
  case round =>
    obtain ⟨k, hk, rfl, hJs, hnx⟩ := hrel
    have hbx : wr.cell? ⟨Bs, 0, none⟩ = some (.slice (some ⟨b, off, none⟩) L.length cap) := (cell_block (a := ⟨Bs, 0, none⟩) hnx.1).trans hBs
    by_cases hlt : k < L.length
    · obtain ⟨x, hx⟩ : ∃ x, x = L.length - 1 - k := ⟨_, rfl⟩
      have hxi : (L.length : Int) - 1 - (k : Int) = (x : Int) := by omega
      have hxl : x < L.length := by omega
      obtain ⟨g1, g2, g3⟩ := unhide HC x hxl
      replace g1 := (cell_block (a := ⟨b, off + x * 3, none⟩) hnx.2).trans g1
      replace g2 := (cell_block (a := ⟨b, off + x * 3 + 1, none⟩) hnx.2).trans g2
      replace g3 := (cell_block (a := ⟨b, off + x * 3 + 2, none⟩) hnx.2).trans g3
      obtain ⟨fn, tmps, assign, body, hy, hR⟩ := unhide HY _ x wr hJs (by rw [down_length]; exact hlt)
      have hdn : down L.length k ++ [x] = down L.length (k + 1) := by rw [down_succ, hx]
      rw [hdn] at hR
      unfold bk at hy
      have HR := hide hR
      have HX := hide hx
      have HXI := hide hxi
      generalize L.getD x sp0 = s at *
      obtain ⟨f, t, h⟩ := s
      dsimp only at hy g1 g2 g3
      have hz0 : (0 : Int) ≤ (x : Int) := by omega
      have hzl : (x : Int) < (L.length : Int) := by omega
      rw [hxi]
      clear hR hx hxi hdn HC HY
      gi_wp2
      refine ⟨fun hd => (by cases hd), (unhide HR).mono ?_⟩
      rintro e W3 (⟨rfl, hJ3, hk3⟩ | ⟨rfl, hJx3⟩)
      · gi_wp2
        go_roundw
        case rel => exact ⟨k + 1, by omega, by have := unhide HXI; congr 1; push_cast; omega, hJ3, ⟨hk3.1.trans hnx.1, hk3.2.trans hnx.2⟩⟩
        case measure => have := unhide HXI; simp [intOf]
      · gi_wp2
        refine bodyPost_ret (results_none rfl _ _ _) rfl ?_
        exact ⟨⟨_, rfl⟩, .inr ⟨_, ⟨k + 1, by omega, rfl⟩, hJx3⟩⟩
    · obtain rfl : k = L.length := by omega
      have hneg : ¬ (0 : Int) ≤ (L.length : Int) - 1 - (L.length : Int) := by omega
      have hm1 : (L.length : Int) - 1 - (L.length : Int) = -1 := by omega
      rw [hm1]
      gi_wp2
      go_end0
      exact ⟨⟨_, rfl⟩, .inl hJs⟩

set_option maxRecDepth 100000 in
set_option maxHeartbeats 1000000 in
theorem back1_none (n l Bs : Nat) (a : Option Addr) (c : Nat) (J : List Nat → World → Prop) (W : World) (hBs : W.cell? ⟨Bs, 0, none⟩ = some (.slice a 0 c)) (h0 : J [] W) :
    CallsIn Fence.wide n Try.prog 34 #[.func (.yield l) #[] #[], .pointer (some ⟨Bs, 0, none⟩)] W fun e W' => (∃ v, e = .returned v) ∧ J [] W' := by
  refine callsIn_of_wp Try.func34 rfl trivial ?_ rfl
  simp only [Try.ntmps34, List.size_toArray, List.length_cons, List.length_nil, Nat.reduceAdd, Nat.reduceSub, Array.replicate_succ, Array.replicate_zero, List.push_toArray, List.append_toArray, List.nil_append, List.cons_append]
  gi_wp2
  gi_loopw [3] (fun i wr => i = .int .i64 (-1) ∧ J [] wr) (fun _ _ => 0)
  case atStart => exact ⟨rfl, h0⟩
  case round =>
    obtain ⟨rfl, hJs⟩ := hrel
    gi_wp2
    go_end0
    exact ⟨⟨_, rfl⟩, hJs⟩

set_option maxHeartbeats 1000000 in
/-- slices.Backward: the slice is boxed; the function value captures the box. -/
theorem back_any (a : Option Addr) (len cap : Nat) (w : World) :
    Calls Try.prog 25 #[.slice a len cap] w fun e w' => e = .returned (.func (.func 34) #[] #[.pointer (some ⟨w.heap.size, 0, none⟩)]) ∧ w' = w.alloc (.cells #[.slice a len cap] 22) := by
  go_enter Try.func25, Try.ntmps25
  go_wp2
  go_ret
  exact ⟨rfl, rfl⟩

/-- What slices.Backward hands back goes through the places downwards. -/
theorem back_stops (n : Nat) (Bs b : Nat) (sv : Value) (L : List Sp) (hL : L.length ≤ 1000) (w : World) (hBs : Bs < w.heap.size) (hbw : b < w.heap.size) (hc : w.cell? ⟨Bs, 0, none⟩ = some sv)
    (hI : ∃ a cap, sv = .slice a L.length cap ∧ (0 < L.length → ∃ off, a = some ⟨b, off, none⟩ ∧ ∀ j, j < L.length →
    w.cell? ⟨b, off + j * 3, none⟩ = some (.int .i32 (L.getD j sp0).f) ∧ w.cell? ⟨b, off + j * 3 + 1, none⟩ = some (.int .i32 (L.getD j sp0).t) ∧ w.cell? ⟨b, off + j * 3 + 2, none⟩ = some (.int .i64 (L.getD j sp0).h))) :
    SeqStopsK Fence.wide n Try.prog 34 #[.pointer (some ⟨Bs, 0, none⟩)] (bk L) (Kp2 Bs b) (fun ys => ys = down L.length L.length)
      (fun pre => ∃ k, k ≤ L.length ∧ pre = down L.length k) L.length w := fun l J Jx W hW _ _ hY h0 => by
  have hc' := (hW.cell (p := ⟨Bs, 0, none⟩) hBs).trans hc
  obtain ⟨a, cap, rfl, hcs⟩ := hI
  by_cases h : L.length = 0
  · rw [h] at hc'
    exact (back1_none n l Bs a cap J W hc' h0).mono fun e W' ⟨he, hj⟩ => ⟨he, .inl ⟨_, by rw [h]; rfl, hj⟩⟩
  · obtain ⟨off, rfl, hcc⟩ := hcs (by omega)
    exact back1_some n l Bs b off cap L hL J Jx hY W hc' (fun j hj => by
      obtain ⟨h1, h2, h3⟩ := hcc j hj
      exact ⟨(hW.cell (p := ⟨b, off + j * 3, none⟩) hbw).trans h1, (hW.cell (p := ⟨b, off + j * 3 + 1, none⟩) hbw).trans h2, (hW.cell (p := ⟨b, off + j * 3 + 2, none⟩) hbw).trans h3⟩) h0
end Go.Proofs.Ytnlkefdicpeemaa
