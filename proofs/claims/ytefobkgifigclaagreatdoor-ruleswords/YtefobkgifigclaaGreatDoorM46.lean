/- slices.Backward of a name's parts: the last first. -/
import Derived.Test.YtefobkgifigclaaGreatDoorM01
import Derived.RangeFuncNested
import Derived.RangeFuncBound
import Derived.RangeFuncCalls
import Derived.RangeFuncLeaves
import Derived.RangeFuncBox
import Derived.Shelf.Abstract
import Derived.OwnWalkIn
import Derived.TacticsInMore
import Derived.LoopNIn
import Derived.LoopIn
import Derived.OrdersIn
namespace Go.Proofs.YtefobkgifigclaaGreatDoor
set_option maxRecDepth 100000
open Go.RowKit
attribute [local go_sem] Oper.semAt_some

/-- The places from N - 1 downwards, k of them. -/
def dn22 (N : Nat) : Nat → List (Fin N)
  | 0 => []
  | k + 1 => dn22 N k ++ (if h : N - 1 - k < N then [⟨N - 1 - k, h⟩] else [])
theorem dn22_succ {N k : Nat} (h : k < N) : dn22 N (k + 1) = dn22 N k ++ [⟨N - 1 - k, by omega⟩] := by
  rw [dn22, dif_pos (by omega)]
theorem dn22_length {N : Nat} : ∀ k, k ≤ N → (dn22 N k).length = k
  | 0, _ => rfl
  | k + 1, h => by rw [dn22_succ (by omega), List.length_append, dn22_length k (by omega)]; rfl
/-- What a round is handed: the place, and the part there. -/
def bk22 {N : Nat} (vs : Fin N → Value) (x : Fin N) : Array Value := #[.int .i64 ((x : Nat) : Int), vs x]
/-- What a round must leave: two blocks. -/
def Kp22 (p q : Nat) (W W' : World) : Prop := W'.heap[p]? = W.heap[p]? ∧ W'.heap[q]? = W.heap[q]?
theorem cell_blk {W W' : World} {a : Addr} (h : W'.heap[a.block]? = W.heap[a.block]?) : W'.cell? a = W.cell? a := World.cell?_of_block h
set_option maxRecDepth 100000 in
set_option maxHeartbeats 2000000 in
theorem back22_some (n l Bs b off cap N : Nat) (h1 : N ≤ 1000) (vs : Fin N → Value) (J Jx : List (Fin N) → World → Prop)
    (hY : ∀ pre x W, J pre W → pre.length < N → YieldAt Fence.wide (n - 1) Tryz.prog l (bk22 vs x) W fun e W' =>
      (e = .returned (.bool true) ∧ J (pre ++ [x]) W' ∧ Kp22 Bs b W W') ∨ (e = .returned (.bool false) ∧ Jx (pre ++ [x]) W'))
    (W : World) (hBs : W.cell? ⟨Bs, 0, none⟩ = some (.slice (some ⟨b, off, none⟩) N cap)) (hc : ∀ j : Fin N, W.cell? ⟨b, off + j, none⟩ = some (vs j)) (h0 : J [] W) :
    CallsIn Fence.wide n Tryz.prog 65 #[.func (.yield l) #[] #[], .pointer (some ⟨Bs, 0, none⟩)] W fun e W' => (∃ v, e = .returned v) ∧
      ((∃ ys, ys = dn22 N N ∧ J ys W') ∨ (∃ pre, (∃ k, k ≤ N ∧ pre = dn22 N k) ∧ Jx pre W')) := by
  have HC := hide hc
  have HY := hide hY
  clear hc hY
  refine callsIn_of_wp Tryz.func65 rfl trivial ?_ rfl
  simp only [Tryz.ntmps65, List.size_toArray, List.length_cons, List.length_nil, Nat.reduceAdd, Nat.reduceSub, Array.replicate_succ, Array.replicate_zero, List.push_toArray, List.append_toArray, List.nil_append, List.cons_append]
  gi_wp2
  gi_loopw [3] (fun i wr => ∃ k : Nat, k ≤ N ∧ i = .int .i64 ((N : Int) - 1 - k) ∧ J (dn22 N k) wr ∧ Kp22 Bs b W wr)
    (fun i _ => (intOf i + 1).toNat)
  case atStart => exact ⟨0, Nat.zero_le _, by simp, h0, ⟨rfl, rfl⟩⟩
  case round =>
    obtain ⟨k, hk, rfl, hJs, hnx⟩ := hrel
    have hbx : wr.cell? ⟨Bs, 0, none⟩ = some (.slice (some ⟨b, off, none⟩) N cap) := (cell_blk (a := ⟨Bs, 0, none⟩) hnx.1).trans hBs
    by_cases hlt : k < N
    · obtain ⟨x, hx⟩ : ∃ x, x = N - 1 - k := ⟨_, rfl⟩
      have hxi : (N : Int) - 1 - (k : Int) = (x : Int) := by omega
      have hxl : x < N := by omega
      have g1 := unhide HC ⟨x, hxl⟩
      replace g1 := (cell_blk (a := ⟨b, off + x, none⟩) hnx.2).trans g1
      obtain ⟨fn, tmps, assign, body, hy, hR⟩ := unhide HY _ ⟨x, hxl⟩ wr hJs (by rw [dn22_length k hk]; exact hlt)
      have hdn : dn22 N k ++ [(⟨x, hxl⟩ : Fin N)] = dn22 N (k + 1) := by subst hx; rw [dn22_succ hlt]
      rw [hdn] at hR
      unfold bk22 at hy
      have HR := hide hR
      have HX := hide hx
      have HXI := hide hxi
      generalize vs ⟨x, hxl⟩ = u at *
      dsimp only at hy g1
      have zx0 : (0 : Int) ≤ (x : Int) := by omega
      have zxl : (x : Int) < (N : Int) := by omega
      rw [hxi]
      clear hR hx hxi hdn HC HY
      gi_wp2
      refine ⟨fun hd => (by cases hd), (unhide HR).mono ?_⟩
      rintro e W3 (⟨rfl, hJ3, hk3⟩ | ⟨rfl, hJx3⟩)
      · gi_wp2
        go_roundw
        case rel => exact ⟨k + 1, by omega, by have := unhide HXI; congr 1; push_cast; omega, hJ3, ⟨hk3.1.trans hnx.1, hk3.2.trans hnx.2⟩⟩
        case measure => have := unhide HXI; simp [intOf]
      · gi_wp2
        refine bodyPost_ret (results_none rfl _ _ _) rfl ?_
        exact ⟨⟨_, rfl⟩, .inr ⟨_, ⟨k + 1, by omega, rfl⟩, hJx3⟩⟩
    · obtain rfl : k = N := by omega
      have hneg : ¬ (0 : Int) ≤ (k : Int) - 1 - (k : Int) := by omega
      have hm1 : (k : Int) - 1 - (k : Int) = -1 := by omega
      rw [hm1]
      gi_wp2
      go_end0
      exact ⟨⟨_, rfl⟩, .inl hJs⟩
set_option maxRecDepth 100000 in
set_option maxHeartbeats 1000000 in
theorem back22_none (n l Bs : Nat) (a : Option Addr) (c : Nat) (J : List (Fin 0) → World → Prop) (W : World) (hBs : W.cell? ⟨Bs, 0, none⟩ = some (.slice a 0 c)) (h0 : J [] W) :
    CallsIn Fence.wide n Tryz.prog 65 #[.func (.yield l) #[] #[], .pointer (some ⟨Bs, 0, none⟩)] W fun e W' => (∃ v, e = .returned v) ∧ J [] W' := by
  refine callsIn_of_wp Tryz.func65 rfl trivial ?_ rfl
  simp only [Tryz.ntmps65, List.size_toArray, List.length_cons, List.length_nil, Nat.reduceAdd, Nat.reduceSub, Array.replicate_succ, Array.replicate_zero, List.push_toArray, List.append_toArray, List.nil_append, List.cons_append]
  gi_wp2
  gi_loopw [3] (fun i wr => i = .int .i64 (-1) ∧ J [] wr) (fun _ _ => 0)
  case atStart => exact ⟨rfl, h0⟩
  case round =>
    obtain ⟨rfl, hJs⟩ := hrel
    gi_wp2
    go_end0
    exact ⟨⟨_, rfl⟩, hJs⟩
set_option maxHeartbeats 1000000 in
/-- slices.Backward: the slice is boxed; the function value captures the box. -/
theorem back22_any (a : Option Addr) (len cap : Nat) (w : World) :
    Calls Tryz.prog 41 #[.slice a len cap] w fun e w' => e = .returned (.func (.func 65) #[] #[.pointer (some ⟨w.heap.size, 0, none⟩)]) ∧ w' = w.alloc (.cells #[.slice a len cap] 57) := by
  go_enter Tryz.func41, Tryz.ntmps41
  go_wp2
  go_ret
  exact ⟨rfl, rfl⟩
/-- What slices.Backward hands back goes through the places downwards. -/
theorem back22_stops (n Bs b N : Nat) (sv : Value) (hN : N ≤ 1000) (vs : Fin N → Value) (w : World) (hBs : Bs < w.heap.size) (hbw : b < w.heap.size) (hc : w.cell? ⟨Bs, 0, none⟩ = some sv)
    (hI : ∃ a cap, sv = .slice a N cap ∧ (0 < N → ∃ off, a = some ⟨b, off, none⟩ ∧ ∀ j : Fin N, w.cell? ⟨b, off + j, none⟩ = some (vs j))) :
    SeqStopsK Fence.wide n Tryz.prog 65 #[.pointer (some ⟨Bs, 0, none⟩)] (bk22 vs) (Kp22 Bs b) (fun ys => ys = dn22 N N)
      (fun pre => ∃ k, k ≤ N ∧ pre = dn22 N k) N w := fun l J Jx W hW _ _ hY h0 => by
  have hc' := (hW.cell (p := ⟨Bs, 0, none⟩) hBs).trans hc
  obtain ⟨a, cap, rfl, hcs⟩ := hI
  by_cases h : N = 0
  · subst h
    exact (back22_none n l Bs a cap J W hc' h0).mono fun e W' ⟨he, hj⟩ => ⟨he, .inl ⟨_, rfl, hj⟩⟩
  · obtain ⟨off, rfl, hcc⟩ := hcs (by omega)
    exact back22_some n l Bs b off cap N hN vs J Jx hY W hc' (fun j => (hW.cell (p := ⟨b, off + j, none⟩) hbw).trans (hcc j)) h0
end Go.Proofs.YtefobkgifigclaaGreatDoor
