/- The law's own apart: all parts of all. -/
import Derived.Test.YtcgkdiflhlmlgaaDoorRWholeW
namespace Go.Proofs.YtcgkdiflhlmlgaaDoor
open Go.RowKit

theorem apts_snoc (l : List Int) (r : Int) : apts (l ++ [r]) = apts l ++ apt r := by simp [apts]
theorem apts_take (l : List Int) (k : Nat) (h : k < l.length) : apts (l.take (k + 1)) = apts (l.take k) ++ apt (l.getD k 0) := by rw [take_snoc l k h, apts_snoc]
theorem apts_takeLen (l : List Int) (k : Nat) : (apts (l.take k)).length ≤ 3 * l.length := Nat.le_trans (apts_len _) (by rw [List.length_take]; omega)
theorem apt_pos (r : Int) : 0 < (apt r).length := by
  cases h : isSyl r
  · rw [apt_none h]; simp
  · by_cases h0 : (r - 44032) % 28 = 0
    · rw [apt_open h h0]; simp
    · rw [apt_closed h h0]; simp
theorem Rn.all {w : World} {B g N cap : Nat} {t : List Int} (h : Rn B (.slice (.some ⟨g, 0, none⟩) N cap) t w) : ∀ j v, (t.map (Value.int .i32))[j]? = .some v → w.cell? ((⟨g, 0, none⟩ : Addr).add j) = .some v := fun j v hv => World.ownsRow.cells h (g := g) rfl j v hv

set_option maxHeartbeats 800000 in
theorem aparts_empty (a : Option Addr) (cap : Nat) (w : World) :
    Calls Tryd.prog 20 #[.slice a 0 cap] w fun e w' => ∃ v, e = .returned v ∧ Rn w.heap.size v [] w' ∧ Below w.heap.size w w' := by
  go_enter Tryd.func20, Tryd.ntmps20
  go_wp2
  refine wp_loop_rounds 1 ?_
  rw [rounds_succ]
  go_wp2
  go_ret
  exact ⟨_, rfl, Rn.nil _ _, Below.refl _ _⟩

set_option maxHeartbeats 3200000 in
theorem aparts_some (b off cap : Nat) (l : List Int) (w : World) (hlen : l.length ≤ 20000) (h0 : 0 < l.length) (hL : Lay w)
    (hcell : ∀ i, i < l.length → w.cell? ⟨b, off + i, none⟩ = some (.int .i32 (l.getD i 0))) :
    Calls Tryd.prog 20 #[.slice (some ⟨b, off, none⟩) l.length cap] w fun e w' => ∃ v, e = .returned v ∧ Rn w.heap.size v (apts l) w' ∧ Below w.heap.size w w' := by
  obtain ⟨i0, hi, hz0, hz1, hz2⟩ := info_parts elem_info
  have HC := hide hcell
  have hpos := hL.pos
  clear hcell
  go_enter Tryd.func20, Tryd.ntmps20
  go_wp2
  go_loopw [3, 4] (fun v i wr => ∃ k : Nat, k ≤ l.length ∧ i = .int .i64 (k : Int) ∧ Rn w.heap.size v (apts (l.take k)) wr ∧ Below w.heap.size w wr) (fun _ i _ => l.length - (intOf i).toNat)
  case atStart => exact ⟨0, Nat.zero_le _, rfl, Rn.nil _ _, Below.refl _ _⟩
  case round =>
    obtain ⟨k, hk, rfl, hown, hb⟩ := hrel
    have hsz := hb.size
    have hLr := hL.below hb hpos
    by_cases hlt : k < l.length
    · have hzl : (k : Int) < (l.length : Int) := by omega
      have hz0' : (0 : Int) ≤ (k : Int) := by omega
      have g1 := unhide HC k hlt
      have k1 : wr.cell? ⟨b, off + k, none⟩ = some (.int .i32 (l.getD k 0)) := (hb.cell (by exact cell_lt g1)).trans g1
      have HS := hide (apts_take l k hlt)
      have hTl := apts_takeLen l k
      clear g1
      generalize l.getD k 0 = x at *
      generalize apts (l.take k) = T at *
      obtain ⟨N, hN⟩ : ∃ N, N = T.length := ⟨_, rfl⟩
      have HN := hide hN
      have hNl : N ≤ 3 * l.length := by omega
      clear hN hTl
      have HO := hide hown
      clear hown
      have HA := hide (fun W hW => apart_any x W hW)
      have hp3 := apt_len x
      have hp0 := apt_pos x
      generalize apt x = p at *
      obtain ⟨q, hq⟩ : ∃ q, q = p.length := ⟨_, rfl⟩
      rw [← hq] at hp3 hp0
      have HQ := hide hq
      clear hq
      have hm1 : N + q ≤ maxLen := by unfold maxLen; omega
      have hm2 : (N + q) * 4 ≤ 140737488355328 := by omega
      go_wp2_with (first
        | (go_at_call 13; refine (unhide HA _ hLr).mono ?_; rintro e w2 ⟨v2, rfl, hr2, hb2⟩; obtain ⟨g2, c2, hv2, hBg2, hgs2⟩ := hr2.held (by rw [← unhide HQ]; exact hp0); rw [← unhide HQ] at hv2; subst hv2; have HR2 := hide hr2; clear hr2; have HO2 := hide ((unhide HO).below hb2); have hb3 := hb.trans (hb2.mono hsz); have hs2 := hb2.size)
        | (at_builtin; refine wpList_append_lies _ rfl _ _ 25 rfl w.heap.size 21 i0 _ 1 4 Tryd.underlying25 hi hz0 hz1 hz2 rfl (by omega) _ N _ rfl (Rn.own (unhide HN) (unhide HO2)) ⟨g2, 0, none⟩ q c2 (p.map (Value.int .i32)) rfl (by rw [List.length_map, ← unhide HQ, Nat.mul_one]) (Rn.all (unhide HR2)) (ints_one _) hp0 hm1 hm2 (by omega) w2.heap.size rfl ?_; intro g9 cap9 w9 hown9 hgrow9 hat9 hlt9))
      go_roundw
      case rel =>
        refine ⟨k + 1, by omega, by go_num, ?_, hb3.trans (below_own hgrow9 (by omega) (own_block (unhide HO2)))⟩
        rw [unhide HS]
        unfold Rn
        rw [List.length_append, ← unhide HN, ← unhide HQ, List.map_append]
        exact hown9
      case measure => simp [intOf]; omega
    · have hzl : ¬ (k : Int) < (l.length : Int) := by omega
      obtain rfl : k = l.length := by omega
      rw [List.take_length] at hown
      obtain ⟨xa, xc, hv⟩ := hown.shape
      obtain ⟨N, hN⟩ : ∃ N, N = (apts l).length := ⟨_, rfl⟩
      rw [← hN] at hv
      clear hN
      have HO := hide hown
      clear hown
      subst hv
      go_wp2
      go_ret
      exact ⟨.slice xa N xc, rfl, unhide HO, hb⟩

/-- All parts of all, of any row. -/
theorem aparts_any (v : Value) (l : List Int) (w : World) (hlen : l.length ≤ 20000) (hL : Lay w) (h : Row w v l) :
    Calls Tryd.prog 20 #[v] w fun e w' => ∃ v, e = .returned v ∧ Rn w.heap.size v (apts l) w' ∧ Below w.heap.size w w' := by
  obtain ⟨a, c, rfl, h1⟩ := h
  by_cases h0 : l.length = 0
  · obtain rfl : l = [] := List.eq_nil_of_length_eq_zero h0
    exact aparts_empty a c w
  · obtain ⟨b1, o1, rfl, k1⟩ := h1 (by omega)
    exact aparts_some b1 o1 c l w hlen (by omega) hL k1
end Go.Proofs.YtcgkdiflhlmlgaaDoor
