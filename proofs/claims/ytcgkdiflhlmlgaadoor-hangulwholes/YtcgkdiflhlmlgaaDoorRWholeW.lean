/- Whole, the document's. -/
import Derived.Test.YtcgkdiflhlmlgaaDoorWholeW
import Derived.Maps.AppendAt
namespace Go.Proofs.YtcgkdiflhlmlgaaDoor
open Go.RowKit

set_option maxHeartbeats 800000 in
theorem rwhole_empty (a : Option Addr) (cap : Nat) (w : World) :
    Calls Tryd.prog 19 #[.slice a 0 cap] w fun e w' => ∃ v, e = .returned v ∧ Rn w.heap.size v [] w' ∧ Below w.heap.size w w' := by
  go_enter Tryd.func19, Tryd.ntmps19
  go_wp2
  refine wp_loop_rounds 1 ?_
  rw [rounds_succ]
  go_wp2
  go_ret
  exact ⟨_, rfl, Rn.nil _ _, Below.refl _ _⟩

theorem own_nil (w : World) (B : Nat) (hB : B ≤ w.heap.size) : (w.alloc (.cells #[] 21)).ownsRow B 21 1 (.slice (some ⟨w.heap.size, 0, none⟩) 0 0) 0 [] :=
  ⟨rfl, .inr ⟨w.heap.size, 0, #[], rfl, hB, heap_new w _, Nat.le_refl _, Nat.zero_le _, rfl, rfl⟩⟩
theorem Rn.news {w : World} {B g N cap : Nat} {t u : List Int} (h : Rn B (.slice (.some ⟨g, 0, none⟩) N cap) (t ++ u) w) : ∀ j v, (t.map (Value.int .i32))[j]? = .some v → w.cell? ((⟨g, 0, none⟩ : Addr).add j) = .some v := fun j v hv => by
  refine World.ownsRow.cells h (g := g) rfl j v ?_
  rw [List.map_append, List.getElem?_append_left (List.getElem?_eq_some_iff.1 hv).1]
  exact hv
theorem ints_one (t : List Int) : ∀ u ∈ t.map (Value.int .i32), u.oneCell' = true := by
  intro u hu
  obtain ⟨x, _, rfl⟩ := List.mem_map.1 hu
  rfl

set_option maxHeartbeats 3200000 in
theorem rwhole_some (b off cap : Nat) (l : List Int) (w : World) (hlen : l.length ≤ 20000) (h0 : 0 < l.length)
    (hcell : ∀ i, i < l.length → w.cell? ⟨b, off + i, none⟩ = some (.int .i32 (l.getD i 0))) :
    Calls Tryd.prog 19 #[.slice (some ⟨b, off, none⟩) l.length cap] w fun e w' => ∃ v, e = .returned v ∧ Rn w.heap.size v (whl l) w' ∧ Below w.heap.size w w' := by
  obtain ⟨i0, hi, hz0, hz1, hz2⟩ := info_parts elem_info
  have HC := hide hcell
  clear hcell
  go_enter Tryd.func19, Tryd.ntmps19
  go_wp2
  go_loopw [3, 4] (fun v i wr => ∃ k : Nat, k ≤ l.length ∧ i = .int .i64 (k : Int) ∧ Rn w.heap.size v (whlR (l.take k)).reverse wr ∧ Below w.heap.size w wr) (fun _ i _ => l.length - (intOf i).toNat)
  case atStart => exact ⟨0, Nat.zero_le _, rfl, Rn.nil _ _, Below.refl _ _⟩
  case round =>
    obtain ⟨k, hk, rfl, hown, hb⟩ := hrel
    have hsz := hb.size
    by_cases hlt : k < l.length
    · have hzl : (k : Int) < (l.length : Int) := by omega
      have hz0' : (0 : Int) ≤ (k : Int) := by omega
      have g1 := unhide HC k hlt
      have k1 : wr.cell? ⟨b, off + k, none⟩ = some (.int .i32 (l.getD k 0)) := (hb.cell (by exact cell_lt g1)).trans g1
      have HS := hide (whlR_take l k hlt)
      have hTl := whlR_takeLen l k
      clear g1
      generalize l.getD k 0 = x at *
      generalize whlR (l.take k) = T at *
      cases T with
      | nil =>
        obtain ⟨xa, xc, hv⟩ := hown.shape
        have HO := hide hown
        clear hown
        subst hv
        have hm1 : 0 + 1 ≤ maxLen := by unfold maxLen; omega
        have hm2 : (0 + 1) * 4 ≤ 140737488355328 := by omega
        go_wp2_with (at_builtin; refine wpList_append_lies _ rfl _ _ 25 rfl w.heap.size 21 i0 _ 1 4 Tryd.underlying25 hi hz0 hz1 hz2 rfl (by omega) _ 0 [] rfl ((unhide HO).alloc _) ⟨wr.heap.size, 0, none⟩ 1 1 [.int .i32 x] rfl rfl (World.news_of_block (cs := #[.int .i32 x]) (t := 21) (fr := (0, 0)) (heap_new wr _)) (by simp [Value.oneCell']) (by omega) hm1 hm2 (by simp; omega) (wr.heap.size + 1) (by simp) ?_; intro g9 cap9 w9 hown9 hgrow9 hat9 hlt9)
        go_roundw
        case rel => exact ⟨k + 1, by omega, by go_num, by rw [unhide HS]; exact hown9, (hb.alloc (by omega) _).trans (below_own hgrow9 (by rw [World.size_alloc]; omega) (own_block (unhide HO)))⟩
        case measure => simp [intOf]; omega
      | cons y t =>
        rw [List.reverse_cons] at hown
        have hlT : t.length + 1 ≤ l.length := by simpa using hTl
        obtain ⟨g, c, hv, hBg, hgs⟩ := hown.held (by simp)
        obtain ⟨N, hN⟩ : ∃ N, N = (t.reverse ++ [y]).length := ⟨_, rfl⟩
        rw [← hN] at hv
        have hN2 : N = t.reverse.length + 1 := by rw [hN]; simp
        obtain ⟨m, hm⟩ : ∃ m, m = t.reverse.length := ⟨_, rfl⟩
        have hml' : m = t.length := by rw [hm]; simp
        subst hv
        have c1 := hown.last
        rw [← hm] at c1
        have hcapN : N ≤ c := by
          rcases hown.2 with ⟨hv9, _⟩ | ⟨g9, c9, cur9, hv9, _, _, hle9, _⟩
          · cases hv9
          · cases hv9; exact hle9
        have HO := hide hown
        clear hown
        have e1 : IntKind.i64.wrap ((N : Int) - 1) = (m : Int) := by rw [IntKind.wrap_i64]; omega
        have e2 : (0 : Int) < (N : Int) := by omega
        have e3 : (m : Int) < (N : Int) := by omega
        have e4 : (0 : Int) ≤ (m : Int) := by omega
        have e5 : (m : Int) ≤ (c : Int) := by omega
        have hml : m ≤ l.length := by omega
        have HN := hide hN
        have HN2 := hide hN2
        have HM := hide hm
        have hNl : N ≤ l.length := by omega
        clear hN hN2 hm hml'
        have HJ := hide (fun W => rjoin_any y x W)
        cases hj : jB y x
        · have HS2 : Hid (whlR (l.take (k + 1)) = x :: y :: t) := by
            show _ = _
            rw [unhide HS]; simp [stp, hj]
          rw [hj] at HJ
          clear hj HS
          have hm1 : N + 1 ≤ maxLen := by unfold maxLen; omega
          have hm2 : (N + 1) * 4 ≤ 140737488355328 := by omega
          go_wp2
          go_quiet ((go_at_call 17; exact Calls.quiet_of_same (unhide HJ _)))
          go_wp2_with (at_builtin; refine wpList_append_lies _ rfl _ _ 25 rfl w.heap.size 21 i0 _ 1 4 Tryd.underlying25 hi hz0 hz1 hz2 rfl (by omega) _ N _ rfl (World.ownsRow.alloc (Rn.own (w := wr.drewN _) (unhide HN) (unhide HO)) _) ⟨wr.heap.size, 0, none⟩ 1 1 [.int .i32 x] rfl rfl (World.news_of_block (cs := #[.int .i32 x]) (t := 21) (fr := (0, 0)) (heap_new (wr.drewN _) _)) (by simp [Value.oneCell']) (by omega) hm1 hm2 (by simp; omega) (wr.heap.size + 1) (by simp) ?_; intro g9 cap9 w9 hown9 hgrow9 hat9 hlt9)
          go_roundw
          case rel => exact ⟨k + 1, by omega, by go_num, by rw [unhide HS2]; simpa using Rn.push (unhide HN) hown9, ((below_drewN hb _).alloc (by exact hsz) _).trans (below_own hgrow9 (by rw [World.size_alloc]; exact Nat.le_succ_of_le hsz) (own_block (unhide HO)))⟩
          case measure => simp [intOf]; omega
        · have HS2 : Hid (whlR (l.take (k + 1)) = jR y x :: t) := by
            show _ = _
            rw [unhide HS]; simp [stp, hj]
          rw [hj] at HJ
          clear hj HS
          generalize jR y x = z at *
          have hm1 : 0 + m ≤ maxLen := by unfold maxLen; omega
          have hm2 : (0 + m) * 4 ≤ 140737488355328 := by omega
          have hm3 : 0 + m + 1 ≤ maxLen := by unfold maxLen; omega
          have hm4 : (0 + m + 1) * 4 ≤ 140737488355328 := by omega
          go_wp2
          go_quiet ((go_at_call 17; exact Calls.quiet_of_same (unhide HJ _)))
          go_wp2_with (first
            | (at_builtin; refine wpList_append_own_at _ rfl _ _ 25 rfl w.heap.size 21 i0 _ 1 4 Tryd.underlying25 hi hz0 hz1 hz2 rfl (by omega) _ 0 [] rfl (own_nil (wr.drewN _) _ hsz) ⟨g, 0, none⟩ m c (t.reverse.map (Value.int .i32)) rfl (by rw [List.length_map, ← unhide HM, Nat.mul_one]) (Rn.news (Rn.below (unhide HO) (((Gr.refl wr).drewN _).alloc _).below)) (ints_one _) hm1 hm2 (by simp; omega) ?_; intro v5 w5 hown5 hgrow5 _ _)
            | (at_builtin; refine wpList_append_lies _ rfl _ _ 25 rfl w.heap.size 21 i0 _ 1 4 Tryd.underlying25 hi hz0 hz1 hz2 rfl (by omega) _ (0 + m) _ rfl (hown5.alloc _) ⟨w5.heap.size, 0, none⟩ 1 1 [.int .i32 z] rfl rfl (World.news_of_block (cs := #[.int .i32 z]) (t := 21) (fr := (0, 0)) (heap_new w5 _)) (by simp [Value.oneCell']) (by omega) hm3 hm4 (by have := hgrow5.size; simp at this ⊢; omega) (w5.heap.size + 1) (by simp) ?_; intro g9 cap9 w9 hown9 hgrow9 hat9 hlt9))
          go_roundw
          case rel =>
            have hs5 := hgrow5.size
            refine ⟨k + 1, by omega, by go_num, ?_, ?_⟩
            · rw [unhide HS2, List.reverse_cons]
              exact Rn.push (unhide HM) (by simpa using hown9)
            · refine ((((below_drewN hb _).alloc (by exact hsz) _).trans (below_own hgrow5 ?_ (own_block (own_nil wr _ hsz)))).alloc ?_ _).trans (below_own hgrow9 ?_ (own_block hown5))
              · rw [World.size_alloc]; exact Nat.le_succ_of_le hsz
              · rw [World.size_alloc] at hs5; exact Nat.le_trans (Nat.le_succ_of_le hsz) hs5
              · rw [World.size_alloc] at hs5 ⊢; exact Nat.le_succ_of_le (Nat.le_trans (Nat.le_succ_of_le hsz) hs5)
          case measure => simp [intOf]; omega
    · have hzl : ¬ (k : Int) < (l.length : Int) := by omega
      obtain rfl : k = l.length := by omega
      rw [List.take_length] at hown
      obtain ⟨xa, xc, hv⟩ := hown.shape
      obtain ⟨N, hN⟩ : ∃ N, N = (whlR l).reverse.length := ⟨_, rfl⟩
      rw [← hN] at hv
      clear hN
      have HO := hide hown
      clear hown
      subst hv
      go_wp2
      go_ret
      exact ⟨.slice xa N xc, rfl, unhide HO, hb⟩

/-- The document's Whole, of any row. -/
theorem rwhole_any (v : Value) (l : List Int) (w : World) (hlen : l.length ≤ 20000) (h : Row w v l) :
    Calls Tryd.prog 19 #[v] w fun e w' => ∃ v, e = .returned v ∧ Rn w.heap.size v (whl l) w' ∧ Below w.heap.size w w' := by
  obtain ⟨a, c, rfl, h1⟩ := h
  by_cases h0 : l.length = 0
  · obtain rfl : l = [] := List.eq_nil_of_length_eq_zero h0
    exact rwhole_empty a c w
  · obtain ⟨b1, o1, rfl, k1⟩ := h1 (by omega)
    exact rwhole_some b1 o1 c l w hlen (by omega) k1
end Go.Proofs.YtcgkdiflhlmlgaaDoor
