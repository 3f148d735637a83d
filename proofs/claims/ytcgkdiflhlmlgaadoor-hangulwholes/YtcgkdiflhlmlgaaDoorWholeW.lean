/- Whole, the program's. -/
import Derived.Test.YtcgkdiflhlmlgaaDoorSame1
namespace Go.Proofs.YtcgkdiflhlmlgaaDoor
open Go.RowKit

theorem take_snoc (l : List Int) (k : Nat) (h : k < l.length) : l.take (k + 1) = l.take k ++ [l.getD k 0] := by
  rw [List.take_succ_eq_append_getElem h]; simp [List.getD, h]
theorem whlR_take (l : List Int) (k : Nat) (h : k < l.length) : whlR (l.take (k + 1)) = stp (whlR (l.take k)) (l.getD k 0) := by rw [take_snoc l k h, whlR_snoc]
theorem whlR_takeLen (l : List Int) (k : Nat) : (whlR (l.take k)).length ≤ l.length := Nat.le_trans (whlR_len _) (by rw [List.length_take]; omega)
theorem Rn.push {w1 : World} {B g1 cap1 N : Nat} {es : List Int} {z : Int} (hN : N = es.length) (h : w1.ownsRow B 21 1 (.slice (.some ⟨g1, 0, none⟩) (N + 1) cap1) (N + 1) (es.map (Value.int .i32) ++ [.int .i32 z])) : Rn B (.slice (.some ⟨g1, 0, none⟩) (N + 1) cap1) (es ++ [z]) w1 := by
  unfold Rn
  subst hN
  simpa using h
theorem Rn.last {w : World} {B g N cap : Nat} {t : List Int} {y : Int} (h : Rn B (.slice (.some ⟨g, 0, none⟩) N cap) (t ++ [y]) w) : w.cell? ⟨g, t.length, none⟩ = some (.int .i32 y) := by
  have := World.ownsRow.cells h (g := g) rfl t.length (.int .i32 y) (by simp)
  rwa [add_zero3] at this
theorem Rn.free {w : World} {B g N cap : Nat} {l : List Int} (h : Rn B (.slice (.some ⟨g, 0, none⟩) N cap) l w) (hN : N = l.length) (m : Nat) : w.frozen? ⟨g, m, none⟩ = false := by
  subst hN
  exact World.ownsRow.frozenAt h m
theorem Rn.own {w : World} {B N : Nat} {v : Value} {l : List Int} (hN : N = l.length) (h : Rn B v l w) : w.ownsRow B 21 1 v N (l.map (Value.int .i32)) := by
  subst hN
  exact h
theorem Rn.put {w : World} {B g N cap m : Nat} {t : List Int} {y z : Int} (hN : N = t.length + 1) (hm : m = t.length) (h : Rn B (.slice (.some ⟨g, 0, none⟩) N cap) (t ++ [y]) w) :
    Rn B (.slice (.some ⟨g, 0, none⟩) N cap) (t ++ [z]) (w.setCell ⟨g, m, none⟩ (.int .i32 z)) ∧ w.grownBy (w.setCell ⟨g, m, none⟩ (.int .i32 z)) (.some g) := by
  subst hN hm
  have h2 : w.ownsRow B 21 1 (.slice (.some ⟨g, 0, none⟩) (t.length + 1) cap) (t.length + 1) ((t ++ [y]).map (Value.int .i32)) := by simpa [Rn] using h
  obtain ⟨h3, h4⟩ := h2.stored t.length (.int .i32 z)
  refine ⟨?_, h4⟩
  have e : ((t ++ [y]).map (Value.int .i32)).set t.length (.int .i32 z) = (t ++ [z]).map (Value.int .i32) := by
    rw [List.map_append, List.set_append_right _ _ (by simp)]
    simp
  rw [e] at h3
  unfold Rn
  simpa using h3

set_option maxHeartbeats 1600000 in
theorem whole_empty (a : Option Addr) (cap : Nat) (w : World) :
    Calls Tryd.prog 18 #[.slice a 0 cap] w fun e w' => ∃ v, e = .returned v ∧ Rn w.heap.size v [] w' ∧ Below w.heap.size w w' := by
  obtain ⟨i0, hi, hz0, hz1, hz2⟩ := info_parts elem_info
  go_enter Tryd.func18, Tryd.ntmps18
  go_wp2_with (refine wpList_make_own _ rfl _ _ 25 rfl w.heap.size 21 i0 (.int .i32 0) 1 Tryd.underlying25 hi hz0 hz1 .i64 .i64 _ 0 rfl rfl rfl (by rw [hz2]; omega) (Nat.zero_le _) (Nat.le_refl _) ?_; intro w1 hown1 hgrow1)
  refine wp_loop_rounds 1 ?_
  rw [rounds_succ]
  have HB : Below w.heap.size w w1 := (Below.refl _ _).grown hgrow1 (Nat.le_refl _) (by intro k h; cases h)
  have HO := hide hown1
  clear hown1 hgrow1
  go_wp2
  go_ret
  exact ⟨_, rfl, unhide HO, HB⟩

set_option maxHeartbeats 3200000 in
theorem whole_some (b off cap : Nat) (l : List Int) (w : World) (hlen : l.length ≤ 20000) (h0 : 0 < l.length) (hL : Lay w)
    (hcell : ∀ i, i < l.length → w.cell? ⟨b, off + i, none⟩ = some (.int .i32 (l.getD i 0))) :
    Calls Tryd.prog 18 #[.slice (some ⟨b, off, none⟩) l.length cap] w fun e w' => ∃ v, e = .returned v ∧ Rn w.heap.size v (whl l) w' ∧ Below w.heap.size w w' := by
  obtain ⟨i0, hi, hz0, hz1, hz2⟩ := info_parts elem_info
  have HC := hide hcell
  have hml : l.length ≤ maxLen := by unfold maxLen; omega
  have hpos := hL.pos
  clear hcell
  go_enter Tryd.func18, Tryd.ntmps18
  go_wp2_with (refine wpList_make_own _ rfl _ _ 25 rfl w.heap.size 21 i0 (.int .i32 0) 1 Tryd.underlying25 hi hz0 hz1 .i64 .i64 _ l.length rfl rfl rfl (by rw [hz2]; omega) hml (Nat.le_refl _) ?_; intro w1 hown1 hgrow1)
  have HB : Below w.heap.size w w1 := (Below.refl _ _).grown hgrow1 (Nat.le_refl _) (by intro k h; cases h)
  have HO := hide hown1
  clear hown1 hgrow1
  go_loopw [3, 14] (fun v i wr => ∃ k : Nat, k ≤ l.length ∧ i = .int .i64 (k : Int) ∧ Rn w.heap.size v (whlR (l.take k)).reverse wr ∧ Below w.heap.size w wr) (fun _ i _ => l.length - (intOf i).toNat)
  case atStart => exact ⟨0, Nat.zero_le _, rfl, unhide HO, HB⟩
  case round =>
    clear HO HB
    obtain ⟨k, hk, rfl, hown, hb⟩ := hrel
    have hsz := hb.size
    have hLr := hL.below hb hpos
    by_cases hlt : k < l.length
    · have hzl : (k : Int) < (l.length : Int) := by omega
      have hz0' : (0 : Int) ≤ (k : Int) := by omega
      have g1 := unhide HC k hlt
      have k1 : wr.cell? ⟨b, off + k, none⟩ = some (.int .i32 (l.getD k 0)) := (hb.cell (by exact cell_lt g1)).trans g1
      have HS := hide (whlR_take l k hlt)
      have hTl := whlR_takeLen l k
      clear g1
      generalize l.getD k 0 = x at *
      generalize whlR (l.take k) = T at *
      cases T with
      | nil =>
        obtain ⟨xa, xc, hv⟩ := hown.shape
        have HO := hide hown
        clear hown
        subst hv
        have hm1 : 0 + 1 ≤ maxLen := by unfold maxLen; omega
        have hm2 : (0 + 1) * 4 ≤ 140737488355328 := by omega
        go_wp2_with (at_builtin; refine wpList_append_lies _ rfl _ _ 25 rfl w.heap.size 21 i0 _ 1 4 Tryd.underlying25 hi hz0 hz1 hz2 rfl (by omega) _ 0 [] rfl ((unhide HO).alloc _) ⟨wr.heap.size, 0, none⟩ 1 1 [.int .i32 x] rfl rfl (World.news_of_block (cs := #[.int .i32 x]) (t := 21) (fr := (0, 0)) (heap_new wr _)) (by simp [Value.oneCell']) (by omega) hm1 hm2 (by simp; omega) (wr.heap.size + 1) (by simp) ?_; intro g9 cap9 w9 hown9 hgrow9 hat9 hlt9)
        go_roundw
        case rel => exact ⟨k + 1, by omega, by go_num, by rw [unhide HS]; exact hown9, (hb.alloc (by omega) _).trans (below_own hgrow9 (by rw [World.size_alloc]; omega) (own_block (unhide HO)))⟩
        case measure => simp [intOf]; omega
      | cons y t =>
        rw [List.reverse_cons] at hown
        have hlT : t.length + 1 ≤ l.length := by simpa using hTl
        obtain ⟨g, c, hv, hBg, hgs⟩ := hown.held (by simp)
        obtain ⟨N, hN⟩ : ∃ N, N = (t.reverse ++ [y]).length := ⟨_, rfl⟩
        rw [← hN] at hv
        have hN2 : N = t.reverse.length + 1 := by rw [hN]; simp
        obtain ⟨m, hm⟩ : ∃ m, m = t.reverse.length := ⟨_, rfl⟩
        have hml' : m = t.length := by rw [hm]; simp
        subst hv
        have c1 := hown.last
        rw [← hm] at c1
        have fz : wr.frozen? ⟨g, m, none⟩ = false := hown.free hN m
        have HO := hide hown
        clear hown
        have e1 : IntKind.i64.wrap ((N : Int) - 1) = (m : Int) := by rw [IntKind.wrap_i64]; omega
        have e2 : (0 : Int) < (N : Int) := by omega
        have e3 : (m : Int) < (N : Int) := by omega
        have e4 : (0 : Int) ≤ (m : Int) := by omega
        have HN := hide hN
        have HN2 := hide hN2
        have HM := hide hm
        have hmN : m < N := by omega
        have hNl : N ≤ l.length := by omega
        clear hN hN2 hm hml'
        have HJ := hide (fun W hW => join_any y x W hW)
        cases hj : jB y x
        · have HS2 : Hid (whlR (l.take (k + 1)) = x :: y :: t) := by
            show _ = _
            rw [unhide HS]; simp [stp, hj]
          rw [hj] at HJ
          clear hj HS
          have hm1 : N + 1 ≤ maxLen := by unfold maxLen; omega
          have hm2 : (N + 1) * 4 ≤ 140737488355328 := by omega
          go_wp2_with (first
            | (go_at_call 16; refine (unhide HJ _ hLr).mono ?_; rintro e w2 ⟨rfl, g2⟩; have HO2 := hide ((unhide HO).below g2.below); have hb2 := hb.trans (g2.below.mono hsz); have hs2 := g2.size)
            | (at_builtin; refine wpList_append_lies _ rfl _ _ 25 rfl w.heap.size 21 i0 _ 1 4 Tryd.underlying25 hi hz0 hz1 hz2 rfl (by omega) _ N _ rfl (World.ownsRow.alloc (Rn.own (unhide HN) (unhide HO2)) _) ⟨w2.heap.size, 0, none⟩ 1 1 [.int .i32 x] rfl rfl (World.news_of_block (cs := #[.int .i32 x]) (t := 21) (fr := (0, 0)) (heap_new w2 _)) (by simp [Value.oneCell']) (by omega) hm1 hm2 (by simp; omega) (w2.heap.size + 1) (by simp) ?_; intro g9 cap9 w9 hown9 hgrow9 hat9 hlt9))
          go_roundw
          case rel => exact ⟨k + 1, by omega, by go_num, by rw [unhide HS2]; simpa using Rn.push (unhide HN) hown9, (hb2.alloc (by omega) _).trans (below_own hgrow9 (by rw [World.size_alloc]; omega) (own_block (unhide HO2)))⟩
          case measure => simp [intOf]; omega
        · have HS2 : Hid (whlR (l.take (k + 1)) = jR y x :: t) := by
            show _ = _
            rw [unhide HS]; simp [stp, hj]
          rw [hj] at HJ
          clear hj HS
          generalize jR y x = z at *
          go_wp2_with (go_at_call 16; refine (unhide HJ _ hLr).mono ?_; rintro e w2 ⟨rfl, g2⟩; have HO2 := hide ((unhide HO).below g2.below); have hb2 := hb.trans (g2.below.mono hsz); have hs2 := g2.size; have c2 := g2.cell c1; have fz2 : w2.frozen? ⟨g, m, none⟩ = false := (g2.below.frozen (p := ⟨g, m, none⟩) hgs).trans fz)
          go_roundw
          case rel =>
            obtain ⟨p1, p2⟩ := Rn.put (z := z) (unhide HN2) (unhide HM) (unhide HO2)
            exact ⟨k + 1, by omega, by go_num, by rw [unhide HS2]; simpa using p1, hb2.trans (below_own p2 (by omega) (by intro g' h'; cases h'; exact hBg))⟩
          case measure => simp [intOf]; omega
    · have hzl : ¬ (k : Int) < (l.length : Int) := by omega
      obtain rfl : k = l.length := by omega
      rw [List.take_length] at hown
      obtain ⟨xa, xc, hv⟩ := hown.shape
      obtain ⟨N, hN⟩ : ∃ N, N = (whlR l).reverse.length := ⟨_, rfl⟩
      rw [← hN] at hv
      clear hN
      have HO := hide hown
      clear hown
      subst hv
      go_wp2
      go_ret
      exact ⟨.slice xa N xc, rfl, unhide HO, hb⟩

/-- Whole, of any row. -/
theorem whole_any (v : Value) (l : List Int) (w : World) (hlen : l.length ≤ 20000) (hL : Lay w) (h : Row w v l) :
    Calls Tryd.prog 18 #[v] w fun e w' => ∃ v, e = .returned v ∧ Rn w.heap.size v (whl l) w' ∧ Below w.heap.size w w' := by
  obtain ⟨a, c, rfl, h1⟩ := h
  by_cases h0 : l.length = 0
  · obtain rfl : l = [] := List.eq_nil_of_length_eq_zero h0
    exact whole_empty a c w
  · obtain ⟨b1, o1, rfl, k1⟩ := h1 (by omega)
    exact whole_some b1 o1 c l w hlen (by omega) hL k1
end Go.Proofs.YtcgkdiflhlmlgaaDoor
