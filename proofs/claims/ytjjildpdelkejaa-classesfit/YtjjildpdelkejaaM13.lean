/- Sorting and tidying texts: slices.Sort, slices.Compact, and the landed tidy of layer 21. -/
import Derived.Test.YtjjildpdelkejaaM02
import Derived.Test.YtjjildpdelkejaaM12
namespace Go.Proofs.Ytjjildpdelkejaa
open Go.RowKit Go.Sort Go.Lib

/-- A text's bytes, and back. -/
def bts (s : ByteArray) : List UInt8 := s.data.toList
def unb (x : List UInt8) : ByteArray := ⟨x.toArray⟩
theorem unb_bts (s : ByteArray) : unb (bts s) = s := rfl
theorem bts_unb (x : List UInt8) : bts (unb x) = x := rfl
theorem bts_list (s : ByteArray) : s.toList = bts s := toList_data s
theorem enc_bts (x : List UInt8) : encStr x = .string (unb x) := rfl
theorem lsT_unb (a b : List UInt8) : lsT (unb a) (unb b) = Op.bytesLess a b := by unfold lsT; rw [bts_list, bts_list]; rfl
theorem bl_iff : ∀ a b : List UInt8, Op.bytesLess a b = true ↔ a < b
  | [], [] => by simp [Op.bytesLess]
  | [], _ :: _ => by simp [Op.bytesLess]
  | _ :: _, [] => by simp [Op.bytesLess]
  | x :: a, y :: b => by
    rw [List.cons_lt_cons_iff]
    by_cases e : x = y
    · subst e
      simp [Op.bytesLess, bl_iff a b]
    · simp [Op.bytesLess, e]
theorem le_not (a b : List UInt8) : a ≤ b ↔ Op.bytesLess b a = false := by
  rw [show (a ≤ b) = ¬ b < a from rfl, ← bl_iff]
  simp
/-- In order, none twice. -/
def tdy (X : List (List UInt8)) : List (List UInt8) := Lib.compact (X.mergeSort fun x y => decide (x ≤ y))
def RisB (X : List (List UInt8)) : Prop := X.Pairwise fun a b => Op.bytesLess a b = true
theorem le_trans' (a b c : List UInt8) (h1 : decide (a ≤ b) = true) (h2 : decide (b ≤ c) = true) : decide (a ≤ c) = true := by
  rw [decide_eq_true_eq, le_not] at *
  rcases ls_or c a with h | h | h
  · rcases ls_or b a with k | k | k
    · rw [k] at h1; cases h1
    · subst k; rw [h] at h2; cases h2
    · have := ls_tr _ _ _ h k
      rw [this] at h2; cases h2
  · subst h; exact ls_irr _
  · cases hq : Op.bytesLess c a
    · rfl
    · have := ls_tr _ _ _ h hq
      rw [ls_irr] at this; cases this
theorem le_total' (a b : List UInt8) : (decide (a ≤ b) || decide (b ≤ a)) = true := by
  rw [Bool.or_eq_true, decide_eq_true_eq, decide_eq_true_eq, le_not, le_not]
  rcases ls_or a b with h | h | h
  · left
    cases hq : Op.bytesLess b a
    · rfl
    · have := ls_tr _ _ _ h hq
      rw [ls_irr] at this; cases this
  · subst h; exact .inl (ls_irr _)
  · right
    cases hq : Op.bytesLess a b
    · rfl
    · have := ls_tr _ _ _ h hq
      rw [ls_irr] at this; cases this
theorem comp_ris (d : Array (List UInt8)) (hs : ∀ i j, i < j → j < d.size → Op.bytesLess d[j]! d[i]! = false) : ∀ m, m ≤ d.size → RisB (compactUpTo d m) ∧ (∀ x ∈ compactUpTo d m, ∃ i, i < m ∧ x = d[i]!) ∧ ∀ i, i < m → d[i]! ∈ compactUpTo d m
  | 0, _ => ⟨by simp [compactUpTo, RisB], by simp [compactUpTo], fun i hi => absurd hi (Nat.not_lt_zero _)⟩
  | m + 1, hm => by
    obtain ⟨h1, h2, h3⟩ := comp_ris d hs m (by omega)
    rw [compactUpTo_succ]
    cases hk : keeps d m
    · have hm0 : 0 < m := by
        rcases Nat.eq_zero_or_pos m with h | h
        · subst h; simp [keeps] at hk
        · exact h
      have he : d[m]! = d[m - 1]! := by
        unfold keeps at hk
        have := of_decide_eq_false hk
        exact Classical.byContradiction fun q => this (.inr q)
      simp only [Bool.false_eq_true, if_false, List.append_nil]
      refine ⟨h1, fun x hx => ?_, fun i hi => ?_⟩
      · obtain ⟨i, hi, e⟩ := h2 x hx
        exact ⟨i, by omega, e⟩
      · rcases Nat.lt_or_ge i m with q | q
        · exact h3 i q
        · obtain rfl : i = m := by omega
          rw [he]
          exact h3 (i - 1) (by omega)
    · simp only [if_true]
      refine ⟨?_, fun x hx => ?_, fun i hi => ?_⟩
      · refine List.pairwise_append.2 ⟨h1, by simp, fun x hx y hy => ?_⟩
        rw [List.mem_singleton] at hy
        subst hy
        obtain ⟨i, hi, rfl⟩ := h2 x hx
        have hm0 : 0 < m := by omega
        have hne : d[m]! ≠ d[m - 1]! := by
          unfold keeps at hk
          rcases of_decide_eq_true hk with q | q
          · omega
          · exact q
        have hlt : Op.bytesLess d[m - 1]! d[m]! = true := by
          rcases ls_or d[m - 1]! d[m]! with q | q | q
          · exact q
          · exact absurd q.symm hne
          · rw [hs (m - 1) m (by omega) (by omega)] at q; cases q
        rcases Nat.lt_or_ge i (m - 1) with q | q
        · rcases ls_or d[i]! d[m - 1]! with r | r | r
          · exact ls_tr _ _ _ r hlt
          · rw [r]; exact hlt
          · rw [hs i (m - 1) q (by omega)] at r; cases r
        · obtain rfl : i = m - 1 := by omega
          exact hlt
      · rcases List.mem_append.1 hx with q | q
        · obtain ⟨i, hi, e⟩ := h2 x q
          exact ⟨i, by omega, e⟩
        · rw [List.mem_singleton] at q
          exact ⟨m, by omega, q⟩
      · rw [List.mem_append]
        rcases Nat.lt_or_ge i m with q | q
        · exact .inl (h3 i q)
        · obtain rfl : i = m := by omega
          exact .inr (by simp)
theorem tdy_ris (X : List (List UInt8)) : RisB (tdy X) ∧ ∀ x, x ∈ tdy X ↔ x ∈ X := by
  have hp := List.pairwise_mergeSort (le := fun x y : List UInt8 => decide (x ≤ y)) le_trans' le_total' X
  obtain ⟨Y, hY⟩ : ∃ Y, Y = X.mergeSort fun x y => decide (x ≤ y) := ⟨_, rfl⟩
  have hm : ∀ x, x ∈ Y ↔ x ∈ X := fun x => by rw [hY]; exact List.mem_mergeSort
  rw [← hY] at hp
  have hg : ∀ i, i < Y.length → Y.toArray[i]! = Y.getD i [] := fun i hi => by simp [List.getD, hi]
  have hs : ∀ i j, i < j → j < Y.toArray.size → Op.bytesLess Y.toArray[j]! Y.toArray[i]! = false := fun i j hij hj => by
    have hj' : j < Y.length := by simpa using hj
    have := List.pairwise_iff_getElem.1 hp i j (by omega) hj' hij
    rw [decide_eq_true_eq, le_not] at this
    rw [hg i (by omega), hg j hj']
    simpa [List.getD, hj', show i < Y.length by omega] using this
  obtain ⟨h1, h2, h3⟩ := comp_ris Y.toArray hs Y.length (by simp)
  have e : tdy X = compactUpTo Y.toArray Y.length := by unfold tdy Lib.compact; rw [hY]
  rw [e]
  refine ⟨h1, fun x => ?_⟩
  rw [← hm]
  constructor
  · intro hx
    obtain ⟨i, hi, rfl⟩ := h2 x hx
    rw [hg i hi]
    simp [List.getD, hi]
  · intro hx
    obtain ⟨i, hi, rfl⟩ := List.getElem_of_mem hx
    have := h3 i hi
    rw [hg i hi] at this
    simpa [List.getD, hi] using this
theorem tdy_srt (L : List ByteArray) : (tdy (L.map bts)).map unb = srt L := by
  obtain ⟨h1, h2⟩ := tdy_ris (L.map bts)
  refine ris_ext ?_ (ris_srt L) fun x => ?_
  · unfold Ris
    rw [List.pairwise_map]
    exact h1.imp fun h => by rw [lsT_unb]; exact h
  · rw [mem_srt, List.mem_map]
    constructor
    · rintro ⟨y, hy, rfl⟩
      obtain ⟨s, hs, rfl⟩ := List.mem_map.1 ((h2 y).1 hy)
      exact hs
    · intro hx
      exact ⟨bts x, (h2 _).2 (List.mem_map_of_mem hx), rfl⟩
/-! In memory. -/
/-- A slice of texts whose cells may be set. -/
def Hd (w : World) (v : Value) (X : List (List UInt8)) : Prop :=
  ∃ a cap, v = .slice a X.length cap ∧ (X.length ≤ cap ∧ X.length ≤ 1000000) ∧ (0 < X.length → ∃ b off, a = some ⟨b, off, none⟩ ∧ Holds encStr w b off X.toArray)
theorem Hd.ts {w : World} {v : Value} {X : List (List UInt8)} (h : Hd w v X) : TsV w v (X.map unb) := by
  obtain ⟨a, cap, rfl, hn, hc⟩ := h
  refine ⟨a, cap, by rw [List.length_map], ⟨by rw [List.length_map]; omega, by rw [List.length_map]; omega⟩, fun hi => ?_⟩
  rw [List.length_map] at hi
  obtain ⟨b, off, rfl, hh⟩ := hc hi
  refine ⟨b, off, rfl, fun j hj => ?_⟩
  rw [List.length_map] at hj
  have := (hh j (by simpa using hj)).1
  rw [this, enc_bts]
  simp [List.getD, hj]
theorem Tx.hd {w : World} {B : Nat} {v : Value} {L : List ByteArray} (h : Tx B v L w) (hl : L.length ≤ 1000000) : Hd w v (L.map bts) := by
  rcases h.2 with ⟨hv, h0⟩ | ⟨g, cap, cur, hv, _, hg, hcap, _⟩
  · refine ⟨none, 0, by rw [hv, List.length_map, h0], ⟨by rw [List.length_map]; omega, by rw [List.length_map]; omega⟩, fun hi => by rw [List.length_map] at hi; omega⟩
  · refine ⟨some ⟨g, 0, none⟩, cap, by rw [hv, List.length_map], ⟨by rw [List.length_map]; omega, by rw [List.length_map]; omega⟩, fun hi => ⟨g, 0, rfl, fun j hj => ?_⟩⟩
    have hj' : j < L.length := by simpa using hj
    have := World.ownsRow.cells h (g := g) (by rw [hv]; rfl) j (.string (L.getD j te)) (by simp [List.getD, hj'])
    rw [add_zero3] at this
    refine ⟨?_, ?_⟩
    · rw [Nat.zero_add, this, enc_bts]
      simp [List.getD, hj', unb_bts]
    · unfold World.frozen?
      rw [show w.heap[(⟨g, 0 + j, none⟩ : Addr).block]? = w.heap[g]? from rfl, hg]
      simp
theorem grown_put {w : World} {g off n : Nat} {os : Array Obj} (d : Array (List UInt8)) : w.grownBy (grow (putRow encStr (Sort.ahead w n) g off d) os) (some g) := by
  refine ⟨rfl, rfl, rfl, by simp, fun k hk hne => ?_⟩
  rw [heap_grow_old _ _ (by simpa using hk)]
  have : g ≠ k := fun e => hne (by rw [e])
  simp [putRow, mapBlock, Sort.ahead, Array.getElem?_modify, this]
theorem holds_lt {w : World} {b off : Nat} {X : List (List UInt8)} (h : Holds encStr w b off X.toArray) (h0 : 0 < X.length) : b < w.heap.size := cell_lt (h 0 (by simpa using h0)).1
theorem sort_hd (v : Value) (X : List (List UInt8)) (w : World) (h : Hd w v X) : Calls Try.prog 55 #[v] w fun e w' => e = .returned (.tuple #[]) ∧ Hd w' v (X.mergeSort fun x y => decide (x ≤ y)) ∧ w.grownBy w' v.ownBlock := by
  obtain ⟨a, cap, rfl, hn, hc⟩ := h
  rcases Nat.eq_zero_or_pos X.length with h0 | h0
  · obtain rfl : X = [] := List.eq_nil_of_length_eq_zero h0
    refine (Any.slices_Sort_string_none lays21_190 a cap w).mono ?_
    rintro e w' ⟨rfl, rfl⟩
    exact ⟨rfl, ⟨a, cap, by simp, by simp, fun hi => by simp at hi⟩, World.grownBy.refl _ _⟩
  · obtain ⟨b, off, rfl, hh⟩ := hc h0
    have hb := holds_lt hh h0
    refine (Any.slices_Sort_string lays21_190 b off cap X w hh hb (by omega)).mono ?_
    rintro e w' ⟨rfl, n, os, rfl⟩
    refine ⟨rfl, ⟨some ⟨b, off, none⟩, cap, by rw [List.length_mergeSort], by rw [List.length_mergeSort]; exact hn, fun _ => ⟨b, off, rfl, ?_⟩⟩, grown_put _⟩
    refine holds_grow _ _ _ _ _ _ (by simpa using hb) ?_
    exact holds_putRow encStr _ b off X.toArray _ (holds_ahead _ _ _ _ _ _ hh) (by simp)
theorem comp_len (X : List (List UInt8)) : (Lib.compact X).length ≤ X.length := by
  unfold Lib.compact compactUpTo
  rw [List.length_map]
  exact Nat.le_trans (List.length_filter_le _ _) (by simp)
theorem compact_hd (v : Value) (X : List (List UInt8)) (w : World) (h : Hd w v X) : Calls Try.prog 56 #[v] w fun e w' => ∃ u, e = .returned u ∧ Hd w' u (Lib.compact X) ∧ w.grownBy w' v.ownBlock ∧ u.ownBlock = v.ownBlock := by
  obtain ⟨a, cap, rfl, hn, hc⟩ := h
  rcases Nat.eq_zero_or_pos X.length with h0 | h0
  · obtain rfl : X = [] := List.eq_nil_of_length_eq_zero h0
    refine (Any.slices_Compact_string_empty lays21_194 a cap w).mono ?_
    rintro e w' ⟨rfl, rfl⟩
    exact ⟨_, rfl, ⟨a, cap, by simp [Lib.compact, compactUpTo], by simp [Lib.compact, compactUpTo], fun hi => by simp [Lib.compact, compactUpTo] at hi⟩, World.grownBy.refl _ _, rfl⟩
  · obtain ⟨b, off, rfl, hh⟩ := hc h0
    have hb := holds_lt hh h0
    have hle := comp_len X
    refine (Any.slices_Compact_string lays21_194 b off cap X w hh (by omega) (by omega)).mono ?_
    rintro e w' ⟨rfl, q, rfl⟩
    refine ⟨_, rfl, ⟨some ⟨b, off, none⟩, cap, rfl, by omega, fun _ => ⟨b, off, rfl, ?_⟩⟩, ?_, rfl⟩
    · have hp := holds_putRow encStr (Sort.ahead w q) b off X.toArray (Lib.compact X ++ List.replicate (X.length - (Lib.compact X).length) []).toArray (holds_ahead _ _ _ _ _ _ hh) (by simp; omega)
      intro j hj
      have hj' : j < (Lib.compact X).length := by simpa using hj
      have := hp j (by simp; omega)
      simpa [List.getElem?_append_left hj', hj'] using this
    · have := grown_put (w := w) (g := b) (off := off) (n := q) (os := #[]) (Lib.compact X ++ List.replicate (X.length - (Lib.compact X).length) []).toArray
      rwa [grow_empty] at this
set_option maxHeartbeats 800000 in
theorem tidy_any (v : Value) (X : List (List UInt8)) (w : World) (h : Hd w v X) : Calls Try.prog 32 #[v] w fun e w' => ∃ u, e = .returned u ∧ Hd w' u (tdy X) ∧ w.grownBy w' v.ownBlock ∧ u.ownBlock = v.ownBlock := by
  have C1 := hide (sort_hd v X w h)
  have C2 := hide (fun W (h : Hd W v (X.mergeSort fun x y => decide (x ≤ y))) => compact_hd v _ W h)
  have HT : Hid (Lib.compact (X.mergeSort fun x y => decide (x ≤ y)) = tdy X) := rfl
  rw [unhide HT] at C2
  clear HT
  obtain ⟨a, cap, rfl, _⟩ := h
  generalize (X.mergeSort fun x y => decide (x ≤ y)) = Y at *
  generalize tdy X = Z at *
  go_enter Try.func32, Try.ntmps32
  go_wp2_with (first
    | (go_at_call 56; refine (unhide C2 _ (unhide H1)).mono ?_; rintro e w2 ⟨u, rfl, h2, g2, o2⟩; have H2 := hide h2; have G2 := hide (g1.trans g2); have O2 := hide o2; clear h2 g2 o2)
    | (go_at_call 55; refine (unhide C1).mono ?_; rintro e w1 ⟨rfl, h1, g1⟩; have H1 := hide h1; clear h1))
  go_ret
  exact ⟨u, rfl, unhide H2, unhide G2, unhide O2⟩
end Go.Proofs.Ytjjildpdelkejaa
