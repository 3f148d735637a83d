/- Rows of rows; the document's Runs. -/
import Derived.Test.YtlbigebaepecpaaRn
import Derived.Test.YtlbigebaepecpaaRef2
import Derived.Test.YtlbigebaepecpaaOrd6
namespace Go.Proofs.Ytlbigebaepecpaa
open Go.RowKit

/-- A slice of slices that holds the rows ls. -/
def RR (w : World) (v : Value) (ls : List (List Int)) : Prop :=
  ∃ a cap, v = .slice a ls.length cap ∧ (0 < ls.length → ∃ b off, a = some ⟨b, off, none⟩ ∧ ∀ i, i < ls.length → ∃ g o c, w.cell? ⟨b, off + i, none⟩ = some (.slice (some ⟨g, o, none⟩) (ls.getD i []).length c) ∧ ∀ j, j < (ls.getD i []).length → w.cell? ⟨g, o + j, none⟩ = some (.int .i32 ((ls.getD i []).getD j 0)))
theorem RR.below {w w2 : World} {v : Value} {ls : List (List Int)} (h : RR w v ls) (hb : Below w.heap.size w w2) : RR w2 v ls := by
  obtain ⟨a, cap, rfl, hc⟩ := h
  refine ⟨a, cap, rfl, fun hi => ?_⟩
  obtain ⟨b, off, rfl, hcc⟩ := hc hi
  refine ⟨b, off, rfl, fun i hi => ?_⟩
  obtain ⟨g, o, c, h1, h2⟩ := hcc i hi
  exact ⟨g, o, c, (hb.cell (by exact cell_lt h1)).trans h1, fun j hj => (hb.cell (by exact cell_lt (h2 j hj))).trans (h2 j hj)⟩
/-- Rows of two types lie in two blocks. -/
theorem own_apart {w : World} {B C e f s t n m : Nat} {v u : Value} {xs ys : List Value} (h1 : w.ownsRow B e s v n xs) (h2 : w.ownsRow C f t u m ys) (hne : e ≠ f) : v.ownBlock = none ∨ v.ownBlock ≠ u.ownBlock := by
  rcases h1.2 with ⟨hv, _⟩ | ⟨g, cap, cur, hv, _, hg, _⟩
  · left; rw [hv]; rfl
  · right
    rcases h2.2 with ⟨hu, _⟩ | ⟨k, cap2, cur2, hu, _, hk, _⟩
    · rw [hv, hu]; simp [Value.ownBlock]
    · rw [hv, hu]
      intro e
      simp only [Value.ownBlock, Option.some.injEq] at e
      subst e
      rw [hg] at hk
      simp only [Option.some.injEq, Obj.cells.injEq] at hk
      exact hne hk.2.1
/-- A value owns one row. -/
theorem own_same {w : World} {B C e s n : Nat} {v : Value} {xs ys : List Value} (h1 : w.ownsRow B e s v n xs) (h2 : w.ownsRow C e s v n ys) : xs = ys := by
  rcases h1.2 with ⟨hv, h0⟩ | ⟨g, cap, cur, hv, _, hg, _, _, _, ht⟩
  · have a := h1.1
    have b := h2.1
    rw [h0, Nat.zero_mul] at a b
    rw [List.length_eq_zero_iff.1 a, List.length_eq_zero_iff.1 b]
  · rcases h2.2 with ⟨hu, _⟩ | ⟨k, cap2, cur2, hu, _, hk, _, _, _, hs⟩
    · rw [hv] at hu; cases hu
    · rw [hv] at hu
      cases hu
      rw [hg] at hk
      cases hk
      rw [← ht, ← hs]
/-- How Runs stands: what is done, and the run that is made. -/
def Stt (B : Nat) (v3 v4 : Value) (out : List (List Int)) (now : List Int) (w : World) : Prop :=
  ∃ vs : List Value, vs.length = out.length ∧ w.ownsRow B 22 1 v3 out.length vs ∧ Rn B v4 now w ∧ ∀ i, i < out.length → ∃ g c, vs[i]? = some (.slice (some ⟨g, 0, none⟩) (out.getD i []).length c) ∧ Rn B (.slice (some ⟨g, 0, none⟩) (out.getD i []).length c) (out.getD i []) w ∧ v4.ownBlock ≠ some g
theorem Stt.nil (B : Nat) (w : World) : Stt B (.slice none 0 0) (.slice none 0 0) [] [] w := ⟨[], rfl, ⟨rfl, .inl ⟨rfl, rfl⟩⟩, Rn.nil B w, fun i hi => by simp at hi⟩
theorem Stt.below {B : Nat} {v3 v4 : Value} {out : List (List Int)} {now : List Int} {w w2 : World} (h : Stt B v3 v4 out now w) (hb : Below w.heap.size w w2) : Stt B v3 v4 out now w2 := by
  obtain ⟨vs, h1, h2, h3, h4⟩ := h
  refine ⟨vs, h1, own_below h2 hb, h3.below hb, fun i hi => ?_⟩
  obtain ⟨g, c, k1, k2, k3⟩ := h4 i hi
  exact ⟨g, c, k1, k2.below hb, k3⟩
theorem Stt.more {B g9 cap9 N : Nat} {v3 v4 : Value} {out : List (List Int)} {now : List Int} {x : Int} {w w9 : World} (h : Stt B v3 v4 out now w) (hN : N = now.length)
    (hown9 : w9.ownsRow B 21 1 (.slice (some ⟨g9, 0, none⟩) (N + 1) cap9) (N + 1) (now.map (Value.int .i32) ++ [.int .i32 x])) (hgrow9 : w.grownBy w9 v4.ownBlock) (hat9 : v4.ownBlock = some g9 ∨ w.heap.size ≤ g9) :
    Stt B v3 (.slice (some ⟨g9, 0, none⟩) (N + 1) cap9) out (now ++ [x]) w9 := by
  obtain ⟨vs, h1, h2, h3, h4⟩ := h
  refine ⟨vs, h1, h2.kept hgrow9 (own_apart h2 h3 (by decide)), Rn.push hN hown9, fun i hi => ?_⟩
  obtain ⟨g, c, k1, k2, k3⟩ := h4 i hi
  refine ⟨g, c, k1, World.ownsRow.kept k2 hgrow9 (.inr (fun e => k3 e.symm)), ?_⟩
  intro e
  simp only [Value.ownBlock, Option.some.injEq] at e
  rcases hat9 with h | h
  · exact k3 (by rw [h, e])
  · have := (World.ownsRow.lt k2 g rfl).2
    omega
theorem Stt.push {B g9 cap9 : Nat} {v3 : Value} {g4 c4 N M : Nat} {out : List (List Int)} {now : List Int} {w w9 : World} (h : Stt B v3 (.slice (some ⟨g4, 0, none⟩) N c4) out now w) (hN : N = now.length) (hM : M = out.length)
    (vs : List Value) (hvs : w.ownsRow B 22 1 v3 M vs) (hown9 : w9.ownsRow B 22 1 (.slice (some ⟨g9, 0, none⟩) (M + 1) cap9) (M + 1) (vs ++ [.slice (some ⟨g4, 0, none⟩) N c4])) (hgrow9 : w.grownBy w9 v3.ownBlock) :
    Stt B (.slice (some ⟨g9, 0, none⟩) (M + 1) cap9) (.slice none 0 0) (out ++ [now]) [] w9 := by
  obtain ⟨us, h1, h2, h3, h4⟩ := h
  subst hN hM
  obtain rfl := own_same h2 hvs
  refine ⟨us ++ [.slice (some ⟨g4, 0, none⟩) now.length c4], by simp [h1], by simpa using hown9, Rn.nil B w9, fun i hi => ?_⟩
  by_cases hl : i < out.length
  · obtain ⟨g, c, k1, k2, k3⟩ := h4 i hl
    have e : (out ++ [now]).getD i [] = out.getD i [] := by simp [List.getD, List.getElem?_append_left hl]
    rw [e]
    exact ⟨g, c, by rw [List.getElem?_append_left (by omega)]; exact k1, World.ownsRow.kept k2 hgrow9 (own_apart k2 h2 (by decide)), by simp [Value.ownBlock]⟩
  · have hi' : i = out.length := by simp at hi; omega
    subst hi'
    have e : (out ++ [now]).getD out.length [] = now := by simp [List.getD]
    rw [e]
    exact ⟨g4, c4, by rw [← h1]; simp, World.ownsRow.kept h3 hgrow9 (own_apart h3 h2 (by decide)), by simp [Value.ownBlock]⟩
theorem Stt.rr {B : Nat} {v3 v4 : Value} {out : List (List Int)} {now : List Int} {w : World} (h : Stt B v3 v4 out now w) : RR w v3 out := by
  obtain ⟨vs, h1, h2, h3, h4⟩ := h
  rcases h2.2 with ⟨hv, h0⟩ | ⟨g, cap, cur, hv, _⟩
  · exact ⟨none, 0, by rw [hv, h0], fun hi => by omega⟩
  · refine ⟨some ⟨g, 0, none⟩, cap, hv, fun _ => ⟨g, 0, rfl, fun i hi => ?_⟩⟩
    obtain ⟨g', c, k1, k2, _⟩ := h4 i hi
    have e1 := World.ownsRow.cells h2 (g := g) (by rw [hv]; rfl) i _ k1
    rw [add_zero3] at e1
    refine ⟨g', 0, c, by rw [Nat.zero_add]; exact e1, fun j hj => ?_⟩
    have e2 := World.ownsRow.cells k2 (g := g') rfl j (.int .i32 (((out.getD i [])).getD j 0)) (by
      generalize out.getD i [] = m at hj
      simp [List.getD, hj])
    rw [add_zero3] at e2
    rw [Nat.zero_add]
    exact e2
theorem Stt.shape3 {B : Nat} {v3 v4 : Value} {out : List (List Int)} {now : List Int} {w : World} (h : Stt B v3 v4 out now w) : ∃ a c, v3 = .slice a out.length c := by
  obtain ⟨vs, h1, h2, _⟩ := h
  rcases h2.2 with ⟨hv, h0⟩ | ⟨g, cap, cur, hv, _⟩
  · exact ⟨none, 0, by rw [hv, h0]⟩
  · exact ⟨_, cap, hv⟩
theorem Stt.rn {B : Nat} {v3 v4 : Value} {out : List (List Int)} {now : List Int} {w : World} (h : Stt B v3 v4 out now w) : Rn B v4 now w := by
  obtain ⟨_, _, _, h3, _⟩ := h
  exact h3
theorem Stt.own {B : Nat} {v3 v4 : Value} {out : List (List Int)} {now : List Int} {w : World} (h : Stt B v3 v4 out now w) : ∃ vs, w.ownsRow B 22 1 v3 out.length vs := by
  obtain ⟨vs, _, h2, _⟩ := h
  exact ⟨vs, h2⟩
theorem elem_info2 : (Try.prog.info? 22).map (fun i => (i.zero, i.size, i.bytes)) = some (some (.slice none 0 0), 1, 24) := by kernel_rfl
theorem rfold_len (c : Int → Int) (l : List Int) : (rfold c l).1.length + (rfold c l).2.length ≤ l.length := by
  have h := (rfold_inv (c := c) l).1
  have hr := (rfold_inv (c := c) l).2.1.1
  have h2 : (rfold c l).1.length ≤ (rfold c l).1.flatten.length := by
    have hne : ∀ r, r ∈ (rfold c l).1 → r ≠ [] := fun r hr' => (hr r (by unfold rfin; split <;> simp [hr'])).1
    generalize (rfold c l).1 = rs at hne
    induction rs with
    | nil => simp
    | cons r rs ih =>
      have := ih fun q hq => hne q (by simp [hq])
      have h1 : 0 < r.length := List.length_pos_iff.2 (hne r (by simp))
      simp only [List.length_cons, List.flatten_cons, List.length_append]
      omega
  have := congrArg List.length h
  rw [List.length_append] at this
  omega
theorem rfold_take (c : Int → Int) (l : List Int) (k : Nat) (h : k < l.length) : rfold c (l.take (k + 1)) = rstep c (rfold c (l.take k)) (l.getD k 0) := by rw [take_snoc l k h, rfold_snoc]

set_option maxHeartbeats 800000 in
theorem rruns_empty (a : Option Addr) (cap : Nat) (w : World) :
    Calls Try.prog 14 #[.slice a 0 cap] w fun e w' => ∃ v, e = .returned v ∧ RR w' v [] ∧ Below w.heap.size w w' := by
  go_enter Try.func14, Try.ntmps14
  go_wp2
  refine wp_loop_rounds 1 ?_
  rw [rounds_succ]
  go_wp2
  go_ret
  exact ⟨_, rfl, ⟨none, 0, rfl, fun h => by simp at h⟩, Below.refl _ _⟩

set_option maxHeartbeats 6400000 in
theorem rruns_some (b off cap : Nat) (l : List Int) (w : World) (hlen : l.length ≤ 20000) (h0 : 0 < l.length)
    (hcell : ∀ i, i < l.length → w.cell? ⟨b, off + i, none⟩ = some (.int .i32 (l.getD i 0))) :
    Calls Try.prog 14 #[.slice (some ⟨b, off, none⟩) l.length cap] w fun e w' => ∃ v, e = .returned v ∧ RR w' v (runsL cls l) ∧ Below w.heap.size w w' := by
  obtain ⟨i0, hi, hz0, hz1, hz2⟩ := info_parts elem_info
  obtain ⟨i1, gi, gz0, gz1, gz2⟩ := info_parts elem_info2
  have HC := hide hcell
  have HCL := hide rclass_any
  clear hcell
  go_enter Try.func14, Try.ntmps14
  go_wp2
  go_loopw [3, 4, 5] (fun v3 v4 i wr => ∃ k : Nat, k ≤ l.length ∧ i = .int .i64 (k : Int) ∧ Stt w.heap.size v3 v4 (rfold cls (l.take k)).1 (rfold cls (l.take k)).2 wr ∧ Below w.heap.size w wr) (fun _ _ i _ => l.length - (intOf i).toNat)
  case atStart => exact ⟨0, Nat.zero_le _, rfl, Stt.nil _ _, Below.refl _ _⟩
  case round =>
    obtain ⟨k, hk, rfl, hst, hb⟩ := hrel
    have hsz := hb.size
    have hfl := rfold_len cls (l.take k)
    rw [List.length_take] at hfl
    by_cases hlt : k < l.length
    · have hzl : (k : Int) < (l.length : Int) := by omega
      have hz0' : (0 : Int) ≤ (k : Int) := by omega
      have g1 := unhide HC k hlt
      have k1 : wr.cell? ⟨b, off + k, none⟩ = some (.int .i32 (l.getD k 0)) := (hb.cell (by exact cell_lt g1)).trans g1
      have HS := hide (rfold_take cls l k hlt)
      have HK := hide (unhide HCL (l.getD k 0))
      have G1 := hide g1
      clear g1
      generalize l.getD k 0 = x at *
      generalize rfold cls (l.take k) = s at *
      obtain ⟨out, now⟩ := s
      dsimp only at hst hfl
      obtain ⟨q, hq⟩ : ∃ q, cls x = q := ⟨_, rfl⟩
      rw [hq] at HK
      have HQ := hide hq
      clear hq
      obtain ⟨a3, c3, hv3⟩ := hst.shape3
      obtain ⟨a4, c4, hv4⟩ := hst.rn.shape
      obtain ⟨M, hM⟩ : ∃ M, M = out.length := ⟨_, rfl⟩
      obtain ⟨N, hN⟩ : ∃ N, N = now.length := ⟨_, rfl⟩
      rw [← hM] at hv3
      rw [← hN] at hv4
      have hMN : M + N ≤ l.length := by omega
      have HM := hide hM
      have HN := hide hN
      clear hM hN
      subst hv3 hv4
      have HST := hide hst
      clear hst
      have hm1 : N + 1 ≤ maxLen := by unfold maxLen; omega
      have hm2 : (N + 1) * 4 ≤ 140737488355328 := by omega
      by_cases hcase : q = 0 ∧ 0 < N
      · obtain ⟨hq0, hN0⟩ := hcase
        have HE : Hid (rfold cls (l.take (k + 1)) = (out ++ [now], [x])) := by
          show _ = _
          rw [unhide HS]
          unfold rstep
          rw [if_pos ⟨(unhide HQ).trans hq0, fun h => by have h' : now = [] := h; have := unhide HN; rw [h'] at this; simp at this; omega⟩]
        subst hq0
        have hNz : (0 : Int) < (N : Int) := by omega
        obtain ⟨g4, e4, hv4, hB4, hs4⟩ := (unhide HST).rn.held (by rw [← unhide HN]; exact hN0)
        rw [← unhide HN] at hv4
        cases hv4
        have hm3 : M + 1 ≤ maxLen := by unfold maxLen; omega
        have hm4 : (M + 1) * 24 ≤ 140737488355328 := by omega
        have hm5 : 0 + 1 ≤ maxLen := by unfold maxLen; omega
        have hm6 : (0 + 1) * 4 ≤ 140737488355328 := by omega
        obtain ⟨vs, hvs⟩ := (unhide HST).own
        rw [← unhide HM] at hvs
        go_wp2_with (first
          | (go_at_call 21; refine (unhide HK _).mono ?_; rintro e w2 ⟨rfl, b2⟩; have HST2 := hide ((unhide HST).below b2); have hb2 := hb.trans (b2.mono hsz); have hs2 := hb2.size; have k2 : w2.cell? ⟨b, off + k, none⟩ = some (.int .i32 x) := (b2.cell (by exact cell_lt k1)).trans k1; have hvs2 := own_below hvs b2; have VS2 := hide hvs2; clear hvs2)
          | (at_builtin; refine wpList_append_lies _ rfl _ _ 29 rfl w.heap.size 22 i1 _ 1 24 Try.underlying29 gi gz0 gz1 gz2 rfl (by omega) _ M _ rfl (World.ownsRow.alloc (unhide VS2) _) ⟨w2.heap.size, 0, none⟩ 1 1 [.slice (some ⟨g4, 0, none⟩) N c4] rfl rfl (World.news_of_block (cs := #[.slice (some ⟨g4, 0, none⟩) N c4]) (t := 22) (fr := (0, 0)) (heap_new w2 _)) (by simp [Value.oneCell']) (by omega) hm3 hm4 (by simp; omega) (w2.heap.size + 1) (by simp) ?_; intro g8 cap8 w8 hown8 hgrow8 hat8 hlt8; have hb8 := (hb2.alloc (by omega) _).trans (below_own hgrow8 (by simp; omega) (own_block (unhide VS2))); have k8 : w8.cell? ⟨b, off + k, none⟩ = some (.int .i32 x) := (hb8.cell (by exact cell_lt (unhide G1))).trans (unhide G1); have HST8 := hide (Stt.push ((unhide HST2).below (Below.one w2 _)) (unhide HN) (unhide HM) vs (World.ownsRow.alloc (unhide VS2) _) hown8 hgrow8); have hs8 := hb8.size; clear hown8 hgrow8 hat8 hlt8)
          | (at_builtin; refine wpList_append_lies _ rfl _ _ 22 rfl w.heap.size 21 i0 _ 1 4 Try.underlying22 hi hz0 hz1 hz2 rfl (by omega) _ 0 [] rfl (World.ownsRow_nil _ _ _ _) ⟨w8.heap.size, 0, none⟩ 1 1 [.int .i32 x] rfl rfl (World.news_of_block (cs := #[.int .i32 x]) (t := 21) (fr := (0, 0)) (heap_new w8 _)) (by simp [Value.oneCell']) (by omega) hm5 hm6 (by simp; omega) (w8.heap.size + 1) (by simp) ?_; intro g9 cap9 w9 hown9 hgrow9 hat9 hlt9))
        go_roundw
        case rel =>
          refine ⟨k + 1, by omega, by go_num, ?_, (hb8.alloc (by omega) _).trans (below_own hgrow9 (by simp; omega) (fun g h => by cases h))⟩
          rw [unhide HE]
          exact Stt.more (N := 0) ((unhide HST8).below (Below.one w8 _)) rfl hown9 hgrow9 (hat9.imp id (fun h => by rw [World.size_alloc]; omega))
        case measure => simp [intOf]; omega
      · have HE : Hid (rfold cls (l.take (k + 1)) = (out, now ++ [x])) := by
          show _ = _
          rw [unhide HS]
          unfold rstep
          rw [if_neg]
          rintro ⟨e1, e2⟩
          refine hcase ⟨(unhide HQ).symm.trans e1, ?_⟩
          rw [unhide HN]
          exact List.length_pos_iff.2 e2
        by_cases hq0 : q = 0
        · subst hq0
          have hNz : ¬ (0 : Int) < (N : Int) := by omega
          go_wp2_with (first
            | (go_at_call 21; refine (unhide HK _).mono ?_; rintro e w2 ⟨rfl, b2⟩; have HST2 := hide ((unhide HST).below b2); have hb2 := hb.trans (b2.mono hsz); have hs2 := hb2.size; have k2 : w2.cell? ⟨b, off + k, none⟩ = some (.int .i32 x) := (b2.cell (by exact cell_lt k1)).trans k1)
            | (at_builtin; refine wpList_append_lies _ rfl _ _ 22 rfl w.heap.size 21 i0 _ 1 4 Try.underlying22 hi hz0 hz1 hz2 rfl (by omega) _ N _ rfl (World.ownsRow.alloc (Rn.own (unhide HN) (unhide HST2).rn) _) ⟨w2.heap.size, 0, none⟩ 1 1 [.int .i32 x] rfl rfl (World.news_of_block (cs := #[.int .i32 x]) (t := 21) (fr := (0, 0)) (heap_new w2 _)) (by simp [Value.oneCell']) (by omega) hm1 hm2 (by simp; omega) (w2.heap.size + 1) (by simp) ?_; intro g9 cap9 w9 hown9 hgrow9 hat9 hlt9))
          go_roundw
          case rel =>
            refine ⟨k + 1, by omega, by go_num, ?_, (hb2.alloc (by omega) _).trans (below_own hgrow9 (by simp; omega) (own_block (Rn.own (unhide HN) (unhide HST2).rn)))⟩
            rw [unhide HE]
            exact Stt.more ((unhide HST2).below (Below.one w2 _)) (unhide HN) hown9 hgrow9 (hat9.imp id (fun h => by rw [World.size_alloc]; omega))
          case measure => simp [intOf]; omega
        · have hqz : (q == 0) = false := by simpa using hq0
          go_wp2_with (first
            | (go_at_call 21; refine (unhide HK _).mono ?_; rintro e w2 ⟨rfl, b2⟩; have HST2 := hide ((unhide HST).below b2); have hb2 := hb.trans (b2.mono hsz); have hs2 := hb2.size; have k2 : w2.cell? ⟨b, off + k, none⟩ = some (.int .i32 x) := (b2.cell (by exact cell_lt k1)).trans k1)
            | (at_builtin; refine wpList_append_lies _ rfl _ _ 22 rfl w.heap.size 21 i0 _ 1 4 Try.underlying22 hi hz0 hz1 hz2 rfl (by omega) _ N _ rfl (World.ownsRow.alloc (Rn.own (unhide HN) (unhide HST2).rn) _) ⟨w2.heap.size, 0, none⟩ 1 1 [.int .i32 x] rfl rfl (World.news_of_block (cs := #[.int .i32 x]) (t := 21) (fr := (0, 0)) (heap_new w2 _)) (by simp [Value.oneCell']) (by omega) hm1 hm2 (by simp; omega) (w2.heap.size + 1) (by simp) ?_; intro g9 cap9 w9 hown9 hgrow9 hat9 hlt9))
          go_roundw
          case rel =>
            refine ⟨k + 1, by omega, by go_num, ?_, (hb2.alloc (by omega) _).trans (below_own hgrow9 (by simp; omega) (own_block (Rn.own (unhide HN) (unhide HST2).rn)))⟩
            rw [unhide HE]
            exact Stt.more ((unhide HST2).below (Below.one w2 _)) (unhide HN) hown9 hgrow9 (hat9.imp id (fun h => by rw [World.size_alloc]; omega))
          case measure => simp [intOf]; omega
    · have hzl : ¬ (k : Int) < (l.length : Int) := by omega
      obtain rfl : k = l.length := by omega
      rw [List.take_length] at hst hfl
      have HRU : Hid (runsL cls l = rfin (rfold cls l)) := rfl
      generalize rfold cls l = s at *
      obtain ⟨out, now⟩ := s
      dsimp only at hst hfl
      obtain ⟨a3, c3, hv3⟩ := hst.shape3
      obtain ⟨a4, c4, hv4⟩ := hst.rn.shape
      obtain ⟨M, hM⟩ : ∃ M, M = out.length := ⟨_, rfl⟩
      obtain ⟨N, hN⟩ : ∃ N, N = now.length := ⟨_, rfl⟩
      rw [← hM] at hv3
      rw [← hN] at hv4
      have hMN : M + N ≤ l.length := by omega
      have HM := hide hM
      have HN := hide hN
      clear hM hN
      subst hv3 hv4
      have HST := hide hst
      clear hst
      by_cases hN0 : 0 < N
      · have HE : Hid (runsL cls l = out ++ [now]) := by
          show _ = _
          rw [unhide HRU]
          unfold rfin
          rw [if_pos (fun h => by have h' : now = [] := h; have := unhide HN; rw [h'] at this; simp at this; omega)]
        have hNz : (0 : Int) < (N : Int) := by omega
        obtain ⟨g4, e4, hv4, hB4, hs4⟩ := (unhide HST).rn.held (by rw [← unhide HN]; exact hN0)
        rw [← unhide HN] at hv4
        cases hv4
        have hm3 : M + 1 ≤ maxLen := by unfold maxLen; omega
        have hm4 : (M + 1) * 24 ≤ 140737488355328 := by omega
        obtain ⟨vs, hvs⟩ := (unhide HST).own
        rw [← unhide HM] at hvs
        have VS := hide hvs
        clear hvs
        go_wp2_with (at_builtin; refine wpList_append_lies _ rfl _ _ 29 rfl w.heap.size 22 i1 _ 1 24 Try.underlying29 gi gz0 gz1 gz2 rfl (by omega) _ M _ rfl (World.ownsRow.alloc (unhide VS) _) ⟨wr.heap.size, 0, none⟩ 1 1 [.slice (some ⟨g4, 0, none⟩) N c4] rfl rfl (World.news_of_block (cs := #[.slice (some ⟨g4, 0, none⟩) N c4]) (t := 22) (fr := (0, 0)) (heap_new wr _)) (by simp [Value.oneCell']) (by omega) hm3 hm4 (by simp; omega) (wr.heap.size + 1) (by simp) ?_; intro g8 cap8 w8 hown8 hgrow8 hat8 hlt8)
        go_ret
        refine ⟨_, rfl, ?_, (hb.alloc (by omega) _).trans (below_own hgrow8 (by simp; omega) (own_block (unhide VS)))⟩
        rw [unhide HE]
        exact (Stt.push ((unhide HST).below (Below.one wr _)) (unhide HN) (unhide HM) vs (World.ownsRow.alloc (unhide VS) _) hown8 hgrow8).rr
      · have HE : Hid (runsL cls l = out) := by
          show _ = _
          rw [unhide HRU]
          unfold rfin
          rw [if_neg]
          intro h
          have := List.length_pos_iff.2 h
          have := unhide HN
          dsimp only at *
          omega
        have hNz : ¬ (0 : Int) < (N : Int) := by omega
        go_wp2
        go_ret
        refine ⟨.slice a3 M c3, rfl, ?_, hb⟩
        rw [unhide HE]
        exact (unhide HST).rr

/-- The document's Runs, of any row. -/
theorem rruns_any (v : Value) (l : List Int) (w : World) (hlen : l.length ≤ 20000) (h : Row w v l) :
    Calls Try.prog 14 #[v] w fun e w' => ∃ v, e = .returned v ∧ RR w' v (runsL cls l) ∧ Below w.heap.size w w' := by
  obtain ⟨a, c, rfl, h1⟩ := h
  by_cases h0 : l.length = 0
  · obtain rfl : l = [] := List.eq_nil_of_length_eq_zero h0
    exact rruns_empty a c w
  · obtain ⟨b1, o1, rfl, k1⟩ := h1 (by omega)
    exact rruns_some b1 o1 c l w hlen (by omega) k1
end Go.Proofs.Ytlbigebaepecpaa
