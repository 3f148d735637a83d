/- Contracts of the landed arrange: Order, Ordered, Runs, of any row of at most a thousand numbers. -/
import Derived.Test.YtlbigebaepecpaaCut6
import Derived.Test.YtlbigebaepecpaaOrd8
import Derived.Test.YtlbigebaepecpaaSame2
namespace Go.Proofs.Ytlbigebaepecpaa
open Go.RowKit

def Ly (_ : World) : Prop := True
theorem Ly.keep {w w2 : World} (_ : Ly w) (_ : Below w.heap.size w w2) : Ly w2 := trivial

theorem aordd_any (v : Value) (l : List Int) (w : World) (_ : Ly w) (hlen : l.length ≤ 1000) (hR : Row w v l) : Calls Try.prog 11 #[v] w fun e w' => e = .returned (.bool (ordered cls l)) ∧ Below w.heap.size w w' := by
  refine (aordd_gr v l w (by omega) hR).mono ?_
  rintro e w1 ⟨rfl, hg⟩
  exact ⟨rfl, hg.below⟩

theorem flat_at : ∀ (rs : List (List Int)) (i j : Nat), i < rs.length → j < (rs.getD i []).length → (rs.take i).flatten.length + j < rs.flatten.length ∧ rs.flatten.getD ((rs.take i).flatten.length + j) 0 = (rs.getD i []).getD j 0
  | [], _, _, h, _ => by simp at h
  | r :: rs, 0, j, _, hj => by
    have hj' : j < r.length := hj
    refine ⟨by simp; omega, ?_⟩
    have e : (r :: rs).getD 0 [] = r := rfl
    rw [e]
    simp [List.getD, List.getElem?_append_left hj']
  | r :: rs, i + 1, j, h, hj => by
    have e : (r :: rs).getD (i + 1) [] = rs.getD i [] := rfl
    rw [e] at hj ⊢
    obtain ⟨h1, h2⟩ := flat_at rs i j (by simpa using h) hj
    rw [List.take_succ_cons, List.flatten_cons, List.flatten_cons, List.length_append, List.length_append]
    refine ⟨by omega, ?_⟩
    rw [← h2]
    have e2 : r.length + (rs.take i).flatten.length + j = r.length + ((rs.take i).flatten.length + j) := by omega
    rw [e2]
    simp [List.getD, List.getElem?_append_right]
/-- Runs that lie in a row are read as runs. -/
theorem Ct.rr {w : World} {B C g N cap : Nat} {v : Value} {rs : List (List Int)} (h : Ct w B g v rs) (hN : N = rs.flatten.length) (hR : Rn C (.slice (some ⟨g, 0, none⟩) N cap) rs.flatten w) : RR w v rs := by
  obtain ⟨vs, h1, h2, h3⟩ := h
  subst hN
  rcases h2.2 with ⟨hv, h0⟩ | ⟨b, c, cur, hv, _⟩
  · exact ⟨none, 0, by rw [hv, h0], fun hi => by omega⟩
  · refine ⟨some ⟨b, 0, none⟩, c, hv, fun _ => ⟨b, 0, rfl, fun i hi => ?_⟩⟩
    have e1 := World.ownsRow.cells h2 (g := b) (by rw [hv]; rfl) i _ (h3 i hi)
    rw [add_zero3] at e1
    refine ⟨g, (rs.take i).flatten.length, _, by rw [Nat.zero_add]; exact e1, fun j hj => ?_⟩
    obtain ⟨k1, k2⟩ := flat_at rs i j hi hj
    rw [World.ownsRow.cellAt hR _ (by omega), ← k2]
    generalize rs.flatten = l at *
    generalize (rs.take i).flatten.length + j = m at *
    simp [List.getD, k1]
theorem Ct.at {w : World} {B g R c : Nat} {a : Option Addr} {rs : List (List Int)} (h : Ct w B g (.slice a R c) rs) (hR : R = rs.length) (n : Nat) (hn : n < R) :
    ∃ b, a = some ⟨b, 0, none⟩ ∧ w.cell? ⟨b, n, none⟩ = some (.slice (some ⟨g, (rs.take n).flatten.length, none⟩) (rs.getD n []).length (rs.getD n []).length) := by
  obtain ⟨vs, h1, h2, h3⟩ := h
  subst hR
  rcases h2.2 with ⟨hv, h0⟩ | ⟨b, c, cur, hv, _⟩
  · omega
  · cases hv
    refine ⟨b, rfl, ?_⟩
    have e1 := World.ownsRow.cells h2 (g := b) rfl n _ (h3 n hn)
    rwa [add_zero3] at e1
theorem Ct.kept {w w' : World} {B g : Nat} {v : Value} {rs : List (List Int)} (h : Ct w B g v rs) (hg : w.grownBy w' (some g)) (hB : g < B) : Ct w' B g v rs := by
  obtain ⟨vs, h1, h2, h3⟩ := h
  refine ⟨vs, h1, h2.kept hg ?_, h3⟩
  rcases h2.2 with ⟨hv, h0⟩ | ⟨b, c, cur, hv, hb, _⟩
  · left; rw [hv]; rfl
  · right; rw [hv]; simp [Value.ownBlock]; omega
theorem Rn.full {w : World} {B : Nat} {v : Value} {l : List Int} (h : Rn B v l w) (hl : 0 < l.length) : ∃ g c, v = .slice (some ⟨g, 0, none⟩) l.length c ∧ l.length ≤ c ∧ B ≤ g ∧ g < w.heap.size := by
  rcases h.2 with ⟨hv, h0⟩ | ⟨g, cap, cur, hv, hB, hg, hc, _⟩
  · omega
  · exact ⟨g, cap, hv, hc, hB, (Array.getElem?_eq_some_iff.1 hg).1⟩
theorem Rn.at {w : World} {B g N cap : Nat} {l : List Int} (h : Rn B (.slice (some ⟨g, 0, none⟩) N cap) l w) (hN : N = l.length) : ∀ i, i < N → w.cell? ⟨g, i, none⟩ = some (.int .i32 (l.getD i 0)) := fun i hi => by
  subst hN
  rw [World.ownsRow.cellAt h i (by omega)]
  simp [List.getD, hi]

set_option maxHeartbeats 800000 in
theorem aruns_any (v : Value) (l : List Int) (w : World) (_ : Ly w) (hlen : l.length ≤ 1000) (hR : Row w v l) : Calls Try.prog 13 #[v] w fun e w' => ∃ v, e = .returned v ∧ RR w' v (runsL cls l) ∧ Below w.heap.size w w' := by
  have HC := hide (clone_any v l w hlen hR)
  clear hR
  by_cases h0 : 0 < l.length
  · have HCU := hide cut_some
    have HFL := hide (runs_flat (c := cls) l)
    go_enter Try.func13, Try.ntmps13
    go_wp2_with (first
      | (go_at_call 17; refine (unhide HC).mono ?_; rintro e w1 ⟨v1, rfl, r1, b1⟩; obtain ⟨g1, c1, rfl, hc1, hB1, hg1⟩ := r1.full h0; have R1 := hide r1; clear r1)
      | (go_at_call 18; refine (unhide HCU g1 _ c1 l w1 hlen rfl h0 hc1 (Rn.at (unhide R1) rfl)).mono ?_; rintro e w2 ⟨v2, rfl, ct2, b2⟩))
    go_ret
    refine ⟨_, rfl, ?_, b1.trans (b2.mono b1.size)⟩
    refine Ct.rr (C := w.heap.size) (N := l.length) (cap := c1) (g := g1) ct2 (by rw [unhide HFL]) ?_
    rw [unhide HFL]
    exact (unhide R1).below b2
  · obtain rfl : l = [] := List.length_eq_zero_iff.1 (by omega)
    have HCU := hide cut_empty
    go_enter Try.func13, Try.ntmps13
    go_wp2_with (first
      | (go_at_call 17; refine (unhide HC).mono ?_; rintro e w1 ⟨v1, rfl, r1, b1⟩; obtain ⟨a1, c1, hv1⟩ := r1.shape; subst hv1; clear r1)
      | (go_at_call 18; refine (unhide HCU a1 c1 w1 0).mono ?_; rintro e w2 ⟨v2, rfl, ct2, b2⟩))
    go_ret
    refine ⟨_, rfl, ?_, b1.trans (b2.mono b1.size)⟩
    obtain ⟨a2, c2, rfl⟩ := ct2.shape
    exact ⟨a2, c2, rfl, fun h => by simp [runsL, rfold, rfin] at h⟩

theorem take_drop_run (rs : List (List Int)) (n : Nat) (h : n < rs.length) : (rs.drop n).flatten = rs.getD n [] ++ (rs.drop (n + 1)).flatten := by
  rw [List.drop_eq_getElem_cons h, List.flatten_cons]
  simp [List.getD, h]
theorem srt_flat_len (rs : List (List Int)) : (rs.flatMap (srt cls Kls)).length = rs.flatten.length := by
  induction rs with
  | nil => rfl
  | cons r rs ih => rw [List.flatMap_cons, List.flatten_cons, List.length_append, List.length_append, ih, srt_len Kls_rise r fun x _ => cls_in x]
theorem srt_take (rs : List (List Int)) (n : Nat) (h : n < rs.length) : (rs.take (n + 1)).flatMap (srt cls Kls) = (rs.take n).flatMap (srt cls Kls) ++ srt cls Kls (rs.getD n []) := by
  have e : rs.take (n + 1) = rs.take n ++ [rs.getD n []] := by
    rw [List.take_succ_eq_append_getElem h]; simp [List.getD, h]
  rw [e, List.flatMap_append]
  simp
/-- The row while n of its runs are settled. -/
def rowAt (rs : List (List Int)) (n : Nat) : List Int := (rs.take n).flatMap (srt cls Kls) ++ (rs.drop n).flatten
theorem rowAt_len (rs : List (List Int)) (n : Nat) : (rowAt rs n).length = rs.flatten.length := by
  unfold rowAt
  rw [List.length_append, srt_flat_len, ← List.length_append, ← List.flatten_append, List.take_append_drop]
set_option maxHeartbeats 3200000 in
theorem aord_any (v : Value) (l : List Int) (w : World) (_ : Ly w) (hlen : l.length ≤ 1000) (hR : Row w v l) : Calls Try.prog 9 #[v] w fun e w' => ∃ v, e = .returned v ∧ Row w' v (ordL cls Kls l) ∧ Below w.heap.size w w' := by
  have HC := hide (clone_any v l w hlen hR)
  clear hR
  by_cases h0 : 0 < l.length
  · have HCU := hide cut_some
    have HFL := hide (runs_flat (c := cls) l)
    have HRY := hide (runs_runny (c := cls) l).1
    have HST := hide settle_any
    have hrl := runs_len l
    have HEND : Hid (ordL cls Kls l = rowAt (runsL cls l) (runsL cls l).length) := by show _ = _; unfold rowAt ordL; simp
    obtain ⟨N, hN⟩ : ∃ N, N = l.length := ⟨_, rfl⟩
    rw [← hN] at h0 hlen hrl
    have HNL := hide hN
    clear hN
    go_enter Try.func9, Try.ntmps9
    go_wp2_with (first
      | (go_at_call 17; refine (unhide HC).mono ?_; rintro e w1 ⟨v1, rfl, r1, b1⟩; obtain ⟨g1, c1, hv1, hc1, hB1, hg1⟩ := r1.full (by rw [← unhide HNL]; exact h0); rw [← unhide HNL] at hv1 hc1; subst hv1; have R1 := hide r1; clear r1)
      | (go_at_call 18; refine (unhide HCU g1 _ c1 l w1 hlen (unhide HNL) h0 hc1 (Rn.at (unhide R1) (unhide HNL))).mono ?_; rintro e w2 ⟨v2, rfl, ct2, b2⟩; generalize runsL cls l = rs at *; obtain ⟨a2, c2, hv2⟩ := ct2.shape; obtain ⟨R, hRn⟩ : ∃ R, R = rs.length := ⟨_, rfl⟩; rw [← hRn] at hv2 hrl; have HRN := hide hRn; clear hRn; subst hv2; have CT := hide ct2; clear ct2; have R2 := hide ((unhide R1).below b2); have hb2 := b1.trans (b2.mono b1.size)))
    have HR0 : Hid (Rn w.heap.size (.slice (some ⟨g1, 0, none⟩) N c1) (rowAt rs 0) w2) := by
      have h := unhide R2
      show Rn _ _ _ _
      unfold rowAt
      rw [List.take_zero, List.drop_zero, unhide HFL]
      exact h
    have HNR : Hid (∀ n, N = (rowAt rs n).length) := fun n => by rw [rowAt_len, unhide HFL]; exact unhide HNL
    go_loopw [11] (fun i wr => ∃ n : Nat, n ≤ R ∧ i = .int .i64 (n : Int) ∧ Hid (Rn w.heap.size (.slice (some ⟨g1, 0, none⟩) N c1) (rowAt rs n) wr) ∧ Hid (Ct wr w1.heap.size g1 (.slice a2 R c2) rs) ∧ Below w.heap.size w wr) (fun i _ => R - (intOf i).toNat)
    case atStart => exact ⟨0, Nat.zero_le _, rfl, HR0, CT, hb2⟩
    case round =>
      clear HR0 R1 R2 CT
      obtain ⟨n, hn, rfl, RK, CK, hb⟩ := hrel
      by_cases hlt : n < R
      · have hzl : (n : Int) < (R : Int) := by omega
        have hz0 : (0 : Int) ≤ (n : Int) := by omega
        obtain ⟨b, rfl, hcell⟩ := (unhide CK).at (unhide HRN) n hlt
        have hlr : n < rs.length := by rw [← unhide HRN]; exact hlt
        have HAL := hide (srt_flat_len (rs.take n))
        have HRA : Hid (rowAt rs n = (rs.take n).flatMap (srt cls Kls) ++ (rs.getD n [] ++ (rs.drop (n + 1)).flatten)) := by show _ = _; unfold rowAt; rw [take_drop_run rs n hlr]
        have HRB : Hid (rowAt rs (n + 1) = (rs.take n).flatMap (srt cls Kls) ++ (srt cls Kls (rs.getD n []) ++ (rs.drop (n + 1)).flatten)) := by show _ = _; unfold rowAt; rw [srt_take rs n hlr, List.append_assoc]
        have HRY2 := hide (unhide HRY (rs.getD n []) (by simp [List.getD, hlr]))
        have HN2 := hide (unhide HNR n)
        rw [unhide HRA] at RK HN2
        clear HRA hlr
        generalize (rs.take n).flatMap (srt cls Kls) = A at *
        generalize rs.getD n [] = r at *
        generalize (rs.drop (n + 1)).flatten = Z at *
        have HSE := hide (unhide HST w.heap.size g1 N c1 r.length (rs.take n).flatten.length r.length A r Z wr hlen (unhide HN2) (unhide HAL).symm rfl (List.length_pos_iff.2 (unhide HRY2).1) (unhide HRY2).2 (unhide RK))
        generalize (rs.take n).flatten.length = off at *
        generalize r.length = rl at *
        go_wp2_with (go_at_call 19; refine (unhide HSE).mono ?_; rintro e w3 ⟨rfl, rn3, gb3⟩)
        go_roundw
        case rel => exact ⟨n + 1, by omega, by go_num, by show Rn _ _ _ _; rw [unhide HRB]; exact rn3, (unhide CK).kept gb3 hg1, hb.trans (below_own gb3 hb.size (fun g h => by cases h; exact hB1))⟩
        case measure => simp [intOf]; omega
      · have hzl : ¬ (n : Int) < (R : Int) := by omega
        obtain rfl : n = R := by omega
        rw [← unhide HRN] at HEND
        rw [← unhide HEND] at RK
        have HRW := hide (unhide RK).row
        go_wp2
        go_ret
        exact ⟨_, rfl, unhide HRW, hb⟩
  · obtain rfl : l = [] := List.length_eq_zero_iff.1 (by omega)
    have HCU := hide cut_empty
    have HE : Hid (ordL cls Kls [] = []) := by show _ = _; rfl
    go_enter Try.func9, Try.ntmps9
    go_wp2_with (first
      | (go_at_call 17; refine (unhide HC).mono ?_; rintro e w1 ⟨v1, rfl, r1, b1⟩; obtain ⟨a1, c1, hv1⟩ := r1.shape; subst hv1; clear r1)
      | (go_at_call 18; refine (unhide HCU a1 c1 w1 0).mono ?_; rintro e w2 ⟨v2, rfl, ct2, b2⟩; obtain ⟨a2, c2, hv2⟩ := ct2.shape; subst hv2; clear ct2))
    refine wp_loop_rounds 1 ?_
    rw [rounds_succ]
    go_wp2
    go_ret
    refine ⟨_, rfl, ?_, b1.trans (b2.mono b1.size)⟩
    rw [unhide HE]
    exact Row.nil _ _ _
end Go.Proofs.Ytlbigebaepecpaa
