/- The document's Order. -/
import Derived.Test.YticgeabmhmojfaaGreatDoorM08
import Derived.Test.YticgeabmhmojfaaGreatDoorM02
import Derived.Test.YticgeabmhmojfaaGreatDoorM09
import Derived.Test.YticgeabmhmojfaaGreatDoorM01
import Derived.Test.YticgeabmhmojfaaGreatDoorM03
import Derived.Test.YticgeabmhmojfaaGreatDoorM04
import Derived.Test.YticgeabmhmojfaaGreatDoorM05
import Derived.WalkMore
import Derived.Test.YticgeabmhmojfaaGreatDoorM06
namespace Go.Proofs.YticgeabmhmojfaaGreatDoor
set_option maxRecDepth 100000
open Go.RowKit

/-- The classes one behind the other, and one beyond. -/
def kAt (t : Nat) : Int := if t = 0 then 0 else if t = 1 then 8 else if t = 2 then 202 else if t = 3 then 220 else if t = 4 then 230 else 231
def kStep (t : Nat) : Int := if t = 0 then 8 else if t = 1 then 194 else if t = 2 then 18 else if t = 3 then 10 else 1
theorem k_next (t : Nat) (h : t < 5) : kAt t + kStep t = kAt (t + 1) := by
  match t, h with
  | 0, _ => rfl
  | 1, _ => rfl
  | 2, _ => rfl
  | 3, _ => rfl
  | 4, _ => rfl
theorem k_le (t : Nat) (h : t < 5) : kAt t ≤ 230 ∧ 0 ≤ kAt t := by
  match t, h with
  | 0, _ => decide
  | 1, _ => decide
  | 2, _ => decide
  | 3, _ => decide
  | 4, _ => decide
theorem k_take (t : Nat) (h : t < 5) : Kls.take (t + 1) = Kls.take t ++ [kAt t] := by
  match t, h with
  | 0, _ => rfl
  | 1, _ => rfl
  | 2, _ => rfl
  | 3, _ => rfl
  | 4, _ => rfl
theorem ofK_len (c : Int → Int) (k : Int) (r : List Int) : (ofK c k r).length ≤ r.length := List.length_filter_le _ _
theorem ofK_take (c : Int → Int) (k : Int) (r : List Int) (j : Nat) (h : j < r.length) : ofK c k (r.take (j + 1)) = ofK c k (r.take j) ++ if c (r.getD j 0) = k then [r.getD j 0] else [] := by
  rw [take_snoc r j h, ofK_append]
  congr 1
  generalize r.getD j 0 = x
  by_cases e : c x = k
  · rw [if_pos e]; simp [ofK, e]
  · rw [if_neg e]; simp [ofK, e]
/-- What the first t classes give of a run. -/
def prt (t : Nat) (r : List Int) : List Int := (Kls.take t).flatMap fun k => ofK cls k r
theorem prt_next (t : Nat) (h : t < 5) (r : List Int) : prt (t + 1) r = prt t r ++ ofK cls (kAt t) r := by
  unfold prt
  rw [k_take t h, List.flatMap_append]
  simp
theorem prt_all (r : List Int) : prt 5 r = srt cls Kls r := rfl
theorem part_len (t : Nat) (r : List Int) : (prt t r).length ≤ 5 * r.length := by
  unfold prt
  have : ∀ M : List Int, (M.flatMap fun k => ofK cls k r).length ≤ M.length * r.length := by
    intro M
    induction M with
    | nil => simp
    | cons k M ih =>
      have := ofK_len cls k r
      rw [List.flatMap_cons, List.length_append, List.length_cons, Nat.add_mul]
      omega
  refine Nat.le_trans (this _) (Nat.mul_le_mul_right _ ?_)
  rw [List.length_take]
  exact Nat.min_le_right _ _
theorem flat_len (r : List Int) (rs : List (List Int)) (h : r ∈ rs) : r.length ≤ rs.flatten.length := by
  induction rs with
  | nil => simp at h
  | cons q rs ih =>
    rw [List.flatten_cons, List.length_append]
    rcases List.mem_cons.1 h with rfl | h
    · omega
    · have := ih h; omega
theorem runs_getD_len (l : List Int) (i : Nat) : ((runsL cls l).getD i []).length ≤ l.length := by
  by_cases h : i < (runsL cls l).length
  · have hf := congrArg List.length (runs_flat (c := cls) l)
    have hm : (runsL cls l).getD i [] ∈ runsL cls l := by simp [List.getD, h]
    have := flat_len _ _ hm
    omega
  · have : (runsL cls l).getD i [] = [] := by simp [List.getD, Nat.not_lt.1 h]
    rw [this]; simp
theorem runs_len (l : List Int) : (runsL cls l).length ≤ l.length := by
  have hf := congrArg List.length (runs_flat (c := cls) l)
  have hne := (runs_runny (c := cls) l).1
  generalize runsL cls l = rs at hf hne
  rw [← hf]
  clear hf
  induction rs with
  | nil => simp
  | cons r rs ih =>
    have := ih fun q hq => hne q (by simp [hq])
    have h1 : 0 < r.length := List.length_pos_iff.2 (hne r (by simp)).1
    simp only [List.length_cons, List.flatten_cons, List.length_append]
    omega
theorem done_len (l : List Int) (i : Nat) : (((runsL cls l).take i).flatMap (srt cls Kls)).length ≤ l.length := by
  have h1 : ∀ rs : List (List Int), (rs.flatMap (srt cls Kls)).length = rs.flatten.length := by
    intro rs
    induction rs with
    | nil => rfl
    | cons r rs ih => rw [List.flatMap_cons, List.flatten_cons, List.length_append, List.length_append, ih, srt_len Kls_rise r fun x _ => cls_in x]
  rw [h1]
  have h2 := congrArg List.length (runs_flat (c := cls) l)
  rw [← List.take_append_drop i (runsL cls l), List.flatten_append, List.length_append] at h2
  omega
theorem done_take (l : List Int) (i : Nat) (h : i < (runsL cls l).length) : ((runsL cls l).take (i + 1)).flatMap (srt cls Kls) = ((runsL cls l).take i).flatMap (srt cls Kls) ++ srt cls Kls ((runsL cls l).getD i []) := by
  have e : (runsL cls l).take (i + 1) = (runsL cls l).take i ++ [(runsL cls l).getD i []] := by
    rw [List.take_succ_eq_append_getElem h]; simp [List.getD, h]
  rw [e, List.flatMap_append]
  simp

end Go.Proofs.YticgeabmhmojfaaGreatDoor
/- The document's Same of layer 1, of two lists that are the same. -/
namespace Go.Proofs.YticgeabmhmojfaaGreatDoor
set_option maxRecDepth 100000
open Go.RowKit

end Go.Proofs.YticgeabmhmojfaaGreatDoor
/- The document's Same of runes, of any two rows. -/
namespace Go.Proofs.YticgeabmhmojfaaGreatDoor
set_option maxRecDepth 100000
open Go.RowKit

theorem ilist_ext (l1 l2 : List Int) (hl : l1.length = l2.length) (h : ∀ j, j < l1.length → l1.getD j 0 = l2.getD j 0) : l1 = l2 := by
  apply List.ext_getElem hl
  intro i h1 h2
  have := h i h1
  simpa [List.getD, h1, h2] using this

end Go.Proofs.YticgeabmhmojfaaGreatDoor
/- Contracts of the landed arrange: Order, Ordered, Runs, of any row of at most a thousand numbers. -/
namespace Go.Proofs.YticgeabmhmojfaaGreatDoor
set_option maxRecDepth 100000
open Go.RowKit

def Ly6 (_ : World) : Prop := True
theorem Ly6.keep {w w2 : World} (_ : Ly6 w) (_ : Below w.heap.size w w2) : Ly6 w2 := trivial

theorem aordd_any (v : Value) (l : List Int) (w : World) (_ : Ly6 w) (hlen : l.length ≤ 1000) (hR : Row w v l) : Calls Tryz.prog 62 #[v] w fun e w' => e = .returned (.bool (ordered cls l)) ∧ Below w.heap.size w w' := by
  refine (aordd_gr v l w (by omega) hR).mono ?_
  rintro e w1 ⟨rfl, hg⟩
  exact ⟨rfl, hg.below⟩

theorem flat_at : ∀ (rs : List (List Int)) (i j : Nat), i < rs.length → j < (rs.getD i []).length → (rs.take i).flatten.length + j < rs.flatten.length ∧ rs.flatten.getD ((rs.take i).flatten.length + j) 0 = (rs.getD i []).getD j 0
  | [], _, _, h, _ => by simp at h
  | r :: rs, 0, j, _, hj => by
    have hj' : j < r.length := hj
    refine ⟨by simp; omega, ?_⟩
    have e : (r :: rs).getD 0 [] = r := rfl
    rw [e]
    simp [List.getD, List.getElem?_append_left hj']
  | r :: rs, i + 1, j, h, hj => by
    have e : (r :: rs).getD (i + 1) [] = rs.getD i [] := rfl
    rw [e] at hj ⊢
    obtain ⟨h1, h2⟩ := flat_at rs i j (by simpa using h) hj
    rw [List.take_succ_cons, List.flatten_cons, List.flatten_cons, List.length_append, List.length_append]
    refine ⟨by omega, ?_⟩
    rw [← h2]
    have e2 : r.length + (rs.take i).flatten.length + j = r.length + ((rs.take i).flatten.length + j) := by omega
    rw [e2]
    simp [List.getD, List.getElem?_append_right]
/-- Runs that lie in a row are read as runs. -/
theorem Ct.rr {w : World} {B C g N cap : Nat} {v : Value} {rs : List (List Int)} (h : Ct w B g v rs) (hN : N = rs.flatten.length) (hR : Rn C (.slice (some ⟨g, 0, none⟩) N cap) rs.flatten w) : RR w v rs := by
  obtain ⟨vs, h1, h2, h3⟩ := h
  subst hN
  rcases h2.2 with ⟨hv, h0⟩ | ⟨b, c, cur, hv, _⟩
  · exact ⟨none, 0, by rw [hv, h0], fun hi => by omega⟩
  · refine ⟨some ⟨b, 0, none⟩, c, hv, fun _ => ⟨b, 0, rfl, fun i hi => ?_⟩⟩
    have e1 := World.ownsRow.cells h2 (g := b) (by rw [hv]; rfl) i _ (h3 i hi)
    rw [add_zero3] at e1
    refine ⟨g, (rs.take i).flatten.length, _, by rw [Nat.zero_add]; exact e1, fun j hj => ?_⟩
    obtain ⟨k1, k2⟩ := flat_at rs i j hi hj
    rw [World.ownsRow.cellAt hR _ (by omega), ← k2]
    generalize rs.flatten = l at *
    generalize (rs.take i).flatten.length + j = m at *
    simp [List.getD, k1]
theorem Ct.at {w : World} {B g R c : Nat} {a : Option Addr} {rs : List (List Int)} (h : Ct w B g (.slice a R c) rs) (hR : R = rs.length) (n : Nat) (hn : n < R) :
    ∃ b, a = some ⟨b, 0, none⟩ ∧ w.cell? ⟨b, n, none⟩ = some (.slice (some ⟨g, (rs.take n).flatten.length, none⟩) (rs.getD n []).length (rs.getD n []).length) := by
  obtain ⟨vs, h1, h2, h3⟩ := h
  subst hR
  rcases h2.2 with ⟨hv, h0⟩ | ⟨b, c, cur, hv, _⟩
  · omega
  · cases hv
    refine ⟨b, rfl, ?_⟩
    have e1 := World.ownsRow.cells h2 (g := b) rfl n _ (h3 n hn)
    rwa [add_zero3] at e1
theorem Ct.kept {w w' : World} {B g : Nat} {v : Value} {rs : List (List Int)} (h : Ct w B g v rs) (hg : w.grownBy w' (some g)) (hB : g < B) : Ct w' B g v rs := by
  obtain ⟨vs, h1, h2, h3⟩ := h
  refine ⟨vs, h1, h2.kept hg ?_, h3⟩
  rcases h2.2 with ⟨hv, h0⟩ | ⟨b, c, cur, hv, hb, _⟩
  · left; rw [hv]; rfl
  · right; rw [hv]; simp [Value.ownBlock]; omega
theorem Rn.full {w : World} {B : Nat} {v : Value} {l : List Int} (h : Rn B v l w) (hl : 0 < l.length) : ∃ g c, v = .slice (some ⟨g, 0, none⟩) l.length c ∧ l.length ≤ c ∧ B ≤ g ∧ g < w.heap.size := by
  rcases h.2 with ⟨hv, h0⟩ | ⟨g, cap, cur, hv, hB, hg, hc, _⟩
  · omega
  · exact ⟨g, cap, hv, hc, hB, (Array.getElem?_eq_some_iff.1 hg).1⟩
theorem Rn.at {w : World} {B g N cap : Nat} {l : List Int} (h : Rn B (.slice (some ⟨g, 0, none⟩) N cap) l w) (hN : N = l.length) : ∀ i, i < N → w.cell? ⟨g, i, none⟩ = some (.int .i32 (l.getD i 0)) := fun i hi => by
  subst hN
  rw [World.ownsRow.cellAt h i (by omega)]
  simp [List.getD, hi]

theorem take_drop_run (rs : List (List Int)) (n : Nat) (h : n < rs.length) : (rs.drop n).flatten = rs.getD n [] ++ (rs.drop (n + 1)).flatten := by
  rw [List.drop_eq_getElem_cons h, List.flatten_cons]
  simp [List.getD, h]
theorem srt_flat_len (rs : List (List Int)) : (rs.flatMap (srt cls Kls)).length = rs.flatten.length := by
  induction rs with
  | nil => rfl
  | cons r rs ih => rw [List.flatMap_cons, List.flatten_cons, List.length_append, List.length_append, ih, srt_len Kls_rise r fun x _ => cls_in x]
theorem srt_take (rs : List (List Int)) (n : Nat) (h : n < rs.length) : (rs.take (n + 1)).flatMap (srt cls Kls) = (rs.take n).flatMap (srt cls Kls) ++ srt cls Kls (rs.getD n []) := by
  have e : rs.take (n + 1) = rs.take n ++ [rs.getD n []] := by
    rw [List.take_succ_eq_append_getElem h]; simp [List.getD, h]
  rw [e, List.flatMap_append]
  simp
/-- The row while n of its runs are settled. -/
def rowAt (rs : List (List Int)) (n : Nat) : List Int := (rs.take n).flatMap (srt cls Kls) ++ (rs.drop n).flatten
theorem rowAt_len (rs : List (List Int)) (n : Nat) : (rowAt rs n).length = rs.flatten.length := by
  unfold rowAt
  rw [List.length_append, srt_flat_len, ← List.length_append, ← List.flatten_append, List.take_append_drop]
set_option maxHeartbeats 3200000 in
theorem aord_any (v : Value) (l : List Int) (w : World) (_ : Ly6 w) (hlen : l.length ≤ 1000) (hR : Row w v l) : Calls Tryz.prog 28 #[v] w fun e w' => ∃ v, e = .returned v ∧ Row w' v (ordL cls Kls l) ∧ Below w.heap.size w w' := by
  have HC := hide (clone_any v l w hlen hR)
  clear hR
  by_cases h0 : 0 < l.length
  · have HCU := hide cut_some
    have HFL := hide (runs_flat (c := cls) l)
    have HRY := hide (runs_runny (c := cls) l).1
    have HST := hide settle_any
    have hrl := runs_len l
    have HEND : Hid (ordL cls Kls l = rowAt (runsL cls l) (runsL cls l).length) := by show _ = _; unfold rowAt ordL; simp
    obtain ⟨N, hN⟩ : ∃ N, N = l.length := ⟨_, rfl⟩
    rw [← hN] at h0 hlen hrl
    have HNL := hide hN
    clear hN
    go_enter Tryz.func28, Tryz.ntmps28
    go_wp2_with (first
      | (go_at_call 43; refine (unhide HC).mono ?_; rintro e w1 ⟨v1, rfl, r1, b1⟩; obtain ⟨g1, c1, hv1, hc1, hB1, hg1⟩ := r1.full (by rw [← unhide HNL]; exact h0); rw [← unhide HNL] at hv1 hc1; subst hv1; have R1 := hide r1; clear r1)
      | (go_at_call 44; refine (unhide HCU g1 _ c1 l w1 hlen (unhide HNL) h0 hc1 (Rn.at (unhide R1) (unhide HNL))).mono ?_; rintro e w2 ⟨v2, rfl, ct2, b2⟩; generalize runsL cls l = rs at *; obtain ⟨a2, c2, hv2⟩ := ct2.shape; obtain ⟨R, hRn⟩ : ∃ R, R = rs.length := ⟨_, rfl⟩; rw [← hRn] at hv2 hrl; have HRN := hide hRn; clear hRn; subst hv2; have CT := hide ct2; clear ct2; have R2 := hide ((unhide R1).below b2); have hb2 := b1.trans (b2.mono b1.size)))
    have HR0 : Hid (Rn w.heap.size (.slice (some ⟨g1, 0, none⟩) N c1) (rowAt rs 0) w2) := by
      have h := unhide R2
      show Rn _ _ _ _
      unfold rowAt
      rw [List.take_zero, List.drop_zero, unhide HFL]
      exact h
    have HNR : Hid (∀ n, N = (rowAt rs n).length) := fun n => by rw [rowAt_len, unhide HFL]; exact unhide HNL
    go_loopw [11] (fun i wr => ∃ n : Nat, n ≤ R ∧ i = .int .i64 (n : Int) ∧ Hid (Rn w.heap.size (.slice (some ⟨g1, 0, none⟩) N c1) (rowAt rs n) wr) ∧ Hid (Ct wr w1.heap.size g1 (.slice a2 R c2) rs) ∧ Below w.heap.size w wr) (fun i _ => R - (intOf i).toNat)
    case atStart => exact ⟨0, Nat.zero_le _, rfl, HR0, CT, hb2⟩
    case round =>
      clear HR0 R1 R2 CT
      obtain ⟨n, hn, rfl, RK, CK, hb⟩ := hrel
      by_cases hlt : n < R
      · have hzl : (n : Int) < (R : Int) := by omega
        have hz0 : (0 : Int) ≤ (n : Int) := by omega
        obtain ⟨b, rfl, hcell⟩ := (unhide CK).at (unhide HRN) n hlt
        have hlr : n < rs.length := by rw [← unhide HRN]; exact hlt
        have HAL := hide (srt_flat_len (rs.take n))
        have HRA : Hid (rowAt rs n = (rs.take n).flatMap (srt cls Kls) ++ (rs.getD n [] ++ (rs.drop (n + 1)).flatten)) := by show _ = _; unfold rowAt; rw [take_drop_run rs n hlr]
        have HRB : Hid (rowAt rs (n + 1) = (rs.take n).flatMap (srt cls Kls) ++ (srt cls Kls (rs.getD n []) ++ (rs.drop (n + 1)).flatten)) := by show _ = _; unfold rowAt; rw [srt_take rs n hlr, List.append_assoc]
        have HRY2 := hide (unhide HRY (rs.getD n []) (by simp [List.getD, hlr]))
        have HN2 := hide (unhide HNR n)
        rw [unhide HRA] at RK HN2
        clear HRA hlr
        generalize (rs.take n).flatMap (srt cls Kls) = A at *
        generalize rs.getD n [] = r at *
        generalize (rs.drop (n + 1)).flatten = Z at *
        have HSE := hide (unhide HST w.heap.size g1 N c1 r.length (rs.take n).flatten.length r.length A r Z wr hlen (unhide HN2) (unhide HAL).symm rfl (List.length_pos_iff.2 (unhide HRY2).1) (unhide HRY2).2 (unhide RK))
        generalize (rs.take n).flatten.length = off at *
        generalize r.length = rl at *
        go_wp2_with (go_at_call 45; refine (unhide HSE).mono ?_; rintro e w3 ⟨rfl, rn3, gb3⟩)
        go_roundw
        case rel => exact ⟨n + 1, by omega, by go_num, by show Rn _ _ _ _; rw [unhide HRB]; exact rn3, (unhide CK).kept gb3 hg1, hb.trans (below_own gb3 hb.size (fun g h => by cases h; exact hB1))⟩
        case measure => simp [intOf]; omega
      · have hzl : ¬ (n : Int) < (R : Int) := by omega
        obtain rfl : n = R := by omega
        rw [← unhide HRN] at HEND
        rw [← unhide HEND] at RK
        have HRW := hide (unhide RK).row
        go_wp2
        go_ret
        exact ⟨_, rfl, unhide HRW, hb⟩
  · obtain rfl : l = [] := List.length_eq_zero_iff.1 (by omega)
    have HCU := hide cut_empty
    have HE : Hid (ordL cls Kls [] = []) := by show _ = _; rfl
    go_enter Tryz.func28, Tryz.ntmps28
    go_wp2_with (first
      | (go_at_call 43; refine (unhide HC).mono ?_; rintro e w1 ⟨v1, rfl, r1, b1⟩; obtain ⟨a1, c1, hv1⟩ := r1.shape; subst hv1; clear r1)
      | (go_at_call 44; refine (unhide HCU a1 c1 w1 0).mono ?_; rintro e w2 ⟨v2, rfl, ct2, b2⟩; obtain ⟨a2, c2, hv2⟩ := ct2.shape; subst hv2; clear ct2))
    refine wp_loop_rounds 1 ?_
    rw [rounds_succ]
    go_wp2
    go_ret
    refine ⟨_, rfl, ?_, b1.trans (b2.mono b1.size)⟩
    rw [unhide HE]
    exact Row.nil _ _ _
end Go.Proofs.YticgeabmhmojfaaGreatDoor
/- The document's rows of layer 9. -/
namespace Go.Proofs.YticgeabmhmojfaaGreatDoor
set_option maxRecDepth 100000
open Go.RowKit

def foc (o : Fo) : List Value := [.int .i32 o.f, .int .i32 o.t, .int .i32 o.s, .int .i32 o.u]
def focs (l : List Fo) : List Value := l.flatMap foc
theorem focs_get (l : List Fo) (k : Nat) (h : k < l.length) : (focs l)[k * 4]? = some (.int .i32 (l.getD k fo0).f) ∧ (focs l)[k * 4 + 1]? = some (.int .i32 (l.getD k fo0).t) ∧ (focs l)[k * 4 + 2]? = some (.int .i32 (l.getD k fo0).s) ∧ (focs l)[k * 4 + 3]? = some (.int .i32 (l.getD k fo0).u) := by
  induction l generalizing k with
  | nil => simp at h
  | cons s l ih =>
    cases k with
    | zero => simp [focs, foc]
    | succ k =>
      have := ih k (by simpa using h)
      have e : focs (s :: l) = foc s ++ focs l := by simp [focs]
      rw [e, show (k + 1) * 4 = 4 + k * 4 by omega, show 4 + k * 4 + 1 = 4 + (k * 4 + 1) by omega, show 4 + k * 4 + 2 = 4 + (k * 4 + 2) by omega, show 4 + k * 4 + 3 = 4 + (k * 4 + 3) by omega]
      have hl : (foc s).length = 4 := rfl
      rw [List.getElem?_append_right (by omega), List.getElem?_append_right (by omega), List.getElem?_append_right (by omega), List.getElem?_append_right (by omega), hl]
      simpa using this
def cells9 : Array Value := (focs rows9).toArray
def frame9 : Act := { tmps := (.slice none 0 0 :: ((rows9.map fun s => Value.agg (foc s).toArray) ++ [undef])).toArray, defers := [] }
def frame9' (x v : Value) : Act := { tmps := (x :: ((rows9.map fun s => Value.agg (foc s).toArray) ++ [v])).toArray, defers := [] }

end Go.Proofs.YticgeabmhmojfaaGreatDoor
/- The document's One of layer 9. -/
namespace Go.Proofs.YticgeabmhmojfaaGreatDoor
set_option maxRecDepth 100000
open Go.RowKit

theorem inF_yes {f t s u r : Int} (h1 : f ≤ r) (h2 : r ≤ t) (h3 : (r - f) % s = 0) : inF ⟨f, t, s, u⟩ r = true := decide_eq_true ⟨h1, h2, h3⟩
theorem inF_no {f t s u r : Int} (h : ¬ (f ≤ r ∧ r ≤ t ∧ (r - f) % s = 0)) : inF ⟨f, t, s, u⟩ r = false := decide_eq_false h

end Go.Proofs.YticgeabmhmojfaaGreatDoor
/- The document's Map and Folded of layer 9. -/
namespace Go.Proofs.YticgeabmhmojfaaGreatDoor
set_option maxRecDepth 100000
open Go.RowKit

def In32' (r : Int) : Prop := -2147483648 ≤ r ∧ r ≤ 2147483647
/-- What a character is mapped to. -/
def mapO (fo : Bool) (r : Int) : List Int := if kd r = 6 then [] else if kd r = 5 then [32] else if fo then foldL r else [r]
def mapL (fo : Bool) (l : List Int) : List Int := l.flatMap (mapO fo)
theorem mapO_len (fo : Bool) (r : Int) : (mapO fo r).length ≤ 3 := by
  unfold mapO
  split
  · simp
  · split
    · simp
    · split
      · exact (fold_len r).2
      · simp
theorem mapL_len (fo : Bool) (l : List Int) : (mapL fo l).length ≤ 3 * l.length := by
  induction l with
  | nil => simp [mapL]
  | cons x l ih =>
    have := mapO_len fo x
    unfold mapL at ih ⊢
    rw [List.flatMap_cons, List.length_append, List.length_cons]
    omega
theorem mapL_take (fo : Bool) (l : List Int) (k : Nat) (h : k < l.length) : mapL fo (l.take (k + 1)) = mapL fo (l.take k) ++ mapO fo (l.getD k 0) := by
  rw [take_snoc l k h]; simp [mapL]
theorem mapL_takeLen (fo : Bool) (l : List Int) (k : Nat) : (mapL fo (l.take k)).length ≤ 3 * l.length := Nat.le_trans (mapL_len fo _) (by rw [List.length_take]; omega)

end Go.Proofs.YticgeabmhmojfaaGreatDoor
/- The document's Folded of layer 9. -/
namespace Go.Proofs.YticgeabmhmojfaaGreatDoor
set_option maxRecDepth 100000
open Go.RowKit

theorem Rn.cell1 {w : World} {B g N cap : Nat} {y : Int} (h : Rn B (.slice (.some ⟨g, 0, none⟩) N cap) [y] w) : w.cell? ⟨g, 0, none⟩ = some (.int .i32 y) := Rn.last (t := []) h
theorem self_len {x : Int} (h : (foldL x).length ≠ 1) : selfF x = false := decide_eq_false fun e => h (by rw [e]; rfl)
theorem self_one {x y : Int} (h : foldL x = [y]) : selfF x = decide (y = x) := by unfold selfF; rw [h]; simp
theorem folded_bad {l : List Int} {k : Nat} (hk : k < l.length) (h : selfF (l.getD k 0) = false) : foldedB l = false := by
  unfold foldedB
  rw [List.all_eq_false]
  exact ⟨l.getD k 0, by simp [List.getD, hk], by rw [h]; simp⟩
theorem folded_good {l : List Int} (h : ∀ j, j < l.length → selfF (l.getD j 0) = true) : foldedB l = true := by
  unfold foldedB
  rw [List.all_eq_true]
  intro x hx
  obtain ⟨i, hi, e⟩ := List.mem_iff_getElem.1 hx
  have := h i hi
  simp only [List.getD, hi, List.getElem?_eq_getElem, Option.getD_some] at this
  rw [← e]; exact this

end Go.Proofs.YticgeabmhmojfaaGreatDoor
/- What is folded stays so; what was mapped has nothing that is left out, and no space but one: plainly. -/
namespace Go.Proofs.YticgeabmhmojfaaGreatDoor
set_option maxRecDepth 100000

/-- The numbers from a on, n of them. -/
def upto (a : Int) : Nat → List Int
  | 0 => []
  | n + 1 => a :: upto (a + 1) n
theorem mem_upto : ∀ (n : Nat) (a r : Int), a ≤ r → r < a + n → r ∈ upto a n
  | 0, a, r, h1, h2 => by omega
  | n + 1, a, r, h1, h2 => by
    by_cases e : r = a
    · simp [upto, e]
    · exact List.mem_cons_of_mem _ (mem_upto n (a + 1) r (by omega) (by push_cast at h2; omega))
/-- All that may be folded to something else. -/
def touched : List Int := upto 65 26 ++ [223, 304, 329, 64256, 64257, 64258, 64259, 64260, 64261] ++ rows9.flatMap fun o => upto o.f (o.t - o.f + 1).toNat
/-- What is asked of each. -/
def ok9 (r : Int) : Bool := (foldL r).all fun y => decide (foldL y = [y]) && (decide (kd r = 5) || decide (kd r = 6) || !(decide (kd y = 5) || decide (kd y = 6)))
theorem touched_ok : touched.all ok9 = true := by kernel_rfl
theorem rowF_self (r : Int) : ∀ l : List Fo, (∀ o, o ∈ l → ¬ (o.f ≤ r ∧ r ≤ o.t)) → rowF r l = [r]
  | [], _ => rfl
  | o :: m, h => by
    unfold rowF
    have : inF o r = false := decide_eq_false fun e => h o (by simp) ⟨e.1, e.2.1⟩
    rw [this]
    exact rowF_self r m fun q hq => h q (by simp [hq])
theorem fold_touched (r : Int) : foldL r = [r] ∨ r ∈ touched := by
  unfold foldL
  by_cases h0 : 0 ≤ r ∧ r < 128
  · rw [if_pos h0]
    by_cases h1 : 65 ≤ r ∧ r ≤ 90
    · exact .inr (by unfold touched; simp only [List.mem_append]; exact .inl (.inl (mem_upto 26 65 r h1.1 (by omega))))
    · rw [if_neg h1]; exact .inl rfl
  · rw [if_neg h0]
    cases hs : spec9 r with
    | some l =>
      refine .inr ?_
      unfold touched
      simp only [List.mem_append]
      refine .inl (.inr ?_)
      unfold spec9 at hs
      repeat' split at hs
      all_goals first | (subst_vars; simp; done) | cases hs
    | none =>
      simp only
      by_cases h : ∃ o, o ∈ rows9 ∧ (o.f ≤ r ∧ r ≤ o.t)
      · obtain ⟨o, ho, h1, h2⟩ := h
        refine .inr ?_
        unfold touched
        simp only [List.mem_append]
        exact .inr (List.mem_flatMap.2 ⟨o, ho, mem_upto _ _ _ h1 (by omega)⟩)
      · exact .inl (rowF_self r rows9 fun o ho e => h ⟨o, ho, e⟩)
theorem fold_ok (r : Int) : ok9 r = true := by
  rcases fold_touched r with h | h
  · unfold ok9
    rw [h]
    simp only [List.all_cons, List.all_nil, Bool.and_true]
    rw [h]
    by_cases h5 : kd r = 5 <;> by_cases h6 : kd r = 6 <;> simp [h5, h6]
  · exact List.all_eq_true.1 touched_ok r h
theorem fold_closed {r y : Int} (h : y ∈ foldL r) : foldL y = [y] ∧ (kd r ≠ 5 → kd r ≠ 6 → kd y ≠ 5 ∧ kd y ≠ 6) := by
  have := List.all_eq_true.1 (fold_ok r) y h
  simp only [Bool.and_eq_true, decide_eq_true_eq, Bool.or_eq_true, Bool.not_eq_true', Bool.or_eq_false_iff, decide_eq_false_iff_not] at this
  refine ⟨this.1, fun h5 h6 => ?_⟩
  rcases this.2 with (h' | h') | h'
  · exact absurd h' h5
  · exact absurd h' h6
  · exact h'
theorem kd_32 : kd 32 = 5 := by kernel_rfl
theorem fold_32 : foldL 32 = [32] := by kernel_rfl
/-- What was mapped: each is told so again. -/
theorem mapO_mem {fo : Bool} {r y : Int} (h : y ∈ mapO fo r) : kd y ≠ 6 ∧ (kd y = 5 → y = 32) ∧ (fo = true → foldL y = [y]) := by
  unfold mapO at h
  by_cases h6 : kd r = 6
  · rw [if_pos h6] at h; simp at h
  · rw [if_neg h6] at h
    by_cases h5 : kd r = 5
    · rw [if_pos h5] at h
      simp only [List.mem_cons, List.not_mem_nil, or_false] at h
      subst h
      exact ⟨by rw [kd_32]; decide, fun _ => rfl, fun _ => fold_32⟩
    · rw [if_neg h5] at h
      cases fo
      · simp only [Bool.false_eq_true, if_false, List.mem_cons, List.not_mem_nil, or_false] at h
        subst h
        exact ⟨h6, fun e => absurd e h5, fun e => by cases e⟩
      · simp only [if_true] at h
        obtain ⟨h1, h2⟩ := fold_closed h
        obtain ⟨h3, h4⟩ := h2 h5 h6
        exact ⟨h4, fun e => absurd e h3, fun _ => h1⟩
theorem mapO_self {fo : Bool} {y : Int} (h6 : kd y ≠ 6) (h5 : kd y = 5 → y = 32) (hf : fo = true → foldL y = [y]) : mapO fo y = [y] := by
  unfold mapO
  rw [if_neg h6]
  by_cases e : kd y = 5
  · rw [if_pos e, h5 e]
  · rw [if_neg e]
    cases fo
    · rfl
    · simp only [if_true]; exact hf rfl
theorem mapL_mem {fo : Bool} {l : List Int} {y : Int} (h : y ∈ mapL fo l) : kd y ≠ 6 ∧ (kd y = 5 → y = 32) ∧ (fo = true → foldL y = [y]) := by
  obtain ⟨r, _, h⟩ := List.mem_flatMap.1 h
  exact mapO_mem h
theorem flat_self {f : Int → List Int} : ∀ (l : List Int), (∀ x, x ∈ l → f x = [x]) → l.flatMap f = l
  | [], _ => rfl
  | x :: l, h => by rw [List.flatMap_cons, h x (by simp), flat_self l fun y hy => h y (by simp [hy])]; rfl
theorem mapL_again (fo : Bool) (l : List Int) : mapL fo (mapL fo l) = mapL fo l :=
  flat_self _ fun _ hx => let ⟨a, b, c⟩ := mapL_mem hx; mapO_self a b c
theorem mapL_folded (l : List Int) : foldedB (mapL true l) = true := by
  unfold foldedB
  rw [List.all_eq_true]
  exact fun x hx => decide_eq_true ((mapL_mem hx).2.2 rfl)
end Go.Proofs.YticgeabmhmojfaaGreatDoor
/- The program's own table and its named ones: the same as the document's, plainly. -/
namespace Go.Proofs.YticgeabmhmojfaaGreatDoor
set_option maxRecDepth 100000

def touched2 : List Int := nms9.map (·.1) ++ sts9.flatMap fun o => upto o.f (o.t - o.f + 1).toNat
theorem stL_self (r : Int) (hn : r ∉ nms9.map (·.1)) : ∀ l : List Fo, (∀ o, o ∈ l → ¬ (o.f ≤ r ∧ r ≤ o.t)) → stL r l = [r]
  | [], _ => namL_self r nms9 hn
  | o :: m, h => by
    unfold stL
    have : inF o r = false := decide_eq_false fun e => h o (by simp) ⟨e.1, e.2.1⟩
    rw [this]
    exact stL_self r hn m fun q hq => h q (by simp [hq])
theorem stL_touched (r : Int) : stL r sts9 = [r] ∨ r ∈ touched2 := by
  by_cases hn : r ∈ nms9.map (·.1)
  · exact .inr (List.mem_append.2 (.inl hn))
  · by_cases h : ∃ o, o ∈ sts9 ∧ (o.f ≤ r ∧ r ≤ o.t)
    · obtain ⟨o, ho, h1, h2⟩ := h
      exact .inr (List.mem_append.2 (.inr (List.mem_flatMap.2 ⟨o, ho, mem_upto _ _ _ h1 (by omega)⟩)))
    · exact .inl (stL_self r hn sts9 fun o ho e => h ⟨o, ho, e⟩)
theorem same_touched : ((touched ++ touched2).all fun r => decide (stL r sts9 = foldL r)) = true := by kernel_rfl
/-- The program's way and the document's. -/
theorem stL_fold (r : Int) : stL r sts9 = foldL r := by
  by_cases h : r ∈ touched ++ touched2
  · exact of_decide_eq_true (List.all_eq_true.1 same_touched r h)
  · simp only [List.mem_append, not_or] at h
    rcases fold_touched r with e | e
    · rcases stL_touched r with e' | e'
      · rw [e, e']
      · exact absurd e' h.2
    · exact absurd e h.1
end Go.Proofs.YticgeabmhmojfaaGreatDoor
/- Contracts of the landed fold: One, Map, Folded. -/
namespace Go.Proofs.YticgeabmhmojfaaGreatDoor
set_option maxRecDepth 100000
open Go.RowKit

theorem kindb_any (r : Int) (w : World) : Calls Tryz.prog 25 #[.int .i32 r] w fun e w' => e = .returned (.int .i64 (kd r)) ∧ Below w.heap.size w w' :=
  (kind_any r w).mono fun _ _ ⟨he, hg⟩ => ⟨he, hg.below⟩
theorem put_any (r : Int) (B : Nat) (v : Value) (T : List Int) (w : World) (hL : Ly w) (hr : In32' r) (hB : B ≤ w.heap.size) (h : Rn B v T w) (hT : T.length ≤ 100000) : Calls Tryz.prog 26 #[v, .int .i32 r] w fun e w' => ∃ v', e = .returned v' ∧ Rn B v' (T ++ foldL r) w' ∧ Below B w w' := by
  rw [← stL_fold]
  exact put_st r B v T w hL hr hB h hT

set_option maxHeartbeats 800000 in
theorem fmap_empty (fo : Bool) (a : Option Addr) (cap : Nat) (w : World) :
    Calls Tryz.prog 17 #[.bool fo, .slice a 0 cap] w fun e w' => ∃ v, e = .returned v ∧ Rn w.heap.size v [] w' ∧ Below w.heap.size w w' := by
  obtain ⟨i0, hi, hz0, hz1, hz2⟩ := info_parts elem_info
  go_enter Tryz.func17, Tryz.ntmps17
  go_wp2
  go_step3
  go_wp2_with (refine wpList_make_own _ rfl _ _ 35 rfl w.heap.size 21 i0 (.int .i32 0) 1 Tryz.underlying35 hi hz0 hz1 .i64 .i64 _ 0 rfl rfl rfl (by rw [hz2]; omega) (Nat.zero_le _) (Nat.le_refl _) ?_; intro w1 hown1 hgrow1)
  go_step3
  go_wp2
  refine wp_loop_rounds 1 ?_
  rw [rounds_succ]
  have HB : Below w.heap.size w w1 := (Below.refl _ _).grown hgrow1 (Nat.le_refl _) (by intro k h; cases h)
  have HO := hide hown1
  clear hown1 hgrow1
  go_wp2
  (try rw [Exit.noGoto_ret])
  go_ret
  exact ⟨_, rfl, unhide HO, HB⟩

set_option maxHeartbeats 6400000 in
theorem fmap_some (fo : Bool) (b off cap : Nat) (l : List Int) (w : World) (hL : Ly w) (hlen : l.length ≤ 20000) (h0 : 0 < l.length) (hin : ∀ i, i < l.length → In32' (l.getD i 0))
    (hcell : ∀ i, i < l.length → w.cell? ⟨b, off + i, none⟩ = some (.int .i32 (l.getD i 0))) :
    Calls Tryz.prog 17 #[.bool fo, .slice (some ⟨b, off, none⟩) l.length cap] w fun e w' => ∃ v, e = .returned v ∧ Rn w.heap.size v (mapL fo l) w' ∧ Below w.heap.size w w' := by
  obtain ⟨i0, hi, hz0, hz1, hz2⟩ := info_parts elem_info
  have HC := hide hcell
  have HIN := hide hin
  have HKD := hide kindb_any
  have HLY := hide hL
  have hpos := hL.pos
  have hml : l.length ≤ maxLen := by unfold maxLen; omega
  clear hcell hin hL
  go_enter Tryz.func17, Tryz.ntmps17
  go_wp2
  go_step3
  go_wp2_with (refine wpList_make_own _ rfl _ _ 35 rfl w.heap.size 21 i0 (.int .i32 0) 1 Tryz.underlying35 hi hz0 hz1 .i64 .i64 _ l.length rfl rfl rfl (by rw [hz2]; omega) hml (Nat.le_refl _) ?_; intro w1 hown1 hgrow1)
  go_step3
  go_wp2
  have HB : Below w.heap.size w w1 := (Below.refl _ _).grown hgrow1 (Nat.le_refl _) (by intro k h; cases h)
  have HO := hide hown1
  clear hown1 hgrow1
  go_loopw [5, 13] (fun v i wr => ∃ k : Nat, k ≤ l.length ∧ i = .int .i64 (k : Int) ∧ Rn w.heap.size v (mapL fo (l.take k)) wr ∧ Below w.heap.size w wr) (fun _ i _ => l.length - (intOf i).toNat)
  case atStart => exact ⟨0, Nat.zero_le _, rfl, unhide HO, HB⟩
  case round =>
    clear HO HB
    obtain ⟨k, hk, rfl, hown, hb⟩ := hrel
    have hsz := hb.size
    by_cases hlt : k < l.length
    · have hzl : (k : Int) < (l.length : Int) := by omega
      have hz0' : (0 : Int) ≤ (k : Int) := by omega
      have g1 := unhide HC k hlt
      have k1 : wr.cell? ⟨b, off + k, none⟩ = some (.int .i32 (l.getD k 0)) := (hb.cell (by exact cell_lt g1)).trans g1
      have HS := hide (mapL_take fo l k hlt)
      have hTl := mapL_takeLen fo l k
      have HA := hide (fun v T W (h1 : Ly W) => put_any (l.getD k 0) w.heap.size v T W h1 (unhide HIN k hlt))
      have HK := hide (unhide HKD (l.getD k 0))
      clear g1
      generalize l.getD k 0 = x at *
      generalize mapL fo (l.take k) = T at *
      obtain ⟨xa, xc, hv⟩ := hown.shape
      obtain ⟨N, hN⟩ : ∃ N, N = T.length := ⟨_, rfl⟩
      have HTL : Hid (T.length ≤ 100000) := by show _ ≤ _; omega
      rw [← hN] at hv hTl
      have HN := hide hN
      clear hN
      subst hv
      have HO := hide hown
      clear hown
      obtain ⟨K, hK⟩ : ∃ K, kd x = K := ⟨_, rfl⟩
      rw [hK] at HK
      have HKE := hide hK
      clear hK
      have hm1 : N + 1 ≤ maxLen := by unfold maxLen; omega
      have hm2 : (N + 1) * 4 ≤ 140737488355328 := by omega
      by_cases e6 : K = 6
      · subst e6
        have HE : Hid (mapO fo x = []) := by show _ = _; unfold mapO; rw [unhide HKE, if_pos rfl]
        clear HA
        go_wp2_with (go_at_call 25; refine (unhide HK _).mono ?_; rintro e w1 ⟨rfl, b1⟩)
        go_roundw
        case rel => exact ⟨k + 1, by omega, by go_num, by rw [unhide HS, unhide HE, List.append_nil]; exact (unhide HO).below b1, hb.trans (b1.mono hsz)⟩
        case measure => simp [intOf]; omega
      · have z6 : (K == 6) = false := by simpa using e6
        by_cases e5 : K = 5
        · subst e5
          have HE : Hid (mapO fo x = [32]) := by show _ = _; unfold mapO; rw [unhide HKE, if_neg (by decide), if_pos rfl]
          clear HA
          go_wp2_with (first
            | (go_at_call 25; refine (unhide HK _).mono ?_; rintro e w1 ⟨rfl, b1⟩; have hb1 := hb.trans (b1.mono hsz); have hs1 := hb1.size; have HO1 := hide ((unhide HO).below b1))
            | (at_builtin; refine wpList_append_lies _ rfl _ _ 35 rfl w.heap.size 21 i0 _ 1 4 Tryz.underlying35 hi hz0 hz1 hz2 rfl (by omega) _ N _ rfl (World.ownsRow.alloc (Rn.own (unhide HN) (unhide HO1)) _) ⟨w1.heap.size, 0, none⟩ 1 1 [.int .i32 32] rfl rfl (World.news_of_block (cs := #[.int .i32 32]) (t := 21) (fr := (0, 0)) (heap_new w1 _)) (by simp [Value.oneCell']) (by omega) hm1 hm2 (by simp; omega) (w1.heap.size + 1) (by simp) ?_; intro g9 cap9 w9 hown9 hgrow9 hat9 hlt9))
          go_roundw
          case rel =>
            refine ⟨k + 1, by omega, by go_num, ?_, (hb1.alloc (by omega) _).trans (below_own hgrow9 (by simp; omega) (own_block (Rn.own (unhide HN) (unhide HO1))))⟩
            rw [unhide HS, unhide HE]
            exact Rn.push (unhide HN) hown9
          case measure => simp [intOf]; omega
        · have z5 : (K == 5) = false := by simpa using e5
          cases fo
          · have HE : Hid (mapO false x = [x]) := by show _ = _; unfold mapO; rw [unhide HKE, if_neg e6, if_neg e5]; rfl
            clear HA
            go_wp2_with (first
              | (go_at_call 25; refine (unhide HK _).mono ?_; rintro e w1 ⟨rfl, b1⟩; have hb1 := hb.trans (b1.mono hsz); have hs1 := hb1.size; have HO1 := hide ((unhide HO).below b1))
              | (at_builtin; refine wpList_append_lies _ rfl _ _ 35 rfl w.heap.size 21 i0 _ 1 4 Tryz.underlying35 hi hz0 hz1 hz2 rfl (by omega) _ N _ rfl (World.ownsRow.alloc (Rn.own (unhide HN) (unhide HO1)) _) ⟨w1.heap.size, 0, none⟩ 1 1 [.int .i32 x] rfl rfl (World.news_of_block (cs := #[.int .i32 x]) (t := 21) (fr := (0, 0)) (heap_new w1 _)) (by simp [Value.oneCell']) (by omega) hm1 hm2 (by simp; omega) (w1.heap.size + 1) (by simp) ?_; intro g9 cap9 w9 hown9 hgrow9 hat9 hlt9))
            go_roundw
            case rel =>
              refine ⟨k + 1, by omega, by go_num, ?_, (hb1.alloc (by omega) _).trans (below_own hgrow9 (by simp; omega) (own_block (Rn.own (unhide HN) (unhide HO1))))⟩
              rw [unhide HS, unhide HE]
              exact Rn.push (unhide HN) hown9
            case measure => simp [intOf]; omega
          · have HE : Hid (mapO true x = foldL x) := by show _ = _; unfold mapO; rw [unhide HKE, if_neg e6, if_neg e5]; rfl
            generalize foldL x = p at *
            go_wp2_with (first
              | (go_at_call 26; refine (unhide HA _ T _ (unhide HL1) hs1 (unhide HO1) (unhide HTL)).mono ?_; rintro e w2 ⟨v2, rfl, r2, b2⟩)
              | (go_at_call 25; refine (unhide HK _).mono ?_; rintro e w1 ⟨rfl, b1⟩; have hb1 := hb.trans (b1.mono hsz); have hs1 := hb1.size; have HO1 := hide ((unhide HO).below b1); have HL1 := hide ((unhide HLY).keep hb1)))
            go_roundw
            case rel =>
              refine ⟨k + 1, by omega, by go_num, ?_, hb1.trans b2⟩
              rw [unhide HS, unhide HE]
              exact r2
            case measure => simp [intOf]; omega
    · have hzl : ¬ (k : Int) < (l.length : Int) := by omega
      obtain rfl : k = l.length := by omega
      rw [List.take_length] at hown
      obtain ⟨xa, xc, hv⟩ := hown.shape
      obtain ⟨N, hN⟩ : ∃ N, N = (mapL fo l).length := ⟨_, rfl⟩
      rw [← hN] at hv
      clear hN
      have HO := hide hown
      clear hown
      subst hv
      go_wp2
      (try rw [Exit.noGoto_ret])
      go_ret
      exact ⟨.slice xa N xc, rfl, unhide HO, hb⟩
theorem fmap_any (fo : Bool) (v : Value) (l : List Int) (w : World) (hL : Ly w) (hlen : l.length ≤ 20000) (hin : ∀ x, x ∈ l → In32' x) (hR : Row w v l) : Calls Tryz.prog 17 #[.bool fo, v] w fun e w' => ∃ v, e = .returned v ∧ Row w' v (mapL fo l) ∧ Below w.heap.size w w' := by
  obtain ⟨a, c, rfl, h1⟩ := hR
  by_cases h0 : l.length = 0
  · obtain rfl : l = [] := List.eq_nil_of_length_eq_zero h0
    exact (fmap_empty fo a c w).mono fun _ _ ⟨v, he, h, hb⟩ => ⟨v, he, h.row, hb⟩
  · obtain ⟨b1, o1, rfl, k1⟩ := h1 (by omega)
    exact (fmap_some fo b1 o1 c l w hL hlen (by omega) (fun i hi => hin _ (by simp [List.getD, hi])) k1).mono fun _ _ ⟨v, he, h, hb⟩ => ⟨v, he, h.row, hb⟩

end Go.Proofs.YticgeabmhmojfaaGreatDoor
/- Contracts of the document's guess, and of the program's first byte. -/
namespace Go.Proofs.YticgeabmhmojfaaGreatDoor
set_option maxRecDepth 100000
open Go.RowKit

/-- A text's bytes, as numbers. -/
def nums (t : ByteArray) : List Int := t.data.toList.map fun b => (b.toNat : Int)
theorem nums_length (t : ByteArray) : (nums t).length = t.size := by simp [nums]
theorem nums_bound (t : ByteArray) : ∀ x ∈ nums t, 0 ≤ x ∧ x < 256 := by
  intro x hx
  simp only [nums, List.mem_map] at hx
  obtain ⟨b, _, rfl⟩ := hx
  have := b.toNat_lt
  omega
theorem nums_at (t : ByteArray) (k : Nat) (h : k < t.size) : (nums t).getD k 0 = (t[k].toNat : Int) := by
  have h' : k < t.data.toList.length := by simpa using h
  simp [nums, List.getD, h]
  rfl
theorem getD_bound (l : List Int) (hb : ∀ x ∈ l, 0 ≤ x ∧ x < 256) (k : Nat) : 0 ≤ l.getD k 0 ∧ l.getD k 0 < 256 := by
  by_cases h : k < l.length
  · simp only [List.getD, List.getElem?_eq_getElem h, Option.getD_some]
    exact hb _ (List.getElem_mem h)
  · simp [List.getD, List.getElem?_eq_none (Nat.le_of_not_lt h)]

/-- What the first byte tells, by how many bytes there are. -/
def gBase (n : Nat) (a : Int) : Int := if n = 2 then a % 32 else if n = 3 then a % 16 else if n = 4 then a % 8 else a
/-- The number that the first k bytes would be. -/
def gF (l : List Int) (base : Int) : Nat → Int
  | 0 => base
  | k + 1 => 64 * gF l base k + l.getD (k + 1) 0 % 64
def guessOf (l : List Int) : Int := gF l (gBase l.length (l.getD 0 0)) (l.length - 1)

theorem gF_bound (l : List Int) (base : Int) (h0 : 0 ≤ base) (h1 : base < 256) (hb : ∀ x ∈ l, 0 ≤ x ∧ x < 256) :
    ∀ k, k ≤ 3 → 0 ≤ gF l base k ∧ gF l base k < 67108864 := by
  intro k hk
  have b1 := getD_bound l hb 1
  have b2 := getD_bound l hb 2
  have b3 := getD_bound l hb 3
  match k, hk with
  | 0, _ => simp only [gF]; omega
  | 1, _ => simp only [gF]; omega
  | 2, _ => simp only [gF]; omega
  | 3, _ => simp only [gF]; omega
theorem gBase_bound (n : Nat) (a : Int) (h0 : 0 ≤ a) (h1 : a < 256) : 0 ≤ gBase n a ∧ gBase n a < 256 := by
  unfold gBase
  split
  · omega
  · split
    · omega
    · split <;> omega

end Go.Proofs.YticgeabmhmojfaaGreatDoor
