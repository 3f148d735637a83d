/- The law ArrangeParts. -/
import Derived.Test.YtlbigebaepecpaaLaw7
namespace Go.Proofs.Ytlbigebaepecpaa
open Go.RowKit
open Go.Sort (grow)

theorem take_flat (rs : List (List Int)) (j : Nat) (h : j < rs.length) : (rs.take (j + 1)).flatten = (rs.take j).flatten ++ rs.getD j [] := by
  have e : rs.getD j [] = rs[j] := by simp [List.getD, h]
  rw [List.take_succ_eq_append_getElem h, e, List.flatten_append, List.flatten_singleton]
theorem take_each (f : List Int → List Int) (rs : List (List Int)) (j : Nat) (h : j < rs.length) : (rs.take (j + 1)).flatMap f = (rs.take j).flatMap f ++ f (rs.getD j []) := by
  have e : rs.getD j [] = rs[j] := by simp [List.getD, h]
  rw [List.take_succ_eq_append_getElem h, e, List.flatMap_append, List.flatMap_singleton]
theorem flat_take_len (rs : List (List Int)) (j : Nat) : (rs.take j).flatten.length ≤ rs.flatten.length := by
  have h := congrArg List.length (congrArg List.flatten (List.take_append_drop j rs))
  rw [List.flatten_append, List.length_append] at h
  omega
theorem each_take_len (f : List Int → List Int) (rs : List (List Int)) (j : Nat) : ((rs.take j).flatMap f).length ≤ (rs.flatMap f).length := by
  have h := congrArg List.length (congrArg (List.flatMap f) (List.take_append_drop j rs))
  rw [List.flatMap_append, List.length_append] at h
  omega
theorem getD_mem (rs : List (List Int)) (j : Nat) (h : j < rs.length) : rs.getD j [] ∈ rs := by simp [List.getD, h]
theorem getD_mem_tail (rs : List (List Int)) (j : Nat) (h : j < rs.length) (h0 : 0 < j) : rs.getD j [] ∈ rs.tail := by
  cases rs with
  | nil => simp at h
  | cons r rs =>
    obtain ⟨i, rfl⟩ : ∃ i, j = i + 1 := ⟨j - 1, by omega⟩
    simp only [List.getD_cons_succ, List.tail_cons]
    exact getD_mem rs i (by simpa using h)
/-- In a run only its first, at most, has no class; and it has none where a run stands before. -/
theorem runny_at {c : Int → Int} {rs : List (List Int)} (h : Runny c rs) (j : Nat) (hj : j < rs.length) (k : Nat) (hk : k < (rs.getD j []).length) (h0 : 0 < k ∨ 0 < j) : c ((rs.getD j []).getD k 0) = 0 ↔ k = 0 := by
  have h1 := (h.1 _ (getD_mem rs j hj)).2
  by_cases hk0 : k = 0
  · subst hk0
    obtain ⟨y, t, e, hy⟩ := h.2 _ (getD_mem_tail rs j hj (by omega))
    rw [e]
    simpa using hy
  · refine ⟨fun e => absurd e (h1 _ ?_), fun e => absurd e hk0⟩
    generalize rs.getD j [] = r at hk
    cases r with
    | nil => simp at hk
    | cons y t =>
      obtain ⟨i, rfl⟩ : ∃ i, k = i + 1 := ⟨k - 1, by omega⟩
      have hi : i < t.length := by simpa using hk
      simp [List.getD, hi]

/-- Two values own no block together. -/
def Ap (v u : Value) : Prop := ∀ g, v.ownBlock = some g → u.ownBlock ≠ some g
theorem Ap.symm {v u : Value} (h : Ap v u) : Ap u v := fun g h1 h2 => h g h2 h1
theorem Ap.nil (u : Value) : Ap (.slice none 0 0) u := fun g h => by cases h
theorem Ap.new {B g n c : Nat} {v u : Value} {l : List Int} {w : World} (h : Ap v u) (hu : Rn B u l w) (hat : v.ownBlock = some g ∨ g = w.heap.size) : Ap (.slice (some ⟨g, 0, none⟩) n c) u := by
  intro k hk hu2
  simp only [Value.ownBlock, Option.some.injEq] at hk
  subst hk
  rcases hat with h1 | h1
  · exact h _ h1 hu2
  · have := (World.ownsRow.lt hu _ hu2).2
    omega
theorem Rn.apart {B : Nat} {v u : Value} {l : List Int} {w w' : World} (h : Rn B v l w) (hg : w.grownBy w' u.ownBlock) (ha : Ap v u) : Rn B v l w' := by
  refine World.ownsRow.kept h hg ?_
  cases e : v.ownBlock with
  | none => exact .inl rfl
  | some g => exact .inr fun e2 => ha g e e2.symm
theorem Rn.cat {w1 : World} {B g1 cap1 N M : Nat} {es zs : List Int} (hN : N = es.length) (hM : M = zs.length) (h : w1.ownsRow B 21 1 (.slice (.some ⟨g1, 0, none⟩) (N + M) cap1) (N + M) (es.map (Value.int .i32) ++ zs.map (Value.int .i32))) : Rn B (.slice (.some ⟨g1, 0, none⟩) (N + M) cap1) (es ++ zs) w1 := by
  unfold Rn
  subst hN hM
  simpa using h
theorem row_news {w : World} {g o : Nat} {l : List Int} (h : ∀ j, j < l.length → w.cell? ⟨g, o + j, none⟩ = some (.int .i32 (l.getD j 0))) : ∀ j v, (l.map (Value.int .i32))[j]? = some v → w.cell? ((⟨g, o, none⟩ : Addr).add j) = some v := fun j v hv => by
  have hj : j < l.length := by simpa using (List.getElem?_eq_some_iff.1 hv).1
  have e := h j hj
  rw [List.getElem?_map, List.getElem?_eq_getElem hj] at hv
  simp only [Option.map_some, Option.some.injEq] at hv
  subst hv
  have e2 : (⟨g, o, none⟩ : Addr).add j = ⟨g, o + j, none⟩ := by
    by_cases h0 : j = 0
    · subst h0; simp [Addr.add]
    · simp [Addr.add, h0]
  rw [e2, e]
  simp [List.getD, hj]
theorem row_held {w : World} {v : Value} {l : List Int} (h : Row w v l) (h0 : 0 < l.length) : ∃ b o c, v = .slice (some ⟨b, o, none⟩) l.length c ∧ ∀ j, j < l.length → w.cell? ⟨b, o + j, none⟩ = some (.int .i32 (l.getD j 0)) := by
  obtain ⟨a, c, rfl, hc⟩ := h
  obtain ⟨b, o, rfl, hcc⟩ := hc h0
  exact ⟨b, o, c, rfl, hcc⟩
theorem row_in {w : World} {a : Option Addr} {n c : Nat} {l : List Int} (h : Row w (.slice a n c) l) (h0 : 0 < l.length) : ∃ b o, a = some ⟨b, o, none⟩ ∧ ∀ j, j < l.length → w.cell? ⟨b, o + j, none⟩ = some (.int .i32 (l.getD j 0)) := by
  obtain ⟨a', c', hv, hc⟩ := h
  injection hv with h1 h2 h3
  subst h1
  exact hc h0
theorem rr_in {w : World} {a : Option Addr} {n c : Nat} {ls : List (List Int)} (h : RR w (.slice a n c) ls) (i : Nat) (hi : i < ls.length) : ∃ b off, a = some ⟨b, off, none⟩ ∧ ∃ g o c, w.cell? ⟨b, off + i, none⟩ = some (.slice (some ⟨g, o, none⟩) (ls.getD i []).length c) ∧ ∀ j, j < (ls.getD i []).length → w.cell? ⟨g, o + j, none⟩ = some (.int .i32 ((ls.getD i []).getD j 0)) := by
  obtain ⟨a', c', hv, hc⟩ := h
  injection hv with h1 h2 h3
  subst h1
  obtain ⟨b, off, e, hcc⟩ := hc (by omega)
  exact ⟨b, off, e, hcc i hi⟩

set_option maxHeartbeats 12800000 in
theorem parts6_law (a : Option Addr) (cap : Nat) (l : List Int) (w : World) (hL : Ly w) (hr : Row w (.slice a l.length cap) l) : Calls Try.prog 6 #[.slice a l.length cap] w fun e w' => e = .returned (.bool true) ∧ Below w.heap.size w w' := by
  have HA := hide awake6
  have mx := mixed
  obtain ⟨i0, hi, hz0, hz1, hz2⟩ := info_parts elem_info
  by_cases hlen : 400 < l.length
  · have hz : (400 : Int) < (l.length : Int) := by omega
    go_enter Try.func6, Try.ntmps6
    go_wp2_with (go_at_call 7; refine (unhide HA _ hL).mono ?_; rintro e w5 ⟨rfl, b5⟩)
    go_ret
    exact ⟨rfl, b5⟩
  · have hz : ¬ (400 : Int) < (l.length : Int) := by omega
    have H1 := hide (fun W hW hR => aruns_any (.slice a l.length cap) l W hW (by omega) hR)
    have H2 := hide (fun W hW hR => aord_any (.slice a l.length cap) l W hW (by omega) hR)
    have HCL := hide class_any
    have HLEN := hide (ord_len Kls_rise cls_in)
    have HST := hide (ord_stay Kls_rise Kls_zero cls_in l)
    have HFL := hide (runs_flat (c := cls) l)
    have HPA := hide (ord_parts (c := cls) (K := Kls) l)
    have HRY := hide (runs_runny (c := cls) l)
    have hn := runs_cnt l
    have HR := hide hr
    clear hr
    generalize runsL cls l = rs at *
    obtain ⟨R, hR⟩ : ∃ R, R = rs.length := ⟨_, rfl⟩
    rw [← hR] at hn
    have HRL := hide hR
    clear hR
    have H1' : Hid (∀ W, Ly W → Row W (.slice a l.length cap) l → Calls Try.prog 13 #[.slice a l.length cap] W fun e w' => ∃ x y, e = .returned (.slice x R y) ∧ RR w' (.slice x R y) rs ∧ Below W.heap.size W w') := fun W hW hR => (unhide H1 W hW hR).mono fun _ _ ⟨v, he, hrr, hb⟩ => by
      obtain ⟨x, y, hv, _⟩ := id hrr
      rw [← unhide HRL] at hv
      subst hv
      exact ⟨x, y, he, hrr, hb⟩
    clear H1
    go_enter Try.func6, Try.ntmps6
    go_wp2_with (go_at_call 13; refine (unhide H1' _ hL (unhide HR)).mono ?_; rintro e w1 ⟨xa, xc, rfl, r1, b1⟩; have hL1 := hL.keep b1; have HR1 := hide ((unhide HR).below b1); have HRR := hide r1; clear r1)
    go_loopw [3, 4, 6] (fun v3 v4 i wr => ∃ j : Nat, j ≤ R ∧ i = .int .i64 (j : Int) ∧ Rn w1.heap.size v3 (rs.take j).flatten wr ∧ Rn w1.heap.size v4 ((rs.take j).flatMap (ordL cls Kls)) wr ∧ Ap v3 v4 ∧ Below w1.heap.size w1 wr) (fun _ _ i _ => R - (intOf i).toNat)
    case atStart => exact ⟨0, Nat.zero_le _, rfl, Rn.nil _ _, Rn.nil _ _, Ap.nil _, Below.refl _ _⟩
    case round =>
      obtain ⟨j, hj, rfl, ho3, ho4, hap, hb⟩ := hrel
      have hsz := hb.size
      by_cases hlt : j < R
      · have hzl : (j : Int) < (R : Int) := by omega
        have hz0' : (0 : Int) ≤ (j : Int) := by omega
        have hjr : j < rs.length := by rw [← unhide HRL]; exact hlt
        obtain ⟨b, off, rfl, g, o, c, q1, q2⟩ := rr_in (unhide HRR) j hjr
        have F1 := hide (take_flat rs j hjr)
        have F2 := hide (take_each (ordL cls Kls) rs j hjr)
        have n3 : (rs.take j).flatten.length ≤ l.length := by have := flat_take_len rs j; rwa [unhide HFL] at this
        have n4 : ((rs.take j).flatMap (ordL cls Kls)).length ≤ l.length := by have := each_take_len (ordL cls Kls) rs j; rwa [unhide HPA, unhide HLEN] at this
        have hr0 : 0 < (rs.getD j []).length := List.length_pos_iff.2 ((unhide HRY).1 _ (getD_mem rs j hjr)).1
        have hrm : (rs.getD j []).length ≤ l.length := by have := row_len rs j; rwa [unhide HFL] at this
        have HRA := hide (fun k hk h0 => runny_at (unhide HRY) j hjr k hk h0)
        have HOL := hide (unhide HLEN (rs.getD j []))
        clear H2 HLEN HST HFL HPA HRY HRR hjr
        generalize rs.getD j [] = r at *
        generalize (rs.take j).flatten = A3 at *
        generalize (rs.take j).flatMap (ordL cls Kls) = A4 at *
        have HOC : Hid (∀ W, Ly W → (∀ i, i < r.length → W.cell? ⟨g, o + i, none⟩ = some (.int .i32 (r.getD i 0))) → Calls Try.prog 9 #[.slice (some ⟨g, o, none⟩) r.length c] W fun e w' => ∃ g2 o2 c2, e = .returned (.slice (some ⟨g2, o2, none⟩) r.length c2) ∧ (∀ i, i < (ordL cls Kls r).length → w'.cell? ⟨g2, o2 + i, none⟩ = some (.int .i32 ((ordL cls Kls r).getD i 0))) ∧ Below W.heap.size W w') := fun W hW hc =>
          (aord_any (.slice (some ⟨g, o, none⟩) r.length c) r W hW (by omega) ⟨_, _, rfl, fun _ => ⟨g, o, rfl, hc⟩⟩).mono fun _ _ ⟨v, he, hrow, hbw⟩ => by
            obtain ⟨g2, o2, c2, hv, hcc⟩ := row_held hrow (by rw [unhide HOL]; exact hr0)
            rw [unhide HOL] at hv
            subst hv
            exact ⟨g2, o2, c2, he, hcc, hbw⟩
        generalize ordL cls Kls r = z at *
        obtain ⟨rl, hrl⟩ : ∃ rl, rl = r.length := ⟨_, rfl⟩
        rw [← hrl] at q1 hr0 hrm HOC HOL HRA q2
        have HRLn := hide hrl
        clear hrl
        have Q1 := hide q1
        have Q2 := hide q2
        have d1 : wr.cell? ⟨b, off + j, none⟩ = some (.slice (some ⟨g, o, none⟩) rl c) := (hb.cell (by exact cell_lt q1)).trans q1
        clear q1 q2
        obtain ⟨a3, c3, hv3⟩ := ho3.shape
        obtain ⟨a4, c4, hv4⟩ := ho4.shape
        obtain ⟨N3, hN3⟩ : ∃ N, N = A3.length := ⟨_, rfl⟩
        obtain ⟨N4, hN4⟩ : ∃ N, N = A4.length := ⟨_, rfl⟩
        rw [← hN3] at hv3 n3
        rw [← hN4] at hv4 n4
        have HN3 := hide hN3
        have HN4 := hide hN4
        clear hN3 hN4
        have HO3 := hide ho3
        have HO4 := hide ho4
        have HAP := hide hap
        clear ho3 ho4 hap
        subst hv3 hv4
        have hrz : ¬ (rl : Int) = 0 := by omega
        have hrb : ((rl : Int) == 0) = false := by simpa using hrz
        have hm1 : N3 + rl ≤ maxLen := by unfold maxLen; omega
        have hm2 : (N3 + rl) * 4 ≤ 140737488355328 := by omega
        have hm3 : N4 + rl ≤ maxLen := by unfold maxLen; omega
        have hm4 : (N4 + rl) * 4 ≤ 140737488355328 := by omega
        go_wp2
        go_loopw [7] (fun y w' => ∃ k : Nat, k ≤ rl ∧ y = .int .i64 (k : Int) ∧ Gr wr w') (fun y _ => rl - (intOf y).toNat)
        case atStart => exact ⟨0, Nat.zero_le _, rfl, Gr.refl _⟩
        case round =>
          obtain ⟨k, hk, rfl, hg⟩ := hrel
          have hb2 := hb.trans (hg.below.mono hsz)
          have hs2 := hb2.size
          have d2 : wr.cell? ⟨b, off + j, none⟩ = some (.slice (some ⟨g, o, none⟩) rl c) := hg.cell d1
          by_cases hkl : k < rl
          · have hzk : (k : Int) < (rl : Int) := by omega
            have hzk0 : (0 : Int) ≤ (k : Int) := by omega
            have d3 : wr.cell? ⟨g, o + k, none⟩ = some (.int .i32 (r.getD k 0)) := (hb2.cell (by exact cell_lt (unhide Q2 k hkl))).trans (unhide Q2 k hkl)
            have hra := unhide HRA k hkl
            have HX := hide (unhide HCL (r.getD k 0))
            clear d1
            generalize r.getD k 0 = x at *
            generalize cls x = q at *
            by_cases hk0 : 0 < k
            · have hq : ¬ q = 0 := fun e => by have := (hra (.inl hk0)).1 e; omega
              have hqz : (q == 0) = false := by simpa using hq
              have e1 : (0 : Int) < (k : Int) := by omega
              have e2 : ¬ (k : Int) = 0 := by omega
              have e3 : ((k : Int) == 0) = false := by simpa using e2
              clear hra
              go_wp2_with (go_at_call 16; refine (unhide HX _).mono ?_; rintro e w5 ⟨rfl, g5⟩)
              go_roundw
              case rel => exact ⟨k + 1, by omega, by go_num, hg.trans g5⟩
              case measure => simp [intOf]; omega
            · obtain rfl : k = 0 := by omega
              by_cases hj0 : 0 < j
              · have hq : q = 0 := (hra (.inr hj0)).2 rfl
                subst hq
                have e1 : (0 : Int) < (j : Int) := by omega
                have d4 : wr.cell? ⟨g, o, none⟩ = some (.int .i32 x) := d3
                clear hra
                go_wp2_with (go_at_call 16; refine (unhide HX _).mono ?_; rintro e w5 ⟨rfl, g5⟩)
                go_roundw
                case rel => exact ⟨0 + 1, by omega, by go_num, hg.trans g5⟩
                case measure => simp [intOf]; omega
              · have e1 : ¬ (0 : Int) < (j : Int) := by omega
                have e2 : decide ((j : Int) > 0) = false := decide_eq_false e1
                have e3 : decide ((0 : Int) < (j : Int)) = false := decide_eq_false e1
                have e4 : decide (0 < j) = false := decide_eq_false hj0
                clear hra
                go_wp2
                go_roundw
                case rel => exact ⟨0 + 1, by omega, by go_num, hg⟩
                case measure => simp [intOf]; omega
          · have hzk : ¬ (k : Int) < (rl : Int) := by omega
            have P3 := hide ((unhide HO3).below hg.below)
            have P4 := hide ((unhide HO4).below hg.below)
            have Q22 : Hid (∀ i, i < r.length → wr.cell? ⟨g, o + i, none⟩ = some (.int .i32 (r.getD i 0))) := fun i hi => (hb2.cell (by exact cell_lt (unhide Q2 i (by rw [unhide HRLn]; exact hi)))).trans (unhide Q2 i (by rw [unhide HRLn]; exact hi))
            clear d1
            go_wp2_with (first
              | (go_at_call 9; refine (unhide HOC _ hL9 (fun i hi => unhide Q29 i (by rw [← unhide HRLn]; exact hi))).mono ?_; rintro e w10 ⟨g2, o2, c2, rfl, Z10, b10⟩; have hb10 := hb9.trans (b10.mono hb9.size); have P410 := hide ((unhide P49).below b10); have HZ10 := hide Z10; clear Z10)
              | (at_builtin; (first
                | (refine wpList_append_lies _ rfl _ _ 22 rfl w1.heap.size 21 i0 _ 1 4 Try.underlying22 hi hz0 hz1 hz2 rfl (by omega) _ N3 _ rfl (Rn.own (unhide HN3) (unhide P3)) ⟨g, o, none⟩ rl c (r.map (Value.int .i32)) rfl (by rw [List.length_map, ← unhide HRLn, Nat.mul_one]) (row_news (unhide Q22)) (ints_one _) hr0 hm1 hm2 (by omega) wr.heap.size rfl ?_; intro g9 cap9 w9 hown9 hgrow9 hat9 hlt9; have hb9 := hb2.trans (below_own hgrow9 hs2 (own_block (Rn.own (unhide HN3) (unhide P3)))); have hL9 := hL.keep (b1.trans (hb9.mono b1.size)); have d9 : w9.cell? ⟨b, off + j, none⟩ = some (.slice (some ⟨g, o, none⟩) rl c) := (hb9.cell (by exact cell_lt (unhide Q1))).trans (unhide Q1); have Q29 : Hid (∀ i, i < r.length → w9.cell? ⟨g, o + i, none⟩ = some (.int .i32 (r.getD i 0))) := (fun i hi => (hb9.cell (by exact cell_lt (unhide Q2 i (by rw [unhide HRLn]; exact hi)))).trans (unhide Q2 i (by rw [unhide HRLn]; exact hi))); have P49 := hide (Rn.apart (unhide P4) hgrow9 (unhide HAP).symm); have HAP9 := hide (Ap.new (n := N3 + rl) (c := cap9) (unhide HAP) (unhide P4) hat9); have P39 := hide (Rn.cat (unhide HN3) (unhide HRLn) hown9); clear hown9)
                | (refine wpList_append_lies _ rfl _ _ 22 rfl w1.heap.size 21 i0 _ 1 4 Try.underlying22 hi hz0 hz1 hz2 rfl (by omega) _ N4 _ rfl (Rn.own (unhide HN4) (unhide P410)) ⟨g2, o2, none⟩ rl c2 (z.map (Value.int .i32)) rfl (by rw [List.length_map, unhide HOL, Nat.mul_one]) (row_news (unhide HZ10)) (ints_one _) hr0 hm3 hm4 (by have := hb10.size; omega) w10.heap.size rfl ?_; intro g11 cap11 w11 hown11 hgrow11 hat11 hlt11))))
            go_roundw
            case rel =>
              refine ⟨j + 1, by omega, by go_num, ?_, ?_, ?_, hb10.trans (below_own hgrow11 hb10.size (own_block (Rn.own (unhide HN4) (unhide P410))))⟩
              · rw [unhide F1]
                exact Rn.apart ((unhide P39).below b10) hgrow11 (unhide HAP9)
              · rw [unhide F2]
                exact Rn.cat (unhide HN4) (unhide HOL).symm hown11
              · exact (Ap.new (unhide HAP9).symm ((unhide P39).below b10) hat11).symm
            case measure => simp [intOf]; omega
      · have hzl : ¬ (j : Int) < (R : Int) := by omega
        have hjr : j = rs.length := by rw [← unhide HRL]; omega
        have e3 : (rs.take j).flatten = l := by rw [hjr, List.take_length]; exact unhide HFL
        have e4 : (rs.take j).flatMap (ordL cls Kls) = ordL cls Kls l := by rw [hjr, List.take_length]; exact unhide HPA
        rw [e3] at ho3
        rw [e4] at ho4
        have hbb := b1.trans (hb.mono b1.size)
        have hLr := hL.keep hbb
        have HRr := hide ((unhide HR1).below hb)
        have HZL := hide (unhide HLEN l)
        have hol := unhide HLEN l
        have S1 := hide (fun v1 W => same_any v1 (.slice a l.length cap) l W (by omega))
        have S2 := hide (fun v1 v2 W => same_any v1 v2 (ordL cls Kls l) W (by omega))
        have HO3 := hide ho3.row
        have HO4 := hide ho4.row
        obtain ⟨a3, c3, hv3⟩ := ho3.shape
        obtain ⟨a4, c4, hv4⟩ := ho4.shape
        rw [hol] at hv4
        subst hv3 hv4
        clear ho3 ho4 e3 e4 hap hol HLEN HPA HRY HFL HRR HRL H1' hjr
        generalize ordL cls Kls l = z at *
        go_wp2_with (go_at_call 9; refine (unhide H2 _ hLr (unhide HRr)).mono ?_; rintro e w2 ⟨v2, rfl, r2, b2⟩; have R2 := hide r2; obtain ⟨ma, mc, hv, _⟩ := r2; rw [unhide HZL] at hv; subst hv; have c2 := hbb.trans (b2.mono hbb.size); have HL2 := hide ((unhide HRr).below b2))
        go_loopw [9] (fun y wr => ∃ k : Nat, k ≤ l.length ∧ y = .int .i64 (k : Int) ∧ Gr w2 wr) (fun y _ => l.length - (intOf y).toNat)
        case atStart => exact ⟨0, Nat.zero_le _, rfl, Gr.refl _⟩
        case round =>
          obtain ⟨k, hk, rfl, hg⟩ := hrel
          by_cases hkl : k < l.length
          · obtain ⟨p1, o1, rfl, hcc⟩ := row_in (unhide HL2) (by omega)
            obtain ⟨p2, o2, rfl, hdd⟩ := row_in (unhide R2) (by rw [unhide HZL]; omega)
            have hzk : (k : Int) < (l.length : Int) := by omega
            have hzk0 : (0 : Int) ≤ (k : Int) := by omega
            have g1 := cell_gr (hg.cell (hcc k hkl))
            have g2 := cell_gr (hg.cell (hdd k (by rw [unhide HZL]; exact hkl)))
            have hst := unhide HST k hkl
            clear hcc hdd
            have HX := hide (unhide HCL (l.getD k 0))
            generalize l.getD k 0 = x at *
            by_cases hq : cls x = 0
            · rw [hst hq] at g2
              rw [hq] at HX
              clear hst hq
              go_wp2
              refine wp_region_quiet_grown (by first | exact mx | assumption) (by kernel_rfl) ?_
              repeat (go_big_quiet_step ((go_at_call 16; exact callsGr (unhide HX _))))
              refine wpQuiet_nil ?_
              intro _ hw'
              obtain ⟨⟨nq, osq⟩, hw''⟩ := hw'
              subst hw''
              go_wp2
              go_roundw
              case rel => exact ⟨k + 1, by omega, by go_num, hg.grow _ _⟩
              case measure => simp [intOf]; omega
            · clear hst g2
              generalize cls x = q at *
              have hqz : (q == 0) = false := by simpa using hq
              go_wp2
              refine wp_region_quiet_grown (by first | exact mx | assumption) (by kernel_rfl) ?_
              repeat (go_big_quiet_step ((go_at_call 16; exact callsGr (unhide HX _))))
              refine wpQuiet_nil ?_
              intro _ hw'
              obtain ⟨⟨nq, osq⟩, hw''⟩ := hw'
              subst hw''
              go_wp2
              go_roundw
              case rel => exact ⟨k + 1, by omega, by go_num, hg.grow _ _⟩
              case measure => simp [intOf]; omega
          · have hzk : ¬ (k : Int) < (l.length : Int) := by omega
            have hb3 := c2.trans (hg.below.mono c2.size)
            have T1 := hide (((unhide HO3).below b2).below hg.below)
            have T2 := hide ((unhide HL2).below hg.below)
            have T3 := hide (((unhide HO4).below b2).below hg.below)
            have T4 := hide ((unhide R2).below hg.below)
            go_wp2_with (first
              | (go_at_call 8; (first
                | (refine (unhide S1 _ _ (unhide T1) (unhide T2)).mono ?_; rintro e w4 ⟨rfl, b4⟩; clear S1; have hb4 := hb3.trans (b4.mono hb3.size); have T5 := hide ((unhide T3).below b4); have T6 := hide ((unhide T4).below b4))
                | (refine (unhide S2 _ _ _ (unhide T5) (unhide T6)).mono ?_; rintro e w5 ⟨rfl, b5⟩; have hb5 := hb4.trans (b5.mono hb4.size); have hL5 := hL.keep hb5)))
              | (go_at_call 7; refine (unhide HA _ hL5).mono ?_; rintro e w6 ⟨rfl, b6⟩; have c6 := hb5.trans (b6.mono hb5.size)))
            go_ret
            exact ⟨rfl, c6⟩
end Go.Proofs.Ytlbigebaepecpaa
