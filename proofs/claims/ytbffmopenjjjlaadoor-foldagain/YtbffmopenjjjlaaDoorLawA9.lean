/- The law FoldAgain. -/
import Derived.Test.YtbffmopenjjjlaaDoorLaw9
import Derived.Test.YtbffmopenjjjlaaDoorCls
namespace Go.Proofs.YtbffmopenjjjlaaDoor
open Go.RowKit

theorem ints_new9 (w : World) (zs : List Int) (cs : Array Value) (T : TypeId) (hcs : cs.toList = zs.map (Value.int .i64)) : Ints (w.alloc (.cells cs T)) (.slice (some ⟨w.heap.size, 0, none⟩) zs.length zs.length) zs := by
  refine ⟨_, _, rfl, fun _ => ⟨w.heap.size, 0, rfl, fun j hj => ?_⟩⟩
  rw [World.cell?_alloc_mark, Nat.zero_add]
  have : cs.toList[j]? = some (.int .i64 (zs.getD j 0)) := by rw [hcs]; simp [List.getD, hj]
  simpa using this
theorem is_one (x k : Int) (b : Bool) (h : decide (kd x = k) = b) (W : World) : Calls Tryd.prog 16 #[.int .i32 x, .slice (some ⟨W.heap.size, 0, none⟩) 1 1] (W.alloc (.cells #[.int .i64 k] 3)) fun e w' => e = .returned (.bool b) ∧ Below W.heap.size W w' :=
  (is_any x _ [k] _ (ints_new9 W [k] _ 3 rfl) (by simp)).mono fun e w' ⟨he, hg⟩ => ⟨he.trans (ret_bool (by rw [← h]; simp)), ((Gr.one W _).trans hg).below⟩

set_option maxHeartbeats 6400000 in
theorem again9_law (fo : Bool) (a : Option Addr) (cap : Nat) (l : List Int) (w : World) (hL : Ly w) (hin : ∀ x, x ∈ l → In32' x) (hr : Row w (.slice a l.length cap) l) : Calls Tryd.prog 6 #[.bool fo, .slice a l.length cap] w fun e w' => e = .returned (.bool true) ∧ Below w.heap.size w w' := by
  have HA := hide awake9
  by_cases hlen : 2000 < l.length
  · have hz : (2000 : Int) < (l.length : Int) := by omega
    go_enter Tryd.func6, Tryd.ntmps6
    go_wp2_with (go_at_call 10; refine (unhide HA _ hL).mono ?_; rintro e w5 ⟨rfl, b5⟩)
    go_ret
    exact ⟨rfl, b5⟩
  · have hz : ¬ (2000 : Int) < (l.length : Int) := by omega
    have ll := mapL_len fo l
    have H1 := hide (fun W hW hR => fmap_any fo (.slice a l.length cap) l W hW (by omega) hin hR)
    have H2 : Hid (∀ v W, Ly W → Row W v (mapL fo l) → Calls Tryd.prog 11 #[.bool fo, v] W fun e w' => ∃ v, e = .returned v ∧ Row w' v (mapL fo l) ∧ Below W.heap.size W w') := fun v W hW hR =>
      (fmap_any fo v (mapL fo l) W hW (by omega) (map_in hin) hR).mono fun _ _ h => by rw [mapL_again] at h; exact h
    have H3 : Hid (∀ v W, fo = true → Ly W → Row W v (mapL fo l) → Calls Tryd.prog 13 #[v] W fun e w' => e = .returned (.bool true) ∧ Below W.heap.size W w') := fun v W hf hW hR =>
      (ffold_any v (mapL fo l) W hW (by omega) (map_in hin) hR).mono fun _ _ ⟨he, hb⟩ => ⟨he.trans (ret_bool (by subst hf; exact mapL_folded l)), hb⟩
    have S1 := hide (fun v1 v2 W => same_any v1 v2 (mapL fo l) W (by omega))
    have HM := hide (fun j (hj : j < (mapL fo l).length) => mapL_mem (fo := fo) (l := l) (y := (mapL fo l).getD j 0) (by simp [List.getD, hj]))
    have HIS := hide is_one
    have HR := hide hr
    clear hr hin
    generalize mapL fo l = z at *
    obtain ⟨N, hN⟩ : ∃ N, N = z.length := ⟨_, rfl⟩
    rw [← hN] at ll
    have HN := hide hN
    clear hN
    go_enter Tryd.func6, Tryd.ntmps6
    go_wp2_with (go_at_call 11; refine (unhide H1 _ hL (unhide HR)).mono ?_; rintro e w1 ⟨v1, rfl, r1, b1⟩; have R1 := hide r1; obtain ⟨xa, xc, hv, hcc⟩ := r1; rw [← unhide HN] at hv; subst hv; have HCC := hide hcc; clear hcc)
    clear H1 HR
    go_loopw [6] (fun i wr => ∃ k : Nat, k ≤ N ∧ i = .int .i64 (k : Int) ∧ Below w.heap.size w wr ∧ Below w1.heap.size w1 wr) (fun i _ => N - (intOf i).toNat)
    case atStart => exact ⟨0, Nat.zero_le _, rfl, b1, Below.refl _ _⟩
    case round =>
      obtain ⟨k, hk, rfl, hb, hb1⟩ := hrel
      have hsz := hb.size
      by_cases hlt : k < N
      · have hzl : (k : Int) < (N : Int) := by omega
        have hz0 : (0 : Int) ≤ (k : Int) := by omega
        obtain ⟨g, o, hxa, hc⟩ := unhide HCC (by rw [← unhide HN]; omega)
        subst hxa
        have d0 := hc k (by rw [← unhide HN]; exact hlt)
        have D0 := hide d0
        have d1 : wr.cell? ⟨g, o + k, none⟩ = some (.int .i32 (z.getD k 0)) := (hb1.cell (by exact cell_lt d0)).trans d0
        obtain ⟨p6, p5, _⟩ := unhide HM k (by rw [← unhide HN]; exact hlt)
        clear d0 hc
        have HI6 := hide (unhide HIS (z.getD k 0) 6 false (decide_eq_false p6))
        have HI5 := hide (fun b h => unhide HIS (z.getD k 0) 5 b h)
        generalize kd (z.getD k 0) = K at *
        generalize z.getD k 0 = x at *
        clear p6
        by_cases e5 : K = 5
        · have hx := p5 e5
          subst hx
          have HI := hide (unhide HI5 true (decide_eq_true e5))
          clear HI5 p5
          go_wp2_with (go_at_call 16; (first
            | (refine (unhide HI6 _).mono ?_; rintro e w2 ⟨rfl, b2⟩; clear HI6; have c2 := hb.trans (b2.mono hsz); have e2 := hb1.trans (b2.mono hb1.size); have d2 : w2.cell? ⟨g, o + k, none⟩ = some (.int .i32 32) := (e2.cell (by exact cell_lt (unhide D0))).trans (unhide D0))
            | (refine (unhide HI _).mono ?_; rintro e w3 ⟨rfl, b3⟩; clear HI; have c3 := c2.trans (b3.mono c2.size); have e3 := e2.trans (b3.mono e2.size); have d3 : w3.cell? ⟨g, o + k, none⟩ = some (.int .i32 32) := (e3.cell (by exact cell_lt (unhide D0))).trans (unhide D0))))
          go_roundw
          case rel => exact ⟨k + 1, by omega, by go_num, c3, e3⟩
          case measure => simp [intOf]; omega
        · have HI := hide (unhide HI5 false (decide_eq_false e5))
          clear HI5 p5
          go_wp2_with (go_at_call 16; (first
            | (refine (unhide HI6 _).mono ?_; rintro e w2 ⟨rfl, b2⟩; clear HI6; have c2 := hb.trans (b2.mono hsz); have e2 := hb1.trans (b2.mono hb1.size); have d2 : w2.cell? ⟨g, o + k, none⟩ = some (.int .i32 x) := (e2.cell (by exact cell_lt (unhide D0))).trans (unhide D0))
            | (refine (unhide HI _).mono ?_; rintro e w3 ⟨rfl, b3⟩; clear HI; have c3 := c2.trans (b3.mono c2.size); have e3 := e2.trans (b3.mono e2.size))))
          go_roundw
          case rel => exact ⟨k + 1, by omega, by go_num, c3, e3⟩
          case measure => simp [intOf]; omega
      · have hzl : ¬ (k : Int) < (N : Int) := by omega
        have hL2 := hL.keep hb
        have R2 := hide ((unhide R1).below hb1)
        cases fo
        · clear H3
          go_wp2_with (first
            | (go_at_call 11; refine (unhide H2 _ _ hL2 (unhide R2)).mono ?_; rintro e w3 ⟨v3, rfl, r3, b3⟩; have c3 := hb.trans (b3.mono hsz); have R3 := hide r3; have R23 := hide ((unhide R2).below b3); clear r3)
            | (go_at_call 7; refine (unhide S1 _ _ _ (unhide R3) (unhide R23)).mono ?_; rintro e w4 ⟨rfl, b4⟩; have c4 := c3.trans (b4.mono c3.size); have hL4 := hL.keep c4)
            | (go_at_call 10; refine (unhide HA _ hL4).mono ?_; rintro e w5 ⟨rfl, b5⟩; have c5 := c4.trans (b5.mono c4.size)))
          go_ret
          exact ⟨rfl, c5⟩
        · have H3' := hide (fun v W => unhide H3 v W rfl)
          clear H3
          go_wp2_with (first
            | (go_at_call 13; refine (unhide H3' _ _ hL2 (unhide R2)).mono ?_; rintro e w2 ⟨rfl, b2⟩; have c2 := hb.trans (b2.mono hsz); have hL3 := hL.keep c2; have R2' := hide ((unhide R2).below b2))
            | (go_at_call 11; refine (unhide H2 _ _ hL3 (unhide R2')).mono ?_; rintro e w3 ⟨v3, rfl, r3, b3⟩; have c3 := c2.trans (b3.mono c2.size); have R3 := hide r3; have R23 := hide ((unhide R2').below b3); clear r3)
            | (go_at_call 7; refine (unhide S1 _ _ _ (unhide R3) (unhide R23)).mono ?_; rintro e w4 ⟨rfl, b4⟩; have c4 := c3.trans (b4.mono c3.size); have hL4 := hL.keep c4)
            | (go_at_call 10; refine (unhide HA _ hL4).mono ?_; rintro e w5 ⟨rfl, b5⟩; have c5 := c4.trans (b5.mono c4.size)))
          go_ret
          exact ⟨rfl, c5⟩
end Go.Proofs.YtbffmopenjjjlaaDoor
