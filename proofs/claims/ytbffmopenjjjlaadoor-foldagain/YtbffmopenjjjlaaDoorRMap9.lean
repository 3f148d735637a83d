/- The document's Map and Folded of layer 9. -/
import Derived.Test.YtbffmopenjjjlaaDoorROne9
import Derived.Test.YtbffmopenjjjlaaDoorRef2
namespace Go.Proofs.YtbffmopenjjjlaaDoor
open Go.RowKit

def In32' (r : Int) : Prop := -2147483648 ≤ r ∧ r ≤ 2147483647
/-- What a character is mapped to. -/
def mapO (fo : Bool) (r : Int) : List Int := if kd r = 6 then [] else if kd r = 5 then [32] else if fo then foldL r else [r]
def mapL (fo : Bool) (l : List Int) : List Int := l.flatMap (mapO fo)
theorem mapO_len (fo : Bool) (r : Int) : (mapO fo r).length ≤ 3 := by
  unfold mapO
  split
  · simp
  · split
    · simp
    · split
      · exact (fold_len r).2
      · simp
theorem mapL_len (fo : Bool) (l : List Int) : (mapL fo l).length ≤ 3 * l.length := by
  induction l with
  | nil => simp [mapL]
  | cons x l ih =>
    have := mapO_len fo x
    unfold mapL at ih ⊢
    rw [List.flatMap_cons, List.length_append, List.length_cons]
    omega
theorem mapL_take (fo : Bool) (l : List Int) (k : Nat) (h : k < l.length) : mapL fo (l.take (k + 1)) = mapL fo (l.take k) ++ mapO fo (l.getD k 0) := by
  rw [take_snoc l k h]; simp [mapL]
theorem mapL_takeLen (fo : Bool) (l : List Int) (k : Nat) : (mapL fo (l.take k)).length ≤ 3 * l.length := Nat.le_trans (mapL_len fo _) (by rw [List.length_take]; omega)

set_option maxHeartbeats 800000 in
theorem rmap9_empty (fo : Bool) (a : Option Addr) (cap : Nat) (w : World) :
    Calls Tryd.prog 12 #[.bool fo, .slice a 0 cap] w fun e w' => ∃ v, e = .returned v ∧ Rn w.heap.size v [] w' ∧ Below w.heap.size w w' := by
  go_enter Tryd.func12, Tryd.ntmps12
  go_wp2
  refine wp_loop_rounds 1 ?_
  rw [rounds_succ]
  go_wp2
  go_ret
  exact ⟨_, rfl, Rn.nil _ _, Below.refl _ _⟩

set_option maxHeartbeats 6400000 in
theorem rmap9_some (fo : Bool) (b off cap : Nat) (l : List Int) (w : World) (hlen : l.length ≤ 20000) (h0 : 0 < l.length) (hin : ∀ i, i < l.length → In32' (l.getD i 0))
    (hcell : ∀ i, i < l.length → w.cell? ⟨b, off + i, none⟩ = some (.int .i32 (l.getD i 0))) :
    Calls Tryd.prog 12 #[.bool fo, .slice (some ⟨b, off, none⟩) l.length cap] w fun e w' => ∃ v, e = .returned v ∧ Rn w.heap.size v (mapL fo l) w' ∧ Below w.heap.size w w' := by
  obtain ⟨i0, hi, hz0, hz1, hz2⟩ := info_parts elem_info
  have HC := hide hcell
  have HIN := hide hin
  have HKD := hide rkind_any
  clear hcell hin
  go_enter Tryd.func12, Tryd.ntmps12
  go_wp2
  go_loopw [5, 6] (fun v i wr => ∃ k : Nat, k ≤ l.length ∧ i = .int .i64 (k : Int) ∧ Rn w.heap.size v (mapL fo (l.take k)) wr ∧ Below w.heap.size w wr) (fun _ i _ => l.length - (intOf i).toNat)
  case atStart => exact ⟨0, Nat.zero_le _, rfl, Rn.nil _ _, Below.refl _ _⟩
  case round =>
    obtain ⟨k, hk, rfl, hown, hb⟩ := hrel
    have hsz := hb.size
    by_cases hlt : k < l.length
    · have hzl : (k : Int) < (l.length : Int) := by omega
      have hz0' : (0 : Int) ≤ (k : Int) := by omega
      have g1 := unhide HC k hlt
      have k1 : wr.cell? ⟨b, off + k, none⟩ = some (.int .i32 (l.getD k 0)) := (hb.cell (by exact cell_lt g1)).trans g1
      have HS := hide (mapL_take fo l k hlt)
      have hTl := mapL_takeLen fo l k
      have HA := hide (fun W => rone9_any (l.getD k 0) W (unhide HIN k hlt))
      have HK := hide (unhide HKD (l.getD k 0))
      obtain ⟨hp0, hp3⟩ := fold_len (l.getD k 0)
      clear g1
      generalize l.getD k 0 = x at *
      generalize mapL fo (l.take k) = T at *
      obtain ⟨xa, xc, hv⟩ := hown.shape
      obtain ⟨N, hN⟩ : ∃ N, N = T.length := ⟨_, rfl⟩
      rw [← hN] at hv hTl
      have HN := hide hN
      clear hN
      subst hv
      have HO := hide hown
      clear hown
      obtain ⟨K, hK⟩ : ∃ K, kd x = K := ⟨_, rfl⟩
      rw [hK] at HK
      have HKE := hide hK
      clear hK
      have hm1 : N + 1 ≤ maxLen := by unfold maxLen; omega
      have hm2 : (N + 1) * 4 ≤ 140737488355328 := by omega
      by_cases e6 : K = 6
      · subst e6
        have HE : Hid (mapO fo x = []) := by show _ = _; unfold mapO; rw [unhide HKE, if_pos rfl]
        clear HA
        go_wp2_with (go_at_call 20; refine (unhide HK _).mono ?_; rintro e w1 ⟨rfl, b1⟩)
        go_roundw
        case rel => exact ⟨k + 1, by omega, by go_num, by rw [unhide HS, unhide HE, List.append_nil]; exact (unhide HO).below b1, hb.trans (b1.mono hsz)⟩
        case measure => simp [intOf]; omega
      · have z6 : (K == 6) = false := by simpa using e6
        by_cases e5 : K = 5
        · subst e5
          have HE : Hid (mapO fo x = [32]) := by show _ = _; unfold mapO; rw [unhide HKE, if_neg (by decide), if_pos rfl]
          clear HA
          go_wp2_with (first
            | (go_at_call 20; refine (unhide HK _).mono ?_; rintro e w1 ⟨rfl, b1⟩; have hb1 := hb.trans (b1.mono hsz); have hs1 := hb1.size; have HO1 := hide ((unhide HO).below b1))
            | (at_builtin; refine wpList_append_lies _ rfl _ _ 23 rfl w.heap.size 21 i0 _ 1 4 Tryd.underlying23 hi hz0 hz1 hz2 rfl (by omega) _ N _ rfl (World.ownsRow.alloc (Rn.own (unhide HN) (unhide HO1)) _) ⟨w1.heap.size, 0, none⟩ 1 1 [.int .i32 32] rfl rfl (World.news_of_block (cs := #[.int .i32 32]) (t := 21) (fr := (0, 0)) (heap_new w1 _)) (by simp [Value.oneCell']) (by omega) hm1 hm2 (by simp; omega) (w1.heap.size + 1) (by simp) ?_; intro g9 cap9 w9 hown9 hgrow9 hat9 hlt9))
          go_roundw
          case rel =>
            refine ⟨k + 1, by omega, by go_num, ?_, (hb1.alloc (by omega) _).trans (below_own hgrow9 (by simp; omega) (own_block (Rn.own (unhide HN) (unhide HO1))))⟩
            rw [unhide HS, unhide HE]
            exact Rn.push (unhide HN) hown9
          case measure => simp [intOf]; omega
        · have z5 : (K == 5) = false := by simpa using e5
          cases fo
          · have HE : Hid (mapO false x = [x]) := by show _ = _; unfold mapO; rw [unhide HKE, if_neg e6, if_neg e5]; rfl
            clear HA
            go_wp2_with (first
              | (go_at_call 20; refine (unhide HK _).mono ?_; rintro e w1 ⟨rfl, b1⟩; have hb1 := hb.trans (b1.mono hsz); have hs1 := hb1.size; have HO1 := hide ((unhide HO).below b1); have k2 : w1.cell? ⟨b, off + k, none⟩ = some (.int .i32 x) := (b1.cell (by exact cell_lt k1)).trans k1)
              | (at_builtin; refine wpList_append_lies _ rfl _ _ 23 rfl w.heap.size 21 i0 _ 1 4 Tryd.underlying23 hi hz0 hz1 hz2 rfl (by omega) _ N _ rfl (World.ownsRow.alloc (Rn.own (unhide HN) (unhide HO1)) _) ⟨w1.heap.size, 0, none⟩ 1 1 [.int .i32 x] rfl rfl (World.news_of_block (cs := #[.int .i32 x]) (t := 21) (fr := (0, 0)) (heap_new w1 _)) (by simp [Value.oneCell']) (by omega) hm1 hm2 (by simp; omega) (w1.heap.size + 1) (by simp) ?_; intro g9 cap9 w9 hown9 hgrow9 hat9 hlt9))
            go_roundw
            case rel =>
              refine ⟨k + 1, by omega, by go_num, ?_, (hb1.alloc (by omega) _).trans (below_own hgrow9 (by simp; omega) (own_block (Rn.own (unhide HN) (unhide HO1))))⟩
              rw [unhide HS, unhide HE]
              exact Rn.push (unhide HN) hown9
            case measure => simp [intOf]; omega
          · have HE : Hid (mapO true x = foldL x) := by show _ = _; unfold mapO; rw [unhide HKE, if_neg e6, if_neg e5]; rfl
            generalize foldL x = p at *
            obtain ⟨q, hq⟩ : ∃ q, q = p.length := ⟨_, rfl⟩
            rw [← hq] at hp3 hp0
            have HQ := hide hq
            clear hq
            have hm3 : N + q ≤ maxLen := by unfold maxLen; omega
            have hm4 : (N + q) * 4 ≤ 140737488355328 := by omega
            go_wp2_with (first
              | (go_at_call 20; refine (unhide HK _).mono ?_; rintro e w1 ⟨rfl, b1⟩; have hb1 := hb.trans (b1.mono hsz); have hs1 := hb1.size; have HO1 := hide ((unhide HO).below b1); have k2 : w1.cell? ⟨b, off + k, none⟩ = some (.int .i32 x) := (b1.cell (by exact cell_lt k1)).trans k1)
              | (go_at_call 9; refine (unhide HA _).mono ?_; rintro e w2 ⟨v2, rfl, hr2, hb2⟩; obtain ⟨g2, c2, hv2, hBg2, hgs2⟩ := hr2.held (by rw [← unhide HQ]; exact hp0); rw [← unhide HQ] at hv2; subst hv2; have HR2 := hide hr2; clear hr2; have HO2 := hide ((unhide HO1).below hb2); have hb3 := hb1.trans (hb2.mono hs1); have hs2 := hb2.size)
              | (at_builtin; refine wpList_append_lies _ rfl _ _ 23 rfl w.heap.size 21 i0 _ 1 4 Tryd.underlying23 hi hz0 hz1 hz2 rfl (by omega) _ N _ rfl (Rn.own (unhide HN) (unhide HO2)) ⟨g2, 0, none⟩ q c2 (p.map (Value.int .i32)) rfl (by rw [List.length_map, ← unhide HQ, Nat.mul_one]) (Rn.all (unhide HR2)) (ints_one _) hp0 hm3 hm4 (by omega) w2.heap.size rfl ?_; intro g9 cap9 w9 hown9 hgrow9 hat9 hlt9))
            go_roundw
            case rel =>
              refine ⟨k + 1, by omega, by go_num, ?_, hb3.trans (below_own hgrow9 (by omega) (own_block (unhide HO2)))⟩
              rw [unhide HS, unhide HE]
              unfold Rn
              rw [List.length_append, ← unhide HN, ← unhide HQ, List.map_append]
              exact hown9
            case measure => simp [intOf]; omega
    · have hzl : ¬ (k : Int) < (l.length : Int) := by omega
      obtain rfl : k = l.length := by omega
      rw [List.take_length] at hown
      obtain ⟨xa, xc, hv⟩ := hown.shape
      obtain ⟨N, hN⟩ : ∃ N, N = (mapL fo l).length := ⟨_, rfl⟩
      rw [← hN] at hv
      clear hN
      have HO := hide hown
      clear hown
      subst hv
      go_wp2
      go_ret
      exact ⟨.slice xa N xc, rfl, unhide HO, hb⟩
/-- The document's Map of layer 9, of any row. -/
theorem rmap9_any (fo : Bool) (v : Value) (l : List Int) (w : World) (hlen : l.length ≤ 20000) (hin : ∀ i, i < l.length → In32' (l.getD i 0)) (h : Row w v l) :
    Calls Tryd.prog 12 #[.bool fo, v] w fun e w' => ∃ v, e = .returned v ∧ Rn w.heap.size v (mapL fo l) w' ∧ Below w.heap.size w w' := by
  obtain ⟨a, c, rfl, h1⟩ := h
  by_cases h0 : l.length = 0
  · obtain rfl : l = [] := List.eq_nil_of_length_eq_zero h0
    exact rmap9_empty fo a c w
  · obtain ⟨b1, o1, rfl, k1⟩ := h1 (by omega)
    exact rmap9_some fo b1 o1 c l w hlen (by omega) hin k1
end Go.Proofs.YtbffmopenjjjlaaDoor
