/- The document's pair of layer 18. -/
import Derived.Test.YtnhojjheoafhaaaDoorRVl18
import Derived.Test.YtnhojjheoafhaaaDoorDl18
namespace Go.Proofs.YtnhojjheoafhaaaDoor
set_option maxRecDepth 100000
open Go.RowKit

/-- What the document's pair tells. -/
def pdOk (l : List Int) (x y : ByteArray) (ok : Bool) : Prop := match pR l with
  | some p => ok = true ∧ x = p.nam ∧ y = p.val
  | none => ok = false
theorem pd_not {l : List Int} (h : ¬ ∃ x ∈ l, x = 61) (x y : ByteArray) : pdOk l x y false := by
  unfold pdOk pR
  rw [if_neg (fun q => h ((any61 l).1 q))]
theorem pd_of {l u t : List Int} {x y : ByteArray} {ok : Bool} (h61 : ∃ x ∈ l, x = 61) (hc : cutE l = (u, t)) (h : vdOk t y ok) (hx : x = strOfNums (u.map smlC)) : pdOk l x y ok := by
  unfold pdOk pR
  unfold vdOk at h
  rw [if_pos ((any61 l).2 h61), hc]
  simp only
  split at h
  · rename_i c v hv
    rw [hv]
    exact ⟨h.1, hx, h.2⟩
  · rename_i hn
    split
    · rename_i p hp
      split at hp
      · rename_i c v hv
        exact absurd hv (hn c v)
      · cases hp
    · exact h
/-- Where the first '=' stands. -/
theorem cut_at {l : List Int} {k : Nat} (hk : k < l.length) (h61 : l.getD k 0 = 61) (h : ∀ j, j < k → l.getD j 0 ≠ 61) : (∃ x ∈ l, x = 61) ∧ cutE l = (l.take k, l.drop (k + 1)) := by
  have e : l = l.take k ++ 61 :: l.drop (k + 1) := by
    rw [← h61, ← drop_consI l k hk, List.take_append_drop]
  refine ⟨⟨61, by rw [e]; simp, rfl⟩, ?_⟩
  have := cutE_word (l.drop (k + 1)) (l.take k) (fun x hx => by
    obtain ⟨j, hj, rfl⟩ := List.getElem_of_mem hx
    rw [List.length_take] at hj
    have := h j (by omega)
    rw [List.getElem_take]
    simpa [List.getD, show j < l.length by omega] using this)
  rw [← e] at this
  exact this
theorem no_at {l : List Int} (h : ∀ j, j < l.length → l.getD j 0 ≠ 61) : ¬ ∃ x ∈ l, x = 61 := fun ⟨x, hx, e⟩ => by
  obtain ⟨j, hj, rfl⟩ := List.getElem_of_mem hx
  have := h j hj
  rw [List.getD, List.getElem?_eq_getElem hj] at this
  exact this e
theorem Sb.conv_below {g cap : Nat} {X : List Int} {w w2 : World} (h : Sb g X w) (hb : Below w.heap.size w w2) : (convert 55 9 (.slice (some ⟨g, 0, none⟩) X.length cap)).run Tryd.prog w2 = .ok (.string (strOfNums X)) w2 := by
  refine run_convert_bytes_arg w2 55 5 Tryd.underlying55 Tryd.underlying5 g 0 X.length cap X rfl ?_ 9 Tryd.underlying9
  intro i hi
  rw [Nat.zero_add]
  exact (hb.cell (cell_lt (h i hi).1)).trans (h i hi).1
set_option maxHeartbeats 6400000 in
theorem rdpair_any (s : ByteArray) (w : World) (hs : s.size ≤ 3000) : Calls Tryd.prog 13 #[.string s] w fun e w' => ∃ x y ok, e = .returned (.tuple #[.agg #[.string x, .string y], .bool ok]) ∧ pdOk (nums s) x y ok ∧ Below w.heap.size w w' := by
  have hnl := hide (nums_length s)
  have CV := hide (fun t W (h : t.size ≤ s.size) => rdvalue_any t W (by omega))
  have B0 : Hid (Bp w.heap.size ⟨#[]⟩ ⟨#[]⟩ (w.alloc (.cells #[.string ⟨#[]⟩, .string ⟨#[]⟩] 44))) := heap_new w _
  have b0 := Below.one w (.cells #[.string ⟨#[]⟩, .string ⟨#[]⟩] 44)
  have z0 : Hid ((w.alloc (.cells #[.string ⟨#[]⟩, .string ⟨#[]⟩] 44)).heap.size = w.heap.size + 1) := World.size_alloc _ _
  go_enter Tryd.func13, Tryd.ntmps13
  go_wp2
  generalize (w.alloc (.cells #[.string ⟨#[]⟩, .string ⟨#[]⟩] 44)) = w0 at *
  go_loop [4] (fun vi => ∃ k : Nat, k ≤ s.size ∧ vi = .int .i64 (k : Int) ∧ Hid (∀ j, j < k → (nums s).getD j 0 ≠ 61)) (fun i => s.size - (intOf i).toNat)
  case atStart => exact ⟨0, Nat.zero_le _, rfl, fun j hj => absurd hj (Nat.not_lt_zero _)⟩
  case round =>
    obtain ⟨k, hk, rfl, HK⟩ := hrel
    by_cases hlt : k < s.size
    · have hzl : (k : Int) < (s.size : Int) := by omega
      have hz0 : (0 : Int) ≤ (k : Int) := by omega
      obtain ⟨c, hc⟩ : ∃ c : Int, (s[k].toNat : Int) = c := ⟨_, rfl⟩
      have HAT : Hid ((nums s).getD k 0 = c) := by show _ = _; rw [nums_at s k hlt]; exact hc
      by_cases h61 : c = 61
      · have HC := hide (cut_at (l := nums s) (k := k) (by rw [unhide hnl]; exact hlt) (by rw [unhide HAT]; exact h61) (unhide HK))
        subst h61
        have hng : ¬ (s.size : Int) ≤ (k : Int) := by omega
        have zk1 : (k : Int) + 1 ≤ (s.size : Int) := by omega
        have zks : (k : Int) ≤ (s.size : Int) := by omega
        have wk1 : IntKind.i64.wrap ((k : Int) + 1) = ((k + 1 : Nat) : Int) := by rw [wrap_in (by omega) (by omega)]; omega
        obtain ⟨t, ht⟩ : ∃ t, t = s.extract 0 k := ⟨_, rfl⟩
        have htn : Hid (nums t = (nums s).take k) := by show _ = _; rw [ht, nums_sub]; simp
        have hts : t.size = k := by rw [← nums_length, unhide htn, List.length_take, unhide hnl]; omega
        obtain ⟨w1, cap1, hcv, hsb, hb1⟩ := bytes_sb t w0
        rw [hts] at hcv
        rw [ht] at hcv
        have HSB := hide hsb
        have htl : Hid ((nums t).length = k) := by show _ = _; rw [nums_length]; exact hts
        have hz : (s.extract (k + 1) s.size).size ≤ s.size := by rw [ByteArray.size_extract]; omega
        have HZ : Hid (nums (s.extract (k + 1) s.size) = (nums s).drop (k + 1)) := nums_drop s (k + 1)
        have CV2 := hide (fun W => unhide CV _ W hz)
        have htb : Hid (∀ m, 0 ≤ (nums t).getD m 0 ∧ (nums t).getD m 0 < 256) := getD_nums t
        clear hsb HK HAT CV hts ht hz
        go_wp2
        go_loopw [6] (fun i wr => ∃ m : Nat, m ≤ k ∧ i = .int .i64 (m : Int) ∧ Hid (Sb w0.heap.size (((nums t).take m).map smlC ++ (nums t).drop m) wr) ∧ Below w0.heap.size w0 wr) (fun i _ => k - (intOf i).toNat)
        case atStart => exact ⟨0, Nat.zero_le _, rfl, by simpa using HSB, hb1⟩
        case round =>
          obtain ⟨m, hm, rfl, HX, hbr⟩ := hrel
          by_cases hlm : m < k
          · have yzl : (m : Int) < (k : Int) := by omega
            have yz0 : (0 : Int) ≤ (m : Int) := by omega
            obtain ⟨st1, st2⟩ := sml_step (nums t) m (by rw [unhide htl]; exact hlm)
            have hsl := sml_len (nums t) m (by rw [unhide htl]; omega)
            rw [unhide htl] at hsl
            obtain ⟨q1, f1⟩ := unhide HX m (by omega)
            rw [st1] at q1
            have cb := unhide htb m
            have HP : Hid (Sb w0.heap.size (((nums t).take (m + 1)).map smlC ++ (nums t).drop (m + 1)) (wr.setCell ⟨w0.heap.size, m, none⟩ (.int .u8 (smlC ((nums t).getD m 0))))) := by
              have := (unhide HX).put (k := m) (by omega) (smlC ((nums t).getD m 0))
              rw [st2] at this
              exact this
            have HQ : Hid (smlC ((nums t).getD m 0) = (nums t).getD m 0 → Sb w0.heap.size (((nums t).take (m + 1)).map smlC ++ (nums t).drop (m + 1)) wr) := fun h => by
              have := unhide HX
              have e : ((nums t).take m).map smlC ++ (nums t).drop m = ((nums t).take (m + 1)).map smlC ++ (nums t).drop (m + 1) := by
                rw [← st2, h, ← st1, List.getD, List.getElem?_eq_getElem (by omega)]
                simp
              rw [e] at this
              exact this
            clear st1 st2 HX hsl
            generalize (nums t).getD m 0 = c at *
            by_cases c1 : 65 ≤ c
            · by_cases c2 : c ≤ 90
              · have e : smlC c = c + 32 := by unfold smlC; rw [if_pos ⟨c1, c2⟩]
                rw [e] at HP
                have wc : IntKind.u8.wrap (c + 32) = c + 32 := u8w (by omega) (by omega)
                clear HQ e
                go_wp2
                go_roundw
                case rel => exact ⟨m + 1, by omega, by go_num, unhide HP, hbr.setCell (Nat.le_refl _) _⟩
                case measure => simp [intOf]; omega
              · have e : smlC c = c := by unfold smlC; rw [if_neg (by omega)]
                have HE := hide (unhide HQ e)
                clear HQ HP e
                go_wp2
                go_roundw
                case rel => exact ⟨m + 1, by omega, by go_num, unhide HE, hbr⟩
                case measure => simp [intOf]; omega
            · have e : smlC c = c := by unfold smlC; rw [if_neg (by omega)]
              have HE := hide (unhide HQ e)
              clear HQ HP e
              go_wp2
              go_roundw
              case rel => exact ⟨m + 1, by omega, by go_num, unhide HE, hbr⟩
              case measure => simp [intOf]; omega
          · have yzl : ¬ (m : Int) < (k : Int) := by omega
            have h2 := unhide HX
            rw [List.take_of_length_le (by rw [unhide htl]; omega), List.drop_eq_nil_of_le (by rw [unhide htl]; omega), List.append_nil] at h2
            have HCV := hide (fun W hb => h2.conv_below (w2 := W) (cap := cap1) hb)
            rw [List.length_map, unhide htl, unhide htn] at HCV
            have B3 := hide ((unhide B0).keep hbr)
            have b3 := b0.trans (hbr.mono (by rw [unhide z0]; omega))
            clear h2 HX
            go_wp2_with (go_at_call 21; refine (unhide CV2 _).mono ?_; rintro e w4 ⟨y, ok, rfl, h4, b4⟩; have H4 := hide h4; clear h4; have cv := unhide HCV _ b4; have B4 := hide ((unhide B3).keep b4); have c40 := blk_cell (unhide B4) 0; have c41 := blk_cell (unhide B4) 1; have f40 := (unhide B4).free 0; have f41 := (unhide B4).free 1; have BL := hide (b3.trans (b4.mono b3.size)))
            try simp only [Exit.inBlock, Exit.then]
            refine bodyPost_ret (res_cell2 rfl _ _ w.heap.size _ _ rfl ((unhide B4).put _ _)) rfl ?_
            exact ⟨_, _, _, rfl, pd_of (unhide HC).1 (unhide HC).2 (by rw [← unhide HZ]; exact unhide H4) (by first | rfl | rw [List.map_take]), ((unhide BL).setCell (Nat.le_refl _) _).setCell (Nat.le_refl _) _⟩
      · have h61' : (c == 61) = false := by rw [beq_eq_false_iff_ne]; exact h61
        have HK2 : Hid (∀ j, j < k + 1 → (nums s).getD j 0 ≠ 61) := fun j hj => by
          by_cases e : j = k
          · rw [e, unhide HAT]; exact h61
          · exact unhide HK j (by omega)
        clear HK HAT h61
        go_wp2
        go_round
        case rel => exact ⟨k + 1, by omega, by go_num, unhide HK2⟩
        case measure => simp [intOf]; omega
    · have hzl : ¬ (k : Int) < (s.size : Int) := by omega
      have hng : (s.size : Int) ≤ (k : Int) := by omega
      have HN := hide (pd_not (no_at (l := nums s) (fun j hj => unhide HK j (by rw [unhide hnl] at hj; omega))))
      have c00 := blk_cell (unhide B0) 0
      have c01 := blk_cell (unhide B0) 1
      have f00 := (unhide B0).free 0
      have f01 := (unhide B0).free 1
      clear HK
      go_wp2
      refine bodyPost_ret (res_cell2 rfl _ _ w.heap.size _ _ rfl ((unhide B0).put _ _)) rfl ?_
      first | exact ⟨_, _, _, rfl, unhide HN _ _, (b0.setCell (Nat.le_refl _) _).setCell (Nat.le_refl _) _⟩ | exact ⟨_, _, .inl ⟨rfl, unhide HN _ _, (b0.setCell (Nat.le_refl _) _).setCell (Nat.le_refl _) _⟩⟩
end Go.Proofs.YtnhojjheoafhaaaDoor
