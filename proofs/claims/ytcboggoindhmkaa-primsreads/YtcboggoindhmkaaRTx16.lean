/- The document's Texts and SameTexts of layer 16. -/
import Derived.Test.YtcboggoindhmkaaDh16
namespace Go.Proofs.Ytcboggoindhmkaa
open Go.RowKit

set_option maxHeartbeats 3200000 in
theorem rtexts_any (e : El) (v : Value) (w : World) (hlen : e.els.length ≤ 1000) (hV : ElV w e v) : Calls Try.prog 25 #[v] w fun r w' => ∃ v', r = .returned (.tuple #[v', .int .i64 (txsE e).2]) ∧ Ts w' v' (txsE e).1 ∧ Below w.heap.size w w' := by
  obtain ⟨i0, hi, hz0, hz1, hz2⟩ := info_parts str_info
  have HT : Hid (txsE e = if e.made && txsB e.els then (e.els.map El.con, 0) else ([], 160)) := rfl
  obtain ⟨ad, cap, hv, hn, hc⟩ := hV.open
  subst hv
  have g0 := Gr.one w (bxE e ad cap)
  have HBX := hide (Bx.new w (.int .i64 e.cls) (.bool e.made) (.int .i64 e.num) (.string e.con) (.slice ad e.els.length cap) 26)
  have HG0 := hide g0.below
  have TN : ∀ W, Ts W (.slice none 0 0) [] := fun W => ⟨none, 0, rfl, fun h => absurd h (Nat.lt_irrefl _)⟩
  have HTN := hide TN
  have HL : Hid (e.els.length = 0 ∨ ∃ g off, ad = some ⟨g, off, none⟩ ∧ ElV.L (w.alloc (bxE e ad cap)) e.els g off) := by
    rcases hc with h | ⟨g, off, h1, h2⟩
    · exact .inl h
    · exact .inr ⟨g, off, h1, ElV.L.below g0.below _ _ _ h2⟩
  clear hc TN hV g0
  generalize txsE e = T at *
  generalize hw0 : w.alloc (bxE e ad cap) = w0 at *
  have HW0 := hide hw0
  clear hw0
  have hE : Hid (w.alloc (.cells #[.int .i64 e.cls, .bool e.made, .int .i64 e.num, .string e.con, .slice ad e.els.length cap] 26) = w0) := unhide HW0
  generalize e.els = els at *
  go_enter Try.func25, Try.ntmps25
  go_wp2
  rw [unhide hE]
  go_loopw [4, 5] (fun vo vi wr => ∃ i : Nat, i ≤ els.length ∧ vi = .int .i64 (i : Int) ∧ Hid (txsB els = txsB (els.drop i)) ∧ Ot w0.heap.size vo ((els.take i).map El.con) wr ∧ Below w0.heap.size w0 wr) (fun _ i _ => els.length - (intOf i).toNat)
  case atStart => exact ⟨0, Nat.zero_le _, rfl, rfl, Ot.nil _ _, Below.refl _ _⟩
  case round =>
    obtain ⟨i, hile, rfl, HB, OT, bw⟩ := hrel
    have BXR := hide ((unhide HBX).below bw)
    have b1 := (unhide BXR).c1
    have b4 := (unhide BXR).c4
    by_cases hlt : i < els.length
    · have hzl : (i : Int) < (els.length : Int) := by omega
      have hz0' : (0 : Int) ≤ (i : Int) := by omega
      obtain ⟨g, off, rfl, hl⟩ := (unhide HL).resolve_left (by omega)
      obtain ⟨ad', cap', q0, q1, q2, q3, q4, hv⟩ := hl.at i hlt
      have k0 := (bw.cell (cell_lt q0)).trans q0
      have k1 := (bw.cell (cell_lt q1)).trans q1
      have k2 := (bw.cell (cell_lt q2)).trans q2
      have k3 := (bw.cell (cell_lt q3)).trans q3
      have k4 := (bw.cell (cell_lt q4)).trans q4
      have HS := hide (txsB_drop els i hlt)
      have HK := hide (con_take els i hlt)
      have HX : Hid (i = ((els.take i).map El.con).length) := by show _ = _; simp; omega
      have OW := hide (OT.own (unhide HX))
      obtain ⟨ao, co, hvo⟩ := OT.shape
      rw [← unhide HX] at hvo
      subst hvo
      have HXO := hide OT
      clear q0 q1 q2 q3 q4 hv hl HL OT
      generalize els.getD i el0 = x at *
      cases hx : isE x 0 4 false
      · rw [hx] at HS
        have HE : Hid (T = ([], 160)) := by show _ = _; rw [unhide HT, unhide HB, unhide HS]; simp
        have hneg : (x.cls != 0) = true ∨ (x.cls = 0 ∧ (x.num != 4) = true) ∨ (x.cls = 0 ∧ x.num = 4 ∧ x.made = true) := by
          unfold isE at hx
          by_cases h1 : x.cls = 0
          · by_cases h2 : x.num = 4
            · refine .inr (.inr ⟨h1, h2, ?_⟩)
              rw [h1, h2] at hx
              simpa using hx
            · exact .inr (.inl ⟨h1, by simpa using h2⟩)
          · exact .inl (by simpa using h1)
        clear HT HB HS hx HK HX OW HXO
        rcases hneg with h1 | ⟨h1, h2⟩ | ⟨h1, h2, h3⟩
        · go_wp2
          go_ret2
          exact ⟨_, ret_ve (congrArg Prod.snd (unhide HE)).symm, (by rw [unhide HE]; exact unhide HTN _), below_next (below_next (unhide HG0) bw) (Below.one wr _)⟩
        · rw [h1] at k0
          go_wp2
          go_ret2
          exact ⟨_, ret_ve (congrArg Prod.snd (unhide HE)).symm, (by rw [unhide HE]; exact unhide HTN _), below_next (below_next (unhide HG0) bw) (Below.one wr _)⟩
        · rw [h3] at k1
          rw [h1] at k0
          rw [h2] at k2
          go_wp2
          go_ret2
          exact ⟨_, ret_ve (congrArg Prod.snd (unhide HE)).symm, (by rw [unhide HE]; exact unhide HTN _), below_next (below_next (unhide HG0) bw) (Below.one wr _)⟩
      · rw [hx] at HS
        have hpos : x.cls = 0 ∧ x.num = 4 ∧ x.made = false := by
          unfold isE at hx
          simp at hx
          exact hx
        obtain ⟨p0, p1, p2⟩ := hpos
        rw [p0] at k0
        rw [p1] at k2
        rw [p2] at k1
        have hm1 : i + 1 ≤ maxLen := by unfold maxLen; omega
        have BW := hide bw
        have OW2 := hide (own_below (unhide OW) (Below.one wr (.cells #[.int .i64 0, .bool false, .int .i64 4, .string x.con, .slice ad' x.els.length cap'] 26)))
        have SZ2 : Hid (w0.heap.size ≤ ((wr.alloc (.cells #[.int .i64 0, .bool false, .int .i64 4, .string x.con, .slice ad' x.els.length cap'] 26)).alloc (.cells #[.string x.con] 9)).heap.size) := by
          have := bw.size
          show _ ≤ _
          simp
          omega
        have BW2 := hide (below_next bw (Below.one wr (.cells #[.int .i64 0, .bool false, .int .i64 4, .string x.con, .slice ad' x.els.length cap'] 26)))
        clear hx bw p0 p1 p2
        generalize (els.take i).map El.con = X at *
        go_wp2_with (at_builtin; refine wpList_append_lies _ rfl _ _ 52 rfl w0.heap.size 9 i0 _ 1 16 Try.underlying52 hi hz0 hz1 hz2 rfl (by omega) _ i _ rfl (World.ownsRow.alloc (unhide OW2) _) ⟨wr.heap.size + 1, 0, none⟩ 1 1 [.string x.con] rfl rfl (World.news_of_block (cs := #[.string x.con]) (t := 9) (fr := (0, 0)) (by have := heap_new (wr.alloc (.cells #[.int .i64 0, .bool false, .int .i64 4, .string x.con, .slice ad' x.els.length cap'] 26)) (.cells #[.string x.con] 9); rwa [show (wr.alloc (.cells #[.int .i64 0, .bool false, .int .i64 4, .string x.con, .slice ad' x.els.length cap'] 26)).heap.size = wr.heap.size + 1 by simp] at this)) (by simp [Value.oneCell']) (by omega) hm1 (by omega) (unhide SZ2) (wr.heap.size + 1 + 1) (by simp) ?_; intro g9 cap9 w9 hown9 hgrow9 hat9 hlt9)
        go_roundw
        case rel =>
          refine ⟨i + 1, by omega, by go_num, (by show _ = _; rw [unhide HB, unhide HS]; rfl), ?_, ?_⟩
          · rw [unhide HK]
            exact Ot.push (unhide HX) hown9
          · exact (unhide BW2).trans (below_own (grown_new hgrow9) (unhide BW2).size (own_block (unhide OW2)))
        case measure => simp [intOf]; omega
    · have hzl : ¬ (i : Int) < (els.length : Int) := by omega
      have HA : Hid (txsB els = true) := by
        show _ = _
        rw [unhide HB, List.drop_eq_nil_of_le (by omega)]
        rfl
      rw [List.take_of_length_le (by omega)] at OT
      clear HB HL
      cases hm : e.made
      · rw [hm] at b1
        have HE : Hid (T = ([], 160)) := by show _ = _; rw [unhide HT, hm]; rfl
        clear HT HA
        go_wp2
        go_ret2
        exact ⟨_, ret_ve (congrArg Prod.snd (unhide HE)).symm, (by rw [unhide HE]; exact unhide HTN _), below_next (unhide HG0) bw⟩
      · rw [hm] at b1
        have HE : Hid (T = (els.map El.con, 0)) := by show _ = _; rw [unhide HT, hm, unhide HA]; rfl
        clear HT HA
        go_wp2
        go_ret2
        exact ⟨_, ret_ve (congrArg Prod.snd (unhide HE)).symm, (by rw [unhide HE]; exact OT.ts), below_next (unhide HG0) bw⟩
set_option maxHeartbeats 1600000 in
theorem rsametx_any (X : List ByteArray) (hX : X.length ≤ 1000) (v v' : Value) (w : World) (h1 : Ts w v X) (h2 : Ts w v' X) : Calls Try.prog 26 #[v, v'] w fun r w' => r = .returned (.bool true) ∧ Gr w w' := by
  have mx : Try.prog.follows .mixedOrders = true := by kernel_rfl
  obtain ⟨ad, cap, rfl, hc⟩ := h1
  obtain ⟨ad', cap', rfl, hc'⟩ := h2
  have HL := hide hc
  have HL' := hide hc'
  clear hc hc'
  go_enter Try.func26, Try.ntmps26
  go_wp2
  go_loopw [5] (fun vi wr => ∃ i : Nat, i ≤ X.length ∧ vi = .int .i64 (i : Int) ∧ Gr w wr) (fun i _ => X.length - (intOf i).toNat)
  case atStart => exact ⟨0, Nat.zero_le _, rfl, Gr.refl _⟩
  case round =>
    obtain ⟨i, hi, rfl, hnx⟩ := hrel
    by_cases hlt : i < X.length
    · have hzl : (i : Int) < (X.length : Int) := by omega
      have hz0 : (0 : Int) ≤ (i : Int) := by omega
      obtain ⟨g, off, rfl, hl⟩ := unhide HL (by omega)
      obtain ⟨g', off', rfl, hl'⟩ := unhide HL' (by omega)
      have q := cell_gr (hnx.cell (hl i hlt))
      have p := cell_gr (hnx.cell (hl' i hlt))
      clear hl hl' HL HL'
      generalize X.getD i ⟨#[]⟩ = s at *
      have zs : (s.toList == s.toList) = true := by simp
      go_wp2
      refine wp_region_quiet_grown (by first | exact mx | assumption) (by kernel_rfl) ?_
      repeat (go_big_quiet_step ((fail)))
      refine wpQuiet_nil ?_
      intro _ hw'
      obtain ⟨⟨nq, osq⟩, hw''⟩ := hw'
      subst hw''
      go_wp2
      go_roundw
      case rel => exact ⟨i + 1, by omega, by go_num, hnx.grow _ _⟩
      case measure => simp [intOf]; omega
    · have hzl : ¬ (i : Int) < (X.length : Int) := by omega
      go_wp2
      go_ret
      exact ⟨rfl, hnx⟩
end Go.Proofs.Ytcboggoindhmkaa
