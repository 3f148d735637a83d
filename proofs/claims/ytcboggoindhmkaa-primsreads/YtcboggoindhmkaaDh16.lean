/- The program's Texts of layer 16. -/
import Derived.Test.YtcboggoindhmkaaDg16
namespace Go.Proofs.Ytcboggoindhmkaa
open Go.RowKit

/-- A row of texts of the call's own. -/
def Ot (B : Nat) (v : Value) (X : List ByteArray) (w : World) : Prop := w.ownsRow B 9 1 v X.length (X.map Value.string)
theorem Ot.nil (B : Nat) (w : World) : Ot B (.slice none 0 0) [] w := ⟨rfl, .inl ⟨rfl, rfl⟩⟩
theorem Ot.below {w w2 : World} {B : Nat} {v : Value} {X : List ByteArray} (h : Ot B v X w) (hb : Below w.heap.size w w2) : Ot B v X w2 := own_below h hb
theorem Ot.own {w : World} {B N : Nat} {v : Value} {X : List ByteArray} (hN : N = X.length) (h : Ot B v X w) : w.ownsRow B 9 1 v N (X.map Value.string) := by subst hN; exact h
theorem Ot.push {w : World} {B N : Nat} {v : Value} {X : List ByteArray} {z : ByteArray} (hN : N = X.length) (h : w.ownsRow B 9 1 v (N + 1) (X.map Value.string ++ [.string z])) : Ot B v (X ++ [z]) w := by
  subst hN
  unfold Ot
  simpa using h
theorem Ot.shape {B : Nat} {v : Value} {X : List ByteArray} {w : World} (h : Ot B v X w) : ∃ a c, v = .slice a X.length c := by
  rcases h.2 with ⟨hv, h0⟩ | ⟨g, cap, cur, hv, _⟩
  · exact ⟨none, 0, by rw [hv, h0]⟩
  · exact ⟨_, cap, hv⟩
/-- A slice of texts. -/
def Ts (w : World) (v : Value) (X : List ByteArray) : Prop := ∃ ad cap, v = .slice ad X.length cap ∧ (0 < X.length → ∃ g off, ad = some ⟨g, off, none⟩ ∧ ∀ j, j < X.length → w.cell? ⟨g, off + j, none⟩ = some (.string (X.getD j ⟨#[]⟩)))
theorem Ts.below {w w2 : World} {v : Value} {X : List ByteArray} (h : Ts w v X) (hb : Below w.heap.size w w2) : Ts w2 v X := by
  obtain ⟨ad, cap, hv, hc⟩ := h
  refine ⟨ad, cap, hv, fun hp => ?_⟩
  obtain ⟨g, off, ha, hcc⟩ := hc hp
  exact ⟨g, off, ha, fun j hj => (hb.cell (cell_lt (hcc j hj))).trans (hcc j hj)⟩
theorem Ot.ts {B : Nat} {v : Value} {X : List ByteArray} {w : World} (h : Ot B v X w) : Ts w v X := by
  rcases h.2 with ⟨hv, h0⟩ | ⟨g, cap, cur, hv, _⟩
  · exact ⟨none, 0, by rw [hv, h0], fun hi => by omega⟩
  · refine ⟨some ⟨g, 0, none⟩, cap, hv, fun hi => ⟨g, 0, rfl, fun j hj => ?_⟩⟩
    have := World.ownsRow.cells h (g := g) (by rw [hv]; rfl) j (.string (X.getD j ⟨#[]⟩)) (by simp [List.getD, hj])
    rw [add_zero3 g j] at this
    rw [Nat.zero_add]
    exact this
theorem str_info : (Try.prog.info? 9).map (fun i => (i.zero, i.size, i.bytes)) = some (some (.string ⟨#[]⟩), 1, 16) := by kernel_rfl
/-- What Texts tells. -/
def txsB (l : List El) : Bool := l.all fun x => isE x 0 4 false
def txsE (e : El) : List ByteArray × Int := if e.made && txsB e.els then (e.els.map El.con, 0) else ([], 160)
theorem txsB_drop (l : List El) (i : Nat) (h : i < l.length) : txsB (l.drop i) = (isE (l.getD i el0) 0 4 false && txsB (l.drop (i + 1))) := by
  rw [drop_cons l i h]
  simp [txsB]
theorem con_take (l : List El) (i : Nat) (h : i < l.length) : (l.take (i + 1)).map El.con = (l.take i).map El.con ++ [(l.getD i el0).con] := by
  rw [List.take_succ_eq_append_getElem h, List.map_append]
  simp [List.getD, h]
set_option maxHeartbeats 3200000 in
theorem texts_any (e : El) (v : Value) (w : World) (hlen : e.els.length ≤ 1000) (hV : ElV w e v) : Calls Try.prog 24 #[v] w fun r w' => ∃ v', r = .returned (.tuple #[v', .int .i64 (txsE e).2]) ∧ Ts w' v' (txsE e).1 ∧ Below w.heap.size w w' := by
  obtain ⟨i0, hi, hz0, hz1, hz2⟩ := info_parts str_info
  have HT : Hid (txsE e = if e.made && txsB e.els then (e.els.map El.con, 0) else ([], 160)) := rfl
  obtain ⟨ad, cap, hv, hn, hc⟩ := hV.open
  subst hv
  have HL := hide hc
  have g0 := Gr.one w (bxE e ad cap)
  have TN : ∀ W, Ts W (.slice none 0 0) [] := fun W => ⟨none, 0, rfl, fun h => absurd h (Nat.lt_irrefl _)⟩
  have HTN := hide TN
  clear hc TN hV
  cases hm : e.made
  · rw [hm] at HT
    rw [unhide HT, if_neg (by simp)]
    clear HT HL
    go_enter Try.func24, Try.ntmps24
    go_wp2
    go_ret2
    exact ⟨_, rfl, unhide HTN _, (Gr.one w _).below⟩
  · rw [hm] at HT
    have B0 := hide (Gr.one w (.cells #[.int .i64 e.cls, .bool true, .int .i64 e.num, .string e.con, .slice ad e.els.length cap] 26)).below
    clear g0
    generalize txsE e = T at *
    generalize e.els = els at *
    go_enter Try.func24, Try.ntmps24
    go_wp2
    go_loopw [4, 13] (fun vo vi wr => ∃ i : Nat, i ≤ els.length ∧ vi = .int .i64 (i : Int) ∧ Hid (txsB els = txsB (els.drop i)) ∧ Ot w.heap.size vo ((els.take i).map El.con) wr ∧ Below w.heap.size w wr) (fun _ i _ => els.length - (intOf i).toNat)
    case atStart => exact ⟨0, Nat.zero_le _, rfl, rfl, Ot.nil _ _, unhide B0⟩
    case round =>
      obtain ⟨i, hile, rfl, HB, OT, bw⟩ := hrel
      by_cases hlt : i < els.length
      · have hzl : (i : Int) < (els.length : Int) := by omega
        have hz0' : (0 : Int) ≤ (i : Int) := by omega
        obtain ⟨g, off, rfl, hl⟩ := (unhide HL).resolve_left (by omega)
        obtain ⟨ad', cap', q0, q1, q2, q3, q4, hv⟩ := hl.at i hlt
        have k0 := (bw.cell (cell_lt q0)).trans q0
        have k1 := (bw.cell (cell_lt q1)).trans q1
        have k2 := (bw.cell (cell_lt q2)).trans q2
        have k3 := (bw.cell (cell_lt q3)).trans q3
        have k4 := (bw.cell (cell_lt q4)).trans q4
        have CI := is_any _ _ 0 4 false (wr.alloc (bxE (els.getD i el0) ad' cap')) ((hv.grow bw).grow (Gr.one wr _).below)
        have BX := hide (Bx.new wr (.int .i64 (els.getD i el0).cls) (.bool (els.getD i el0).made) (.int .i64 (els.getD i el0).num) (.string (els.getD i el0).con) (.slice ad' (els.getD i el0).els.length cap') 26)
        have HS := hide (txsB_drop els i hlt)
        have HK := hide (con_take els i hlt)
        have HX : Hid (i = ((els.take i).map El.con).length) := by show _ = _; simp; omega
        have OW := hide (OT.own (unhide HX))
        obtain ⟨ao, co, hvo⟩ := OT.shape
        rw [← unhide HX] at hvo
        subst hvo
        have HXO := hide OT
        clear q0 q1 q2 q3 q4 hv hl HL OT
        generalize els.getD i el0 = x at *
        cases hx : isE x 0 4 false
        · rw [hx] at CI HS
          have HE : Hid (T = ([], 160)) := by show _ = _; rw [unhide HT, unhide HB, unhide HS]; rfl
          clear HT HB HS hx
          go_wp2_with (go_at_call 19; refine CI.mono ?_; rintro r w2 ⟨rfl, g2⟩)
          go_ret2
          exact ⟨_, ret_ve (congrArg Prod.snd (unhide HE)).symm, (by rw [unhide HE]; exact unhide HTN _), below_next bw ((Gr.one wr _).trans g2).below⟩
        · rw [hx] at CI HS
          have hm1 : i + 1 ≤ maxLen := by unfold maxLen; omega
          have BW := hide bw
          clear hx bw
          generalize (els.take i).map El.con = X at *
          go_wp2_with (first
            | (at_builtin; refine wpList_append_lies _ rfl _ _ 52 rfl w.heap.size 9 i0 _ 1 16 Try.underlying52 hi hz0 hz1 hz2 rfl (by omega) _ i _ rfl (World.ownsRow.alloc (unhide OW2) _) ⟨w2.heap.size, 0, none⟩ 1 1 [.string x.con] rfl rfl (World.news_of_block (cs := #[.string x.con]) (t := 9) (fr := (0, 0)) (heap_new w2 _)) (by simp [Value.oneCell']) (by omega) hm1 (by omega) (unhide SZ2) (w2.heap.size + 1) (by simp) ?_; intro g9 cap9 w9 hown9 hgrow9 hat9 hlt9)
            | (go_at_call 19; refine CI.mono ?_; rintro r w2 ⟨rfl, g2⟩; have BG := hide (below_next (Below.one wr (bxE x ad' cap')) g2.below); have OW2 := hide (own_below (unhide OW) (unhide BG)); have bx := (unhide BX).below g2.below; have z3 := bx.c3; clear bx; have BW2 := hide (below_next (unhide BW) (unhide BG)); have SZ2 : Hid (w.heap.size ≤ (w2.alloc (.cells #[.string x.con] 9)).heap.size) := (below_next (unhide BW2) (Below.one w2 _)).size))
          go_roundw
          case rel =>
            refine ⟨i + 1, by omega, by go_num, (by show _ = _; rw [unhide HB, unhide HS]; rfl), ?_, ?_⟩
            · rw [unhide HK]
              exact Ot.push (unhide HX) hown9
            · exact (unhide BW2).trans (below_own (grown_new hgrow9) (unhide BW2).size (own_block (unhide OW2)))
          case measure => simp [intOf]; omega
      · have hzl : ¬ (i : Int) < (els.length : Int) := by omega
        have HE : Hid (T = (els.map El.con, 0)) := by
          show _ = _
          rw [unhide HT, unhide HB, List.drop_eq_nil_of_le (by omega)]
          rfl
        rw [List.take_of_length_le (by omega)] at OT
        clear HT HB HL
        go_wp2
        go_ret2
        exact ⟨_, ret_ve (congrArg Prod.snd (unhide HE)).symm, (by rw [unhide HE]; exact OT.ts), bw⟩
end Go.Proofs.Ytcboggoindhmkaa
