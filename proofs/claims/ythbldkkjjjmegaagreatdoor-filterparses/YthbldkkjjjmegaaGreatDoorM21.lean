/- The landed pieces.Check, short, shortPieces, extends of layers 13 and 24. -/
import Derived.Test.YthbldkkjjjmegaaGreatDoorM19
import Derived.Test.YthbldkkjjjmegaaGreatDoorM20
import Derived.Lib.SlicesS
namespace Go.Proofs.YthbldkkjjjmegaaGreatDoor
set_option maxRecDepth 100000
open Go.RowKit

theorem sz0 (s : ByteArray) : s.size = 0 ↔ s = ByteArray.empty := ⟨fun h => by
  obtain ⟨d⟩ := s
  have : d = #[] := Array.eq_empty_of_size_eq_zero h
  subst this
  rfl, fun h => by rw [h]; rfl⟩
theorem emp_sz (s : ByteArray) : s.toList.isEmpty = decide (s.size = 0) := by
  rw [Lib.toList_data]
  obtain ⟨⟨x⟩⟩ := s
  cases x with
  | nil => rfl
  | cons c t => simp [ByteArray.size]
theorem emp_cs (a : ByteArray) : (a.toList = [] ∧ a.toList.isEmpty = true) ∨ (¬ a.toList = [] ∧ a.toList.isEmpty = false) := by
  cases h : a.toList
  · exact .inl ⟨rfl, rfl⟩
  · exact .inr ⟨by simp, rfl⟩
def formP (i : ByteArray) (m : Nat) (f : ByteArray) (hi hf : Bool) : Bool := (hi || i.toList.isEmpty) && (hf || f.toList.isEmpty) && (hi || hf || decide (0 < m)) && decide (m ≤ 6)
set_option maxHeartbeats 1600000 in
theorem form_any (a b : ByteArray) (ad : Option Addr) (n cap : Nat) (hi hf : Bool) (w : World) (_ : n ≤ 9223372036854775807) :
    Calls Tryz.prog 69 #[.agg #[.string a, .slice ad n cap, .string b, .bool hi, .bool hf]] w fun e w' => e = .returned (.bool (formP a n b hi hf)) ∧ Gr w w' := by
  unfold formP
  have e6 : decide ((n : Int) ≤ 6) = decide (n ≤ 6) := by rw [decide_eq_decide]; omega
  have h0 : (0 < n ∧ decide (0 < n) = true) ∨ (¬ 0 < n ∧ decide (0 < n) = false) := by
    by_cases h : 0 < n
    · exact .inl ⟨h, decide_eq_true h⟩
    · exact .inr ⟨h, decide_eq_false h⟩
  rcases emp_cs a with ⟨ha, ha'⟩ | ⟨ha, ha'⟩ <;> rcases emp_cs b with ⟨hb, hb'⟩ | ⟨hb, hb'⟩ <;> rcases h0 with ⟨h0, h0'⟩ | ⟨h0, h0'⟩ <;> rw [ha', hb', h0'] <;> cases hi <;> cases hf
  all_goals
    go_enter Tryz.func69, Tryz.ntmps69
    go_wp2
    go_ret
    exact ⟨ret_bool (by first | rfl | (rw [e6]; rfl) | simp [e6]), Gr.one _ _⟩
theorem has_any (ad : Option Addr) (cap : Nat) (l : List ByteArray) (w : World) (h : TxC w ad l) : Calls Tryz.prog 70 #[.slice ad l.length cap, .string ⟨#[]⟩] w fun e w' => e = .returned (.bool (Lib.containsS l ByteArray.empty)) ∧ Gr w w' := by
  rcases h.2 with h0 | ⟨g, off, rfl, hc⟩
  · obtain rfl := List.length_eq_zero_iff.1 h0
    have : Lib.containsS [] ByteArray.empty = false := by simp [Lib.containsS, Lib.idxOfS, Lib.idxFromS]
    rw [this]
    exact (Any.slices_Contains_string_empty lays110 ad cap ByteArray.empty w).mono fun e w' ⟨h1, h2⟩ => ⟨h1, by rw [h2]; exact Gr.refl _⟩
  · have := Any.slices_Contains_string lays110 g off l.length cap l ByteArray.empty w (Nat.le_refl _) h.1 hc
    rw [List.take_length] at this
    exact this.mono fun e w' ⟨h1, h2⟩ => ⟨h1, by rw [h2]; exact Gr.refl _⟩
theorem ok_form (i : ByteArray) (a : List ByteArray) (f : ByteArray) (hi hf : Bool) : chkPc i a f hi hf = if formP i a.length f hi hf && !(hi && i.toList.isEmpty) && !(hf && f.toList.isEmpty) && !Lib.containsS a ByteArray.empty then 0 else 2 := by
  have hc : Lib.containsS a ByteArray.empty = !(a.all fun t => decide (t.size ≠ 0)) := by
    rw [Bool.eq_iff_iff, Lib.containsS_iff]
    simp only [Bool.not_eq_true', List.all_eq_false, decide_eq_true_eq]
    constructor
    · intro h; exact ⟨_, h, fun h2 => h2 rfl⟩
    · rintro ⟨x, hx, h2⟩
      have := (sz0 x).1 (Classical.not_not.1 h2)
      rwa [← this]
  have e : okPc i a f hi hf = (formP i a.length f hi hf && !(hi && i.toList.isEmpty) && !(hf && f.toList.isEmpty) && !Lib.containsS a ByteArray.empty) := by
    rw [hc]
    unfold okPc formP
    rw [emp_sz, emp_sz]
    generalize (a.all fun t => decide (t.size ≠ 0)) = z
    generalize a.length = m
    generalize i.size = si
    generalize f.size = sf
    rw [Bool.eq_iff_iff]
    simp only [Bool.and_eq_true, Bool.or_eq_true, decide_eq_true_eq, Bool.not_eq_true', Bool.and_eq_false_iff, decide_eq_false_iff_not, Bool.not_not]
    cases hi <;> cases hf <;> simp <;> omega
  unfold chkPc
  rw [e]
set_option maxHeartbeats 3200000 in
theorem fchk13_any (i f : ByteArray) (hi hf : Bool) (a : List ByteArray) (a1 : Option Addr) (c1 : Nat) (w : World) (ht : TxC w a1 a) : Calls Tryz.prog 54 #[.agg #[.string i, .slice a1 a.length c1, .string f, .bool hi, .bool hf]] w fun r w' => r = .returned (.int .i64 (chkPc i a f hi hf)) ∧ Gr w w' := by
  rw [ok_form]
  have HF := hide (fun W => form_any i f a1 a.length c1 hi hf W ht.1)
  have HC := hide (fun (W : World) (g : Gr w W) => has_any a1 c1 a W (ht.below g.below))
  have g0 := Gr.one w (.cells #[.string i, .slice a1 a.length c1, .string f, .bool hi, .bool hf] 24)
  clear ht
  generalize formP i a.length f hi hf = q at *
  generalize Lib.containsS a ByteArray.empty = m at *
  rcases emp_cs i with ⟨ha, ha'⟩ | ⟨ha, ha'⟩ <;> rcases emp_cs f with ⟨hb, hb'⟩ | ⟨hb, hb'⟩ <;> rw [ha', hb'] <;> cases hi <;> cases hf <;> cases q <;> cases m
  all_goals
    go_enter Tryz.func54, Tryz.ntmps54
    go_wp2_with (first
      | (go_at_call 70; refine (unhide HC _ t2).mono ?_; rintro e w3 ⟨rfl, g3⟩; have t2 := t2.trans g3)
      | (go_at_call 69; refine (unhide HF _).mono ?_; rintro e w2 ⟨rfl, g2⟩; have t2 := g0.trans g2; obtain ⟨d0, d1, d2, d3, d4⟩ := box5p g2))
    go_ret
    exact ⟨rfl, t2⟩
theorem short_any (s : ByteArray) (w : World) : Calls Tryz.prog 36 #[.string s] w fun r w' => r = .returned (.bool (decide (s.size ≤ 400))) ∧ w = w' := by
  have e6 : decide ((s.size : Int) ≤ 400) = decide (s.size ≤ 400) := by rw [decide_eq_decide]; omega
  go_enter Tryz.func36, Tryz.ntmps36
  go_wp2
  go_ret
  exact ⟨rfl, rfl⟩
set_option maxHeartbeats 3200000 in
theorem spc_any (i f : ByteArray) (hi hf : Bool) (a : List ByteArray) (a1 : Option Addr) (c1 : Nat) (w : World) (ht : TxC w a1 a) : Calls Tryz.prog 37 #[.agg #[.string i, .slice a1 a.length c1, .string f, .bool hi, .bool hf]] w fun r w' => r = .returned (.bool (finPc i a f hi hf)) ∧ Gr w w' := by
  have g0 := Gr.one w (.cells #[.string i, .slice a1 a.length c1, .string f, .bool hi, .bool hf] 24)
  have CC := hide (fchk13_any i f hi hf a a1 c1 _ (ht.below g0.below))
  have CS := hide short_any
  have HA := hide ht
  have HD : Hid (∀ b, (okPc i a f hi hf && (decide (i.size ≤ 400) && (decide (f.size ≤ 400) && a.all fun t => decide (t.size ≤ 400)))) = b → b = finPc i a f hi hf) := fun b h => by
    rw [← h]
    unfold finPc
    rw [Bool.eq_iff_iff]
    simp only [Bool.and_eq_true, decide_eq_true_eq]
    constructor
    · rintro ⟨h1, h2, h3, h4⟩; exact ⟨h1, ⟨h2, h3⟩, h4⟩
    · rintro ⟨h1, ⟨h2, h3⟩, h4⟩; exact ⟨h1, h2, h3, h4⟩
  generalize finPc i a f hi hf = y at *
  have hn := ht.1
  clear ht
  cases hok : okPc i a f hi hf
  · rw [chkPc_no hok] at CC
    have HE := hide (unhide HD false (by rw [hok]; rfl))
    clear hok HD
    go_enter Tryz.func37, Tryz.ntmps37
    go_wp2_with (go_at_call 54; refine (unhide CC).mono ?_; rintro e w2 ⟨rfl, g2⟩)
    go_ret
    exact ⟨ret_bool (unhide HE), g0.trans g2⟩
  rw [chkPc_yes hok] at CC
  rw [hok, Bool.true_and] at HD
  clear hok
  have C1 := hide (fun W => unhide CS i W)
  have C2 := hide (fun W => unhide CS f W)
  cases b1 : decide (i.size ≤ 400)
  · rw [b1] at C1
    have HE := hide (unhide HD false (by rw [b1]; rfl))
    clear HD b1
    go_enter Tryz.func37, Tryz.ntmps37
    go_wp2_with (first
      | (go_at_call 36; refine (unhide C1 w2).mono ?_; rintro e w3 ⟨rfl, rfl⟩)
      | (go_at_call 54; refine (unhide CC).mono ?_; rintro e w2 ⟨rfl, g2⟩; obtain ⟨d0, d1, d2, d3, d4⟩ := box5p g2))
    go_ret
    exact ⟨ret_bool (unhide HE), g0.trans g2⟩
  rw [b1] at C1
  rw [b1, Bool.true_and] at HD
  clear b1
  cases b1 : decide (f.size ≤ 400)
  · rw [b1] at C2
    have HE := hide (unhide HD false (by rw [b1]; rfl))
    clear HD b1
    go_enter Tryz.func37, Tryz.ntmps37
    go_wp2_with (first
      | (go_at_call_of 36 (f); refine (unhide C2 w2).mono ?_; rintro e w3 ⟨rfl, rfl⟩)
      | (go_at_call_of 36 (i); refine (unhide C1 w2).mono ?_; rintro e w3 ⟨rfl, rfl⟩)
      | (go_at_call 54; refine (unhide CC).mono ?_; rintro e w2 ⟨rfl, g2⟩; obtain ⟨d0, d1, d2, d3, d4⟩ := box5p g2))
    go_ret
    exact ⟨ret_bool (unhide HE), g0.trans g2⟩
  rw [b1] at C2
  rw [b1, Bool.true_and] at HD
  clear b1
  go_enter Tryz.func37, Tryz.ntmps37
  go_wp2_with (first
    | (go_at_call_of 36 (f); refine (unhide C2 w2).mono ?_; rintro e w3 ⟨rfl, rfl⟩)
    | (go_at_call_of 36 (i); refine (unhide C1 w2).mono ?_; rintro e w3 ⟨rfl, rfl⟩)
    | (go_at_call 54; refine (unhide CC).mono ?_; rintro e w2 ⟨rfl, g2⟩; obtain ⟨d0, d1, d2, d3, d4⟩ := box5p g2))
  have gw := g0.trans g2
  clear CC g0 g2 C1 C2
  go_loop [23] (fun vj => ∃ j : Nat, j ≤ a.length ∧ vj = .int .i64 (j : Int) ∧ Hid ((a.all fun t => decide (t.size ≤ 400)) = ((a.drop j).all fun t => decide (t.size ≤ 400)))) (fun vj => a.length - (intOf vj).toNat)
  case atStart => exact ⟨0, Nat.zero_le _, rfl, rfl⟩
  case round =>
    obtain ⟨j, hj, rfl, HT⟩ := hrel
    by_cases hlt : j < a.length
    · have x1 : (j : Int) < (a.length : Int) := by omega
      have x0 : (0 : Int) ≤ (j : Int) := by omega
      obtain ⟨g, off, rfl, k1⟩ := (unhide HA).at hlt
      have k1 := gw.cell k1
      have HS := hide (all_dropP (fun t => decide (t.size ≤ 400)) a j hlt)
      have CJ := hide (fun W => unhide CS (a.getD j ⟨#[]⟩) W)
      cases b1 : decide ((a.getD j ⟨#[]⟩).size ≤ 400)
      · rw [b1] at CJ
        have HE := hide (unhide HD false (by rw [unhide HT, unhide HS, b1]; rfl))
        clear HS b1 HD HT
        generalize a.getD j ⟨#[]⟩ = t at *
        go_wp2_with (go_at_call 36; refine (unhide CJ w2).mono ?_; rintro e w3 ⟨rfl, rfl⟩)
        go_ret
        exact ⟨ret_bool (unhide HE), gw⟩
      · rw [b1] at CJ
        have HE : Hid ((a.all fun t => decide (t.size ≤ 400)) = ((a.drop (j + 1)).all fun t => decide (t.size ≤ 400))) := by show _ = _; rw [unhide HT, unhide HS, b1]; rfl
        clear HS b1 HT
        generalize a.getD j ⟨#[]⟩ = t at *
        go_wp2_with (go_at_call 36; refine (unhide CJ w2).mono ?_; rintro e w3 ⟨rfl, rfl⟩)
        go_roundw
        case rel => exact ⟨j + 1, by omega, by go_num, unhide HE⟩
        case measure => simp [intOf]; omega
    · have x1 : ¬ (j : Int) < (a.length : Int) := by omega
      have HE := hide (unhide HD true (by rw [unhide HT, List.drop_eq_nil_of_le (by omega)]; rfl))
      clear HT HD
      go_wp2
      go_ret
      exact ⟨ret_bool (unhide HE), gw⟩
/-- What extends tells. -/
def extB (n r : ByteArray) : Bool := (wrdB (nums n) || decide (n = ByteArray.empty)) && (((wrdB (nums r) && !decide (r = dnT)) || decide (r = ByteArray.empty)) && (wrdB (nums n) || (wrdB (nums r) && !decide (r = dnT))))
theorem emp_dec (s : ByteArray) : decide (s = ByteArray.empty) = s.toList.isEmpty := by
  rw [emp_sz, decide_eq_decide]
  exact (sz0 s).symm
theorem wrd_emp {s : ByteArray} (h : s = ByteArray.empty) : wrdB (nums s) = false := by rw [h]; rfl
theorem dn_noL {r : ByteArray} (h : ¬ r = dnT) : (r.toList == [100, 110]) = false ∧ ¬ r.toList = [100, 110] := by
  have e : dnT.toList = [100, 110] := by rw [Lib.toList_data]; rfl
  have := txt_no h
  rw [e] at this
  exact ⟨this, beq_eq_false_iff_ne.1 this⟩
set_option maxHeartbeats 6400000 in
theorem ext_any (n r : ByteArray) (w : World) : Calls Tryz.prog 38 #[.string n, .string r] w fun e w' => e = .returned (.bool (extB n r)) ∧ w = w' := by
  have CN := hide (fun W => word_any n W)
  have CR := hide (fun W => word_any r W)
  have HD : Hid (extB n r = ((wrdB (nums n) || n.toList.isEmpty) && (((wrdB (nums r) && !decide (r = dnT)) || r.toList.isEmpty) && (wrdB (nums n) || (wrdB (nums r) && !decide (r = dnT)))))) := by
    show _ = _
    unfold extB
    rw [emp_dec, emp_dec]
  have n0 : n.toList.isEmpty = true → wrdB (nums n) = false := fun h => wrd_emp (by rw [← emp_dec] at h; exact of_decide_eq_true h)
  have r0 : r.toList.isEmpty = true → wrdB (nums r) = false := fun h => wrd_emp (by rw [← emp_dec] at h; exact of_decide_eq_true h)
  by_cases hd : r = dnT
  · subst hd
    have e1 : dnT.toList = [100, 110] := by rw [Lib.toList_data]; rfl
    have e2 : wrdB (nums dnT) = true := by kernel_rfl
    rw [e2] at CR
    rw [e2, e1, decide_eq_true rfl] at HD
    have e3 : dnT = ⟨#[100, 110]⟩ := rfl
    clear r0 e2
    generalize extB n dnT = y at *
    rw [e3] at CR ⊢
    rw [e3] at e1
    clear e3
    rcases emp_cs n with ⟨ha, ha'⟩ | ⟨ha, ha'⟩
    · rw [n0 ha', ha'] at HD
      rw [n0 ha'] at CN
      clear n0
      go_enter Tryz.func38, Tryz.ntmps38
      go_wp2_with (go_at_call 35; refine (unhide CR _).mono ?_; rintro e w2 ⟨rfl, rfl⟩)
      go_ret
      exact ⟨ret_bool (by rw [unhide HD]; rfl), rfl⟩
    · rw [ha'] at HD
      clear n0
      generalize wrdB (nums n) = x at *
      cases x
      · go_enter Tryz.func38, Tryz.ntmps38
        go_wp2_with (go_at_call 35; refine (unhide CN _).mono ?_; rintro e w2 ⟨rfl, rfl⟩)
        go_ret
        exact ⟨ret_bool (by rw [unhide HD]; rfl), rfl⟩
      · go_enter Tryz.func38, Tryz.ntmps38
        go_wp2_with (first
          | (go_at_call_of 35 (n); refine (unhide CN _).mono ?_; rintro e w2 ⟨rfl, rfl⟩)
          | (go_at_call 35; refine (unhide CR _).mono ?_; rintro e w2 ⟨rfl, rfl⟩))
        go_ret
        exact ⟨ret_bool (by rw [unhide HD]; rfl), rfl⟩
  · obtain ⟨d1, d2⟩ := dn_noL hd
    rw [decide_eq_false hd, Bool.not_false, Bool.and_true] at HD
    clear hd
    generalize extB n r = y at *
    rcases emp_cs n with ⟨ha, ha'⟩ | ⟨ha, ha'⟩ <;> rcases emp_cs r with ⟨hb, hb'⟩ | ⟨hb, hb'⟩
    · rw [n0 ha', ha', r0 hb', hb'] at HD
      clear n0 r0 CN CR
      go_enter Tryz.func38, Tryz.ntmps38
      go_wp2
      go_ret
      exact ⟨ret_bool (by rw [unhide HD]; rfl), rfl⟩
    · rw [n0 ha', ha', hb'] at HD
      clear n0 r0 CN
      generalize wrdB (nums r) = x at *
      cases x
      all_goals
        go_enter Tryz.func38, Tryz.ntmps38
        go_wp2_with (go_at_call 35; refine (unhide CR _).mono ?_; rintro e w2 ⟨rfl, rfl⟩)
        go_ret
        exact ⟨ret_bool (by rw [unhide HD]; rfl), rfl⟩
    · rw [ha', r0 hb', hb'] at HD
      clear n0 r0 CR
      generalize wrdB (nums n) = x at *
      cases x
      all_goals
        go_enter Tryz.func38, Tryz.ntmps38
        go_wp2_with (go_at_call 35; refine (unhide CN _).mono ?_; rintro e w2 ⟨rfl, rfl⟩)
        go_ret
        exact ⟨ret_bool (by rw [unhide HD]; rfl), rfl⟩
    · rw [ha', hb'] at HD
      clear n0 r0
      generalize wrdB (nums n) = x at *
      generalize wrdB (nums r) = z at *
      cases x <;> cases z
      all_goals
        go_enter Tryz.func38, Tryz.ntmps38
        go_wp2_with (first
          | (go_at_call_of 35 (n); refine (unhide CN _).mono ?_; rintro e w2 ⟨rfl, rfl⟩)
          | (go_at_call_of 35 (r); refine (unhide CR _).mono ?_; rintro e w2 ⟨rfl, rfl⟩))
        go_ret
        exact ⟨ret_bool (by rw [unhide HD]; rfl), rfl⟩
end Go.Proofs.YthbldkkjjjmegaaGreatDoor
