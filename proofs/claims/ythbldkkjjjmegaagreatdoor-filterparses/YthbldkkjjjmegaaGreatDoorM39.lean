/- The landed signOf, appendPieces of layer 24. (By gen_so.py.) -/
import Derived.Test.YthbldkkjjjmegaaGreatDoorM27
import Derived.Test.YthbldkkjjjmegaaGreatDoorM38
import Derived.Deep.CutRange
namespace Go.Proofs.YthbldkkjjjmegaaGreatDoor
set_option maxRecDepth 100000
open Go.RowKit

/-- The sign of a kind. -/
def sgO (k : Int) : ByteArray := if k = 5 then ⟨#[62, 61]⟩ else if k = 6 then ⟨#[60, 61]⟩ else if k = 8 then ⟨#[126, 61]⟩ else if k = 9 then ⟨#[58, 61]⟩ else ⟨#[61]⟩
set_option maxHeartbeats 12800000 in
theorem sign_any (k : Int) (w : World) (hL : Ly w) : Calls Tryz.prog 48 #[.int .i64 k] w fun e w' => e = .returned (.string (sgO k)) ∧ Gr w w' := by
  obtain ⟨-, ⟨T, fr, hG⟩, -⟩ := hL
  have HG : Hid (∀ W : World, Gr w W → W.heap[0]? = some (.cells sgs24 T fr)) := fun W g => (g.below.block _ (Sgs.pos ⟨T, fr, hG⟩)).trans hG
  have HO3 : Hid (k = 3 → sgO k = ⟨#[61]⟩) := fun h => by rw [h]; rfl
  have HO5 : Hid (k = 5 → sgO k = ⟨#[62, 61]⟩) := fun h => by rw [h]; rfl
  have HO6 : Hid (k = 6 → sgO k = ⟨#[60, 61]⟩) := fun h => by rw [h]; rfl
  have HO8 : Hid (k = 8 → sgO k = ⟨#[126, 61]⟩) := fun h => by rw [h]; rfl
  have HO9 : Hid (k = 9 → sgO k = ⟨#[58, 61]⟩) := fun h => by rw [h]; rfl
  have HON : Hid (k ≠ 5 → k ≠ 6 → k ≠ 8 → k ≠ 9 → sgO k = ⟨#[61]⟩) := fun h5 h6 h8 h9 => by unfold sgO; rw [if_neg h5, if_neg h6, if_neg h8, if_neg h9]
  generalize sgO k = out at *
  go_enter Tryz.func48, Tryz.ntmps48
  go_wp2_with (refine wpList_load_row rfl 86 _ rfl 0 rfl T sgs24 fr _ hG Tryz.underlying86 rfl (by kernel_rfl) ?_)
  go_loopw [6] (fun v6 wr => ∃ j : Nat, v6 = .int .i64 (j : Int) ∧ j ≤ 5 ∧ Hid (∀ m, m < j → sgK m ≠ k) ∧ Gr w wr) (fun j _ => 5 - (intOf j).toNat)
  case atStart => exact ⟨0, rfl, by decide, (fun m h => absurd h (by omega)), Gr.refl _⟩
  case round =>
    obtain ⟨j, rfl, hj, HB, gi⟩ := hrel
    by_cases hj5 : j < 5
    · rcases (by omega : j = 0 ∨ j = 1 ∨ j = 2 ∨ j = 3 ∨ j = 4) with rfl | rfl | rfl | rfl | rfl
      · by_cases hk : k = 3
        · have HE := hide (unhide HO3 hk)
          have ii := idx24_0 wr
          have hbx := heap_new wr (.cells #[.string ⟨#[61]⟩, .int .i64 3] 85)
          subst hk
          clear HB HO3 HO5 HO6 HO8 HO9 HON
          go_wp2
          go_ret
          exact ⟨by rw [unhide HE]; rfl, gi.alloc _⟩
        · have zk : ((3 : Int) == k) = false := by rw [beq_eq_false_iff_ne]; exact fun h => hk h.symm
          have HN : Hid (∀ m, m < 0 + 1 → sgK m ≠ k) := fun m hm => by
            rcases Nat.lt_succ_iff_lt_or_eq.1 hm with h1 | h1
            · exact unhide HB m h1
            · rw [h1]; exact fun h => hk h.symm
          have ii := idx24_0 wr
          clear HB hk
          go_wp2
          go_roundw
          case rel => exact ⟨0 + 1, by go_num, by decide, unhide HN, gi.alloc _⟩
          case measure => simp [intOf]
      · by_cases hk : k = 5
        · have HE := hide (unhide HO5 hk)
          have ii := idx24_1 wr
          have hbx := heap_new wr (.cells #[.string ⟨#[62, 61]⟩, .int .i64 5] 85)
          subst hk
          clear HB HO3 HO5 HO6 HO8 HO9 HON
          go_wp2
          go_ret
          exact ⟨by rw [unhide HE]; rfl, gi.alloc _⟩
        · have zk : ((5 : Int) == k) = false := by rw [beq_eq_false_iff_ne]; exact fun h => hk h.symm
          have HN : Hid (∀ m, m < 1 + 1 → sgK m ≠ k) := fun m hm => by
            rcases Nat.lt_succ_iff_lt_or_eq.1 hm with h1 | h1
            · exact unhide HB m h1
            · rw [h1]; exact fun h => hk h.symm
          have ii := idx24_1 wr
          clear HB hk
          go_wp2
          go_roundw
          case rel => exact ⟨1 + 1, by go_num, by decide, unhide HN, gi.alloc _⟩
          case measure => simp [intOf]
      · by_cases hk : k = 6
        · have HE := hide (unhide HO6 hk)
          have ii := idx24_2 wr
          have hbx := heap_new wr (.cells #[.string ⟨#[60, 61]⟩, .int .i64 6] 85)
          subst hk
          clear HB HO3 HO5 HO6 HO8 HO9 HON
          go_wp2
          go_ret
          exact ⟨by rw [unhide HE]; rfl, gi.alloc _⟩
        · have zk : ((6 : Int) == k) = false := by rw [beq_eq_false_iff_ne]; exact fun h => hk h.symm
          have HN : Hid (∀ m, m < 2 + 1 → sgK m ≠ k) := fun m hm => by
            rcases Nat.lt_succ_iff_lt_or_eq.1 hm with h1 | h1
            · exact unhide HB m h1
            · rw [h1]; exact fun h => hk h.symm
          have ii := idx24_2 wr
          clear HB hk
          go_wp2
          go_roundw
          case rel => exact ⟨2 + 1, by go_num, by decide, unhide HN, gi.alloc _⟩
          case measure => simp [intOf]
      · by_cases hk : k = 8
        · have HE := hide (unhide HO8 hk)
          have ii := idx24_3 wr
          have hbx := heap_new wr (.cells #[.string ⟨#[126, 61]⟩, .int .i64 8] 85)
          subst hk
          clear HB HO3 HO5 HO6 HO8 HO9 HON
          go_wp2
          go_ret
          exact ⟨by rw [unhide HE]; rfl, gi.alloc _⟩
        · have zk : ((8 : Int) == k) = false := by rw [beq_eq_false_iff_ne]; exact fun h => hk h.symm
          have HN : Hid (∀ m, m < 3 + 1 → sgK m ≠ k) := fun m hm => by
            rcases Nat.lt_succ_iff_lt_or_eq.1 hm with h1 | h1
            · exact unhide HB m h1
            · rw [h1]; exact fun h => hk h.symm
          have ii := idx24_3 wr
          clear HB hk
          go_wp2
          go_roundw
          case rel => exact ⟨3 + 1, by go_num, by decide, unhide HN, gi.alloc _⟩
          case measure => simp [intOf]
      · by_cases hk : k = 9
        · have HE := hide (unhide HO9 hk)
          have ii := idx24_4 wr
          have hbx := heap_new wr (.cells #[.string ⟨#[58, 61]⟩, .int .i64 9] 85)
          subst hk
          clear HB HO3 HO5 HO6 HO8 HO9 HON
          go_wp2
          go_ret
          exact ⟨by rw [unhide HE]; rfl, gi.alloc _⟩
        · have zk : ((9 : Int) == k) = false := by rw [beq_eq_false_iff_ne]; exact fun h => hk h.symm
          have HN : Hid (∀ m, m < 4 + 1 → sgK m ≠ k) := fun m hm => by
            rcases Nat.lt_succ_iff_lt_or_eq.1 hm with h1 | h1
            · exact unhide HB m h1
            · rw [h1]; exact fun h => hk h.symm
          have ii := idx24_4 wr
          clear HB hk
          go_wp2
          go_roundw
          case rel => exact ⟨4 + 1, by go_num, by decide, unhide HN, gi.alloc _⟩
          case measure => simp [intOf]
    · have zj : j = 5 := by omega
      subst zj
      have HE := hide (unhide HON (fun h => unhide HB 1 (by decide) h.symm) (fun h => unhide HB 2 (by decide) h.symm) (fun h => unhide HB 3 (by decide) h.symm) (fun h => unhide HB 4 (by decide) h.symm))
      have hcell : wr.cell? ⟨0, 0, none⟩ = some (.string ⟨#[61]⟩) := by simp only [World.cell?, unhide HG wr gi]; rfl
      clear HB HO3 HO5 HO6 HO8 HO9 HON
      go_wp2
      go_ret
      exact ⟨by rw [unhide HE]; rfl, gi⟩
/-- Texts in memory, behind what grew above. -/
theorem TxC.from0 {w0 w : World} {ad : Option Addr} {l : List ByteArray} (h : TxC w0 ad l) (hb : Below w0.heap.size w0 w) : TxC w ad l := h.below hb
theorem anyT_drop (l : List ByteArray) (k : Nat) (h : k < l.length) : anyT (l.drop k) = vTxt (nums (l.getD k ⟨#[]⟩)) ++ 42 :: anyT (l.drop (k + 1)) := by
  rw [List.drop_eq_getElem_cons h, anyT]
  simp [List.getD, h]
theorem any_sum : ∀ (a : List ByteArray), (anyT a).length ≤ 3 * (a.map ByteArray.size).sum + a.length
  | [] => Nat.le_refl _
  | x :: t => by
    have ih := any_sum t
    have := val_le x
    rw [anyT, List.length_append, List.length_cons, List.map_cons, List.sum_cons, List.length_cons]
    omega
theorem anyT_app : ∀ (l m : List ByteArray), anyT (l ++ m) = anyT l ++ anyT m
  | [], _ => rfl
  | x :: t, m => by
    rw [List.cons_append, anyT, anyT, anyT_app t m]
    simp
theorem any_cut {a : List ByteArray} {k : Nat} {D : List Int} (h : D ++ anyT (a.drop k) = anyT a) : D = anyT (a.take k) := by
  have e : anyT a = anyT (a.take k) ++ anyT (a.drop k) := by rw [← anyT_app, List.take_append_drop]
  rw [e] at h
  exact List.append_cancel_right h
theorem any_at : ∀ (a : List ByteArray) (k : Nat), k < a.length → (anyT (a.take k)).length + 3 * (a.getD k ⟨#[]⟩).size + 1 ≤ 3 * (a.map ByteArray.size).sum + a.length
  | [], k, h => by simp at h
  | x :: t, 0, h => by
    rw [List.take_zero, List.map_cons, List.sum_cons, List.length_cons, List.getD_cons_zero, anyT]
    simp only [List.length_nil]
    omega
  | x :: t, k + 1, h => by
    have ih := any_at t k (by simpa using h)
    have := val_le x
    rw [List.take_succ_cons, anyT, List.length_append, List.length_cons, List.map_cons, List.sum_cons, List.length_cons, List.getD_cons_succ]
    omega
theorem cells5p {W : World} {B : Nat} {a0 a1 a2 a3 a4 : Value} {T : TypeId} (h : W.heap[B]? = some (.cells #[a0, a1, a2, a3, a4] T)) : W.cell? ⟨B, 0, none⟩ = some a0 ∧ W.cell? ⟨B, 1, none⟩ = some a1 ∧ W.cell? ⟨B, 2, none⟩ = some a2 ∧ W.cell? ⟨B, 3, none⟩ = some a3 ∧ W.cell? ⟨B, 4, none⟩ = some a4 := by
  refine ⟨?_, ?_, ?_, ?_, ?_⟩ <;> simp [World.cell?, h]
theorem anyT_drop_len (l : List ByteArray) (k : Nat) (h : k < l.length) : (anyT (l.drop k)).length = (vTxt (nums (l.getD k ⟨#[]⟩))).length + 1 + (anyT (l.drop (k + 1))).length := by
  rw [anyT_drop l k h]; simp; omega
set_option maxHeartbeats 12800000 in
theorem appp_any (w0 : World) (Y : List Int) (v : Value) (i f : ByteArray) (hi' hf' : Bool) (a : List ByteArray) (a1 : Option Addr) (c1 : Nat) (w : World) (hT : TxC w0 a1 a) (hb : Below w0.heap.size w0 w) (hO : Ob w0.heap.size v Y w) (hl : Y.length + 3 * (i.size + f.size) + 3 * (a.map ByteArray.size).sum + a.length + 1 ≤ 1000000) :
    Calls Tryz.prog 49 #[v, .agg #[.string i, .slice a1 a.length c1, .string f, .bool hi', .bool hf']] w fun e w' => ∃ v2, e = .returned v2 ∧ Ap w0.heap.size w v2 (Y ++ starT i a f) w' := by
  obtain ⟨i0, hi, hz0, hz1, hz2⟩ := info_parts u8_info
  have hB : w0.heap.size ≤ w.heap.size := hb.size
  have B1 := Below.one w (.cells #[.string i, .slice a1 a.length c1, .string f, .bool hi', .bool hf'] 24)
  have A0 := (Ap.start (hO.below B1))
  have HBX := heap_new w (.cells #[.string i, .slice a1 a.length c1, .string f, .bool hi', .bool hf'] 24)
  have hB1 := Nat.le_trans hB B1.size
  have CA := hide (fun (Z : List Int) (u : Value) (s : ByteArray) (W : World) (hO : Ob w0.heap.size u Z W) (h1 : w0.heap.size ≤ W.heap.size) (h2 : Z.length + 3 * s.size ≤ 1000000) => appv_any w0.heap.size Z u s W hO h1 (by omega))
  have HT := hide (fun (W : World) (h : Below w0.heap.size w0 W) => hT.below h)
  have tb := hb.trans (B1.mono hB)
  have hvi := val_le i
  have hvf := val_le f
  have hal : (anyT a).length ≤ 3 * (a.map ByteArray.size).sum + a.length := any_sum a
  have HSUM := hide (any_at a)
  have hn := hT.1
  obtain ⟨A, hA⟩ : ∃ A, A = (anyT a).length := ⟨_, rfl⟩
  have HA := hide hA
  rw [← hA] at hal
  obtain ⟨q0, q1, q2, q3, q4⟩ := cells5p HBX
  have hYl : Y.length + 3 * i.size ≤ 1000000 := by omega
  have hbd : Y.length + (vTxt (nums i)).length + 1 + A + 3 * f.size ≤ 1000000 := by omega
  have HBD := hide hbd
  have HL0 := hide hl
  have CA1 := hide (unhide CA Y v i _ A0.own hB1 hYl)
  have A0' := hide A0
  clear hT hb hO hl hal hA hvi hvf A0 hbd
  go_enter Tryz.func49, Tryz.ntmps49
  have hm1 : (Y ++ vTxt (nums i)).length + 1 ≤ maxLen := by have z := unhide HBD; rw [List.length_append]; unfold maxLen; omega
  have hm2 : ((Y ++ vTxt (nums i)).length + 1) * 1 ≤ 140737488355328 := by have z := unhide HBD; rw [List.length_append]; omega
  obtain ⟨N, hN⟩ : ∃ N, N = (Y ++ vTxt (nums i)).length := ⟨_, rfl⟩
  have HN := hide hN
  rw [← hN] at hm1 hm2
  clear hN
  go_upto_region 2 with (first
    | (at_builtin; refine wpList_append_lies _ rfl _ _ 44 rfl w0.heap.size 5 i0 _ 1 1 Tryz.underlying44 hi hz0 hz1 hz2 rfl (by omega) _ N _ rfl (World.ownsRow.alloc (Ob.own (unhide HN) (unhide L1).own) _) ⟨w2.heap.size, 0, none⟩ 1 1 [.int .u8 42] rfl rfl (World.news_of_block (cs := #[.int .u8 42]) (t := 5) (fr := (0, 0)) (heap_new w2 _)) (by simp [Value.oneCell']) (by omega) hm1 hm2 (by simp; omega) (w2.heap.size + 1) (by simp) ?_; intro g9 cap9 w9 hown9 hgrow9 hat9 hlt9)
    | (go_at_call 50; refine (unhide CA1).mono ?_; rintro e w2 ⟨v2, rfl, hA2⟩; have L1 := hide ((unhide A0').trans hA2); have hb2 := (unhide L1).big hB1; clear hA2))
  have L2 := hide ((unhide L1).step hB1 (grown_new hgrow9) (Ob.push (unhide HN) (Z := [42]) rfl hown9))
  have k9 := unhide L2 |>.kp _ _ _ HBX (by decide)
  obtain ⟨r0, r1, r2, r3, r4⟩ := cells5p k9
  clear hown9 hgrow9 hat9 hlt9 L1 hm1 hm2 CA1 q0 q1 q2 q3 q4 hb2
  go_wp2
  go_loopw [0, 16] (fun vo vi wr => ∃ (k : Nat) (D : List Int), k ≤ a.length ∧ vi = .int .i64 (k : Int) ∧ Hid (D ++ anyT (a.drop k) = anyT a) ∧ Ap w0.heap.size (w.alloc (.cells #[.string i, .slice a1 a.length c1, .string f, .bool hi', .bool hf'] 24)) vo ((Y ++ vTxt (nums i) ++ [42]) ++ D) wr) (fun _ i _ => a.length - (intOf i).toNat)
  case atStart => exact ⟨0, [], Nat.zero_le _, rfl, by show _ = _; simp, by rw [List.append_nil]; exact unhide L2⟩
  case round =>
    obtain ⟨k, D, hk, rfl, HD, hL⟩ := hrel
    have LL := hide hL
    have hBr := hL.big hB1
    have tr : Below w0.heap.size w0 wr := tb.trans hL.bel
    clear hL L2
    by_cases hlt : k < a.length
    · have zk0 : (0 : Int) ≤ (k : Int) := by omega
      have zkl : (k : Int) < (a.length : Int) := by omega
      obtain ⟨g, off, rfl, hcell⟩ := (unhide HT wr tr).2.resolve_left (by omega)
      have hck := hcell k hlt
      have hst := anyT_drop a k hlt
      have hdl := congrArg List.length (unhide HD)
      rw [List.length_append, anyT_drop_len a k hlt, ← unhide HA] at hdl
      have hsz := unhide HSUM k hlt
      have hbd := unhide HBD
      have hl0 := unhide HL0
      have hvi := val_le i
      have hDk := congrArg List.length (any_cut (unhide HD))
      generalize a.getD k ⟨#[]⟩ = s at *
      have HST := hide hst
      have CA2 := hide (unhide CA ((Y ++ vTxt (nums i) ++ [42]) ++ D) u0 s wr (unhide LL).own hBr (by simp only [List.length_append, List.length_cons, List.length_nil]; omega))
      obtain ⟨N, hN⟩ : ∃ N, N = (((Y ++ vTxt (nums i) ++ [42]) ++ D) ++ vTxt (nums s)).length := ⟨_, rfl⟩
      have hNl : N + 1 ≤ 1000001 := by rw [hN]; simp only [List.length_append, List.length_cons, List.length_nil]; omega
      have HN := hide hN
      have hm1 : N + 1 ≤ maxLen := by unfold maxLen; omega
      have hm2 : (N + 1) * 1 ≤ 140737488355328 := by omega
      have HD2 : Hid ((D ++ vTxt (nums s) ++ [42]) ++ anyT (a.drop (k + 1)) = anyT a) := by
        show _ = _
        rw [← unhide HD, unhide HST]
        simp
      clear hst hdl hsz hbd hl0 hvi hDk hN hNl hcell HD HST
      go_wp2_with (first
        | (at_builtin; refine wpList_append_lies _ rfl _ _ 44 rfl w0.heap.size 5 i0 _ 1 1 Tryz.underlying44 hi hz0 hz1 hz2 rfl (by omega) _ N _ rfl (World.ownsRow.alloc (Ob.own (unhide HN) (unhide L3).own) _) ⟨w3.heap.size, 0, none⟩ 1 1 [.int .u8 42] rfl rfl (World.news_of_block (cs := #[.int .u8 42]) (t := 5) (fr := (0, 0)) (heap_new w3 _)) (by simp [Value.oneCell']) (by omega) hm1 hm2 (by simp; omega) (w3.heap.size + 1) (by simp) ?_; intro g9 cap9 w9 hown9 hgrow9 hat9 hlt9)
        | (go_at_call 50; refine (unhide CA2).mono ?_; rintro e w3 ⟨v3, rfl, hA3⟩; have L3 := hide ((unhide LL).trans hA3); have hb3 := (unhide L3).big hB1; clear hA3))
      go_roundw
      case rel => exact ⟨k + 1, D ++ vTxt (nums s) ++ [42], by omega, by go_num, unhide HD2, by
        have z := (unhide L3).step hB1 (grown_new hgrow9) (Ob.push (unhide HN) (Z := [42]) rfl hown9)
        simp only [List.append_assoc] at z ⊢
        exact z⟩
      case measure => simp [intOf]; omega
    · have zkl : ¬ (k : Int) < (a.length : Int) := by omega
      have HE : Hid (D = anyT a) := by
        have h := unhide HD
        rw [List.drop_eq_nil_of_le (by omega), anyT, List.append_nil] at h
        exact h
      have k9 := (unhide LL).kp _ _ _ HBX (by decide)
      obtain ⟨r0, r1, r2, r3, r4⟩ := cells5p k9
      have hbd := unhide HBD
      have CA2 := hide (unhide CA ((Y ++ vTxt (nums i) ++ [42]) ++ D) u0 f wr (unhide LL).own hBr (by rw [unhide HE]; simp only [List.length_append, List.length_cons, List.length_nil]; rw [← unhide HA]; omega))
      clear hbd HD
      go_wp2_with (go_at_call 50; refine (unhide CA2).mono ?_; rintro e w3 ⟨v3, rfl, hA3⟩; have L3 := hide ((unhide LL).trans hA3); clear hA3)
      go_ret
      have z := unhide L3
      rw [unhide HE] at z
      refine ⟨_, rfl, ?_⟩
      have y := z.off (B := w0.heap.size) (w := w) hB B1
      unfold starT
      simp only [List.append_assoc, List.cons_append, List.nil_append] at y ⊢
      exact y
end Go.Proofs.YthbldkkjjjmegaaGreatDoor
