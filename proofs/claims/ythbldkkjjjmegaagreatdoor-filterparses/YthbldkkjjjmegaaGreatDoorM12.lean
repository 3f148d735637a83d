/- The document's unhex and plain of layer 24. (By gen_rp.py.) -/
import Derived.Test.YthbldkkjjjmegaaGreatDoorM10
import Derived.Test.YthbldkkjjjmegaaGreatDoorM11
import Derived.Test.YthbldkkjjjmegaaGreatDoorM06
namespace Go.Proofs.YthbldkkjjjmegaaGreatDoor
set_option maxRecDepth 100000
open Go.RowKit

/-- What plain tells: the bytes, and whether they are a text's. -/
def plA (s : ByteArray) : ByteArray := match plainV (nums s) with
  | some v => strOfNums v
  | none => ⟨#[]⟩
def plB (s : ByteArray) : Bool := (plainV (nums s)).isSome
theorem pl_none {s : ByteArray} (h : plainV (nums s) = none) : (⟨#[]⟩ : ByteArray) = plA s ∧ false = plB s := by unfold plA plB; rw [h]; exact ⟨rfl, rfl⟩
theorem pl_some {s : ByteArray} {v : List Int} (h : plainV (nums s) = some v) : strOfNums v = plA s ∧ true = plB s := by unfold plA plB; rw [h]; exact ⟨rfl, rfl⟩
theorem ret_pl {a b : ByteArray} {c d : Bool} (h : a = b ∧ c = d) : Ending.returned (.tuple #[.string a, .bool c]) = .returned (.tuple #[.string b, .bool d]) := by rw [h.1, h.2]
theorem unh_nn24 (c : Int) : 0 ≤ unh c := by unfold unh; split; omega; split; omega; split; omega; omega
theorem grown_drew24 {w w2 : World} {row : Option Nat} {o : Obj} (h : ((w.alloc o).drew).grownBy w2 row) : w.grownBy w2 row := ((Gr.one w o).drew.grown row).trans h
set_option maxHeartbeats 1600000 in
theorem runhex24_any (c : Int) (w : World) (h0 : 0 ≤ c) (h1 : c < 256) : Calls Tryz.prog 77 #[.int .u8 c] w fun e w' => e = .returned (.int .i64 (unh c)) ∧ w = w' := by
  have w0 : IntKind.i64.wrap c = c := wrap_in (by omega) (by omega)
  have w1 : IntKind.i64.wrap (c - 48) = c - 48 := wrap_in (by omega) (by omega)
  have w2 : IntKind.i64.wrap (c - 87) = c - 87 := wrap_in (by omega) (by omega)
  have w3 : IntKind.i64.wrap (c - 55) = c - 55 := wrap_in (by omega) (by omega)
  by_cases a1 : 48 ≤ c <;> by_cases a2 : c ≤ 57 <;> by_cases a3 : 97 ≤ c <;> by_cases a4 : c ≤ 102 <;> by_cases a5 : 65 ≤ c <;> by_cases a6 : c ≤ 70 <;> first
    | (exfalso; omega)
    | (have HE : Hid (unh c = (if 48 ≤ c ∧ c ≤ 57 then c - 48 else if 97 ≤ c ∧ c ≤ 102 then c - 87 else if 65 ≤ c ∧ c ≤ 70 then c - 55 else 16)) := rfl
       simp only [a1, a2, a3, a4, a5, a6, and_true, and_false, if_true, if_false] at HE
       rw [unhide HE]
       clear HE
       go_enter Tryz.func77, Tryz.ntmps77
       go_wp2
       go_ret
       exact ⟨rfl, rfl⟩)
set_option maxHeartbeats 12800000 in
theorem rplain24_any (s : ByteArray) (w : World) (hs : s.size ≤ 10000) : Calls Tryz.prog 68 #[.string s] w fun e w' => e = .returned (.tuple #[.string (plA s), .bool (plB s)]) ∧ Below w.heap.size w w' := by
  obtain ⟨i0, hi, hz0, hz1, hz2⟩ := info_parts u8_info
  have hnl := hide (nums_length s)
  go_enter Tryz.func68, Tryz.ntmps68
  go_wp2
  go_loopw [4, 5] (fun vo vi wr => ∃ (i : Nat) (D : List Int), vi = .int .i64 (i : Int) ∧ i ≤ s.size ∧ D.length ≤ i ∧ Hid (plainV (nums s) = (plainV ((nums s).drop i)).map fun x => D ++ x) ∧ Hid (Ob w.heap.size vo D wr) ∧ Below w.heap.size w wr) (fun _ i _ => s.size - (intOf i).toNat)
  case atStart => exact ⟨0, [], rfl, Nat.zero_le _, Nat.le_refl _, by show _ = _; rw [List.drop_zero]; simp, ⟨rfl, .inl ⟨rfl, rfl⟩⟩, Below.refl _ _⟩
  case round =>
    obtain ⟨i, D, rfl, his, hD, HA, HO, hb⟩ := hrel
    have hsz := hb.size
    obtain ⟨N, hN⟩ : ∃ N, N = D.length := ⟨_, rfl⟩
    have HN := hide hN
    rw [← hN] at hD
    clear hN
    have hm1 : N + 1 ≤ maxLen := by unfold maxLen; omega
    have hb1 : (N + 1) * 1 ≤ 140737488355328 := by omega
    by_cases hlt : i < s.size
    · have hzl : (i : Int) < (s.size : Int) := by omega
      have hz0' : (0 : Int) ≤ (i : Int) := by omega
      have cb := getD_nums s i
      obtain ⟨c, hc⟩ : ∃ c : Int, (s[i].toNat : Int) = c := ⟨_, rfl⟩
      rw [nums_at s i hlt, hc] at cb
      obtain ⟨cb0, cb1⟩ := cb
      have HDR : Hid ((nums s).drop i = c :: (nums s).drop (i + 1)) := by
        show _ = _
        rw [drop_consI (nums s) i (by rw [unhide hnl]; exact hlt), nums_at s i hlt, hc]
      have wi1 : IntKind.i64.wrap ((i : Int) + 1) = ((i + 1 : Nat) : Int) := by rw [wrap_in (by omega) (by omega)]; omega
      have wi2 : IntKind.i64.wrap ((i : Int) + 2) = ((i + 2 : Nat) : Int) := by rw [wrap_in (by omega) (by omega)]; omega
      have wi3 : IntKind.i64.wrap (((i + 2 : Nat) : Int) + 1) = ((i + 3 : Nat) : Int) := by rw [wrap_in (by omega) (by omega)]; omega
      by_cases hbad : c = 0 ∨ (40 ≤ c ∧ c ≤ 42)
      · have HF : Hid ((⟨#[]⟩ : ByteArray) = plA s ∧ false = plB s) := pl_none (by rw [unhide HA, unhide HDR, plain_no _ hbad]; rfl)
        clear HA HDR
        rcases hbad with rfl | ⟨u1, u2⟩
        · clear wi1 wi2 wi3
          go_wp2
          refine bodyPost_ret (results_tmp2 rfl _ _ _) rfl ?_
          exact ⟨ret_pl (unhide HF), hb⟩
        · have g0 : (c == 0) = false := by rw [beq_eq_false_iff_ne]; omega
          clear wi1 wi2 wi3
          go_wp2
          refine bodyPost_ret (results_tmp2 rfl _ _ _) rfl ?_
          exact ⟨ret_pl (unhide HF), hb⟩
      have g0 : (c == 0) = false := by rw [beq_eq_false_iff_ne]; omega
      have hrg : c < 40 ∨ (40 ≤ c ∧ ¬ c ≤ 42) := by omega
      by_cases h92 : c = 92
      · obtain ⟨j, hj⟩ : ∃ j, j = i + 1 := ⟨_, rfl⟩
        obtain ⟨k, hk⟩ : ∃ k, k = i + 2 := ⟨_, rfl⟩
        obtain ⟨m, hm⟩ : ∃ m, m = i + 3 := ⟨_, rfl⟩
        rw [← hj] at wi1
        rw [← hk] at wi2 wi3
        rw [← hm] at wi3
        subst h92
        clear hbad hrg g0
        have HJ := hide hj
        have HK := hide hk
        have HM := hide hm
        by_cases hk1 : k < s.size
        · have zk : (k : Int) < (s.size : Int) := by omega
          have zk0 : (0 : Int) ≤ (k : Int) := by omega
          have zk1 : ¬ (s.size : Int) ≤ (k : Int) := by omega
          have hj1 : j < s.size := by omega
          have zj : (j : Int) < (s.size : Int) := by omega
          have zj0 : (0 : Int) ≤ (j : Int) := by omega
          have db := getD_nums s j
          obtain ⟨d, hd⟩ : ∃ d : Int, (s[j].toNat : Int) = d := ⟨_, rfl⟩
          have hdt : (nums s).getD j 0 = d := by rw [nums_at s j hj1]; exact hd
          rw [hdt] at db
          have eb := getD_nums s k
          obtain ⟨g, hg⟩ : ∃ g : Int, (s[k].toNat : Int) = g := ⟨_, rfl⟩
          have hgt : (nums s).getD k 0 = g := by rw [nums_at s k hk1]; exact hg
          rw [hgt] at eb
          obtain ⟨d0, d1⟩ := db
          obtain ⟨e0, e1⟩ := eb
          have CU1 := hide (fun W => runhex24_any d W d0 d1)
          have CU2 := hide (fun W => runhex24_any g W e0 e1)
          have HP : Hid (plainV (nums s) = (if unh d < 16 ∧ unh g < 16 then (plainV ((nums s).drop m)).map fun x => (16 * unh d + unh g) :: x else none).map fun x => D ++ x) := by
            show _ = _
            rw [unhide HA, unhide HDR, drop_consI (nums s) (i + 1) (by rw [unhide hnl]; omega), drop_consI (nums s) (i + 1 + 1) (by rw [unhide hnl]; omega), plain_hex, ← hj, hdt, show j + 1 = k by omega, hgt, show k + 1 = m by omega]
          have x0 := unh_nn24 d
          have y0 := unh_nn24 g
          have zm : m ≤ s.size := by omega
          have zim : i < m := by omega
          have zNm : N + 1 ≤ m := by omega
          clear hj hk hm hdt hgt HA HDR
          generalize unh d = x at *
          generalize unh g = y at *
          by_cases hx : x < 16
          · have hx1 : ¬ (15 : Int) < x := by omega
            by_cases hy : y < 16
            · have hy1 : ¬ (15 : Int) < y := by omega
              obtain ⟨z, hz⟩ : ∃ z : Int, z = 16 * x + y := ⟨_, rfl⟩
              have w16 : IntKind.i64.wrap (16 * x) = 16 * x := wrap_in (by omega) (by omega)
              have wz : IntKind.i64.wrap (16 * x + y) = z := by rw [wrap_in (by omega) (by omega)]; exact hz.symm
              have wu : IntKind.u8.wrap z = z := by simp [IntKind.wrap, IntKind.bits, IntKind.signed]; omega
              have HA2 : Hid (plainV (nums s) = (plainV ((nums s).drop m)).map fun x => (D ++ [z]) ++ x) := by
                show _ = _
                rw [unhide HP, if_pos ⟨hx, hy⟩, hz]
                cases plainV ((nums s).drop m) <;> simp
              have hH1 := hide (heap_new wr (.cells #[.int .u8 z] 5))
              clear hz HP
              go_wp2_with (first
                | (go_at_call_of 77 (d); refine (unhide CU1 _).mono ?_; rintro e w4 ⟨rfl, rfl⟩)
                | (go_at_call_of 77 (g); refine (unhide CU2 _).mono ?_; rintro e w5 ⟨rfl, rfl⟩))
              go_region_held3 (fun _ => True) (trivial)
                (first
                  | (refine step_append_lies _ (by rfl) _ _ 44 (by rfl) w.heap.size 5 i0 _ 1 1 Tryz.underlying44 hi hz0 hz1 hz2 rfl (by omega) _ N _ (by rfl) (((Ob.own (unhide HN) (unhide HO)).alloc _).drew) ⟨wr.heap.size, 0, none⟩ 1 1 [.int .u8 z] (by rfl) (by rfl) (World.news_of_block (cs := #[.int .u8 z]) (t := 5) (fr := (0, 0)) (unhide hH1)) (by simp [Value.oneCell']) (by omega) hm1 hb1 (by simp; omega) (wr.heap.size + 1) (by simp) ?_; intro g9 cap9 w9 hown9 hgrow9 hat9 hlt9)
                  | (go_at_call_of 77 (d); refine (unhide CU1 _).mono ?_; rintro e w4 ⟨rfl, rfl⟩)
                  | (go_at_call_of 77 (g); refine (unhide CU2 _).mono ?_; rintro e w5 ⟨rfl, rfl⟩))
              all_goals
                go_wp2
                go_roundw
                case rel =>
                  refine ⟨m, D ++ [z], by first | rfl | go_num, by omega, ?_, unhide HA2, Ob.push (unhide HN) (Z := [z]) rfl hown9, hb.trans (below_own (grown_drew24 hgrow9) hsz (own_block (Ob.own (unhide HN) (unhide HO))))⟩
                  rw [List.length_append, ← unhide HN]; simp; omega
                case measure => simp [intOf]; omega
            · have hy1 : (15 : Int) < y := by omega
              have HF : Hid ((⟨#[]⟩ : ByteArray) = plA s ∧ false = plB s) := pl_none (by rw [unhide HP, if_neg (fun h => hy h.2)]; rfl)
              clear HP
              go_wp2_with (first
                | (go_at_call_of 77 (d); refine (unhide CU1 _).mono ?_; rintro e w4 ⟨rfl, rfl⟩)
                | (go_at_call_of 77 (g); refine (unhide CU2 _).mono ?_; rintro e w5 ⟨rfl, rfl⟩))
              refine bodyPost_ret (results_tmp2 rfl _ _ _) rfl ?_
              exact ⟨ret_pl (unhide HF), hb⟩
          · have hx1 : (15 : Int) < x := by omega
            have HF : Hid ((⟨#[]⟩ : ByteArray) = plA s ∧ false = plB s) := pl_none (by rw [unhide HP, if_neg (fun h => hx h.1)]; rfl)
            clear HP
            go_wp2_with (first
              | (go_at_call_of 77 (d); refine (unhide CU1 _).mono ?_; rintro e w4 ⟨rfl, rfl⟩))
            refine bodyPost_ret (results_tmp2 rfl _ _ _) rfl ?_
            exact ⟨ret_pl (unhide HF), hb⟩
        · have zk1 : (s.size : Int) ≤ (k : Int) := by omega
          have HF : Hid ((⟨#[]⟩ : ByteArray) = plA s ∧ false = plB s) := pl_none (by
            rw [unhide HA, unhide HDR]
            by_cases hj1 : i + 1 < s.size
            · rw [drop_consI (nums s) (i + 1) (by rw [unhide hnl]; exact hj1), List.drop_eq_nil_of_le (by rw [unhide hnl]; omega), plain_h1]; rfl
            · rw [List.drop_eq_nil_of_le (by rw [unhide hnl]; omega), plain_h0]; rfl)
          clear hj hk hm HA HDR
          go_wp2
          refine bodyPost_ret (results_tmp2 rfl _ _ _) rfl ?_
          exact ⟨ret_pl (unhide HF), hb⟩
      have g92 : (c == 92) = false := by rw [beq_eq_false_iff_ne]; exact h92
      have HA2 : Hid (plainV (nums s) = (plainV ((nums s).drop (i + 1))).map fun x => (D ++ [c]) ++ x) := by
        show _ = _
        rw [unhide HA, unhide HDR, plain_bare _ hbad h92]
        cases plainV ((nums s).drop (i + 1)) <;> simp
      clear HA HDR hbad h92 wi2 wi3
      rcases hrg with u1 | ⟨u1, u2⟩
      · have u2 : ¬ 40 ≤ c := by omega
        go_wp2_with (first
          | (at_builtin; refine wpList_append_lies _ rfl _ _ 44 rfl w.heap.size 5 i0 _ 1 1 Tryz.underlying44 hi hz0 hz1 hz2 rfl (by omega) _ N _ rfl (World.ownsRow.alloc (Ob.own (unhide HN) (unhide HO)) _) ⟨wr.heap.size, 0, none⟩ 1 1 [.int .u8 c] rfl rfl (World.news_of_block (cs := #[.int .u8 c]) (t := 5) (fr := (0, 0)) (heap_new wr _)) (by simp [Value.oneCell']) (by omega) hm1 hb1 (by simp; omega) (wr.heap.size + 1) (by simp) ?_; intro g9 cap9 w9 hown9 hgrow9 hat9 hlt9))
        go_roundw
        case rel =>
          refine ⟨i + 1, D ++ [c], by first | rfl | go_num, by omega, ?_, unhide HA2, Ob.push (unhide HN) (Z := [c]) rfl hown9, hb.trans (below_own (grown_new hgrow9) hsz (own_block (Ob.own (unhide HN) (unhide HO))))⟩
          rw [List.length_append, ← unhide HN]; simp; omega
        case measure => simp [intOf]; omega
      · have u3 := trivial
        go_wp2_with (first
          | (at_builtin; refine wpList_append_lies _ rfl _ _ 44 rfl w.heap.size 5 i0 _ 1 1 Tryz.underlying44 hi hz0 hz1 hz2 rfl (by omega) _ N _ rfl (World.ownsRow.alloc (Ob.own (unhide HN) (unhide HO)) _) ⟨wr.heap.size, 0, none⟩ 1 1 [.int .u8 c] rfl rfl (World.news_of_block (cs := #[.int .u8 c]) (t := 5) (fr := (0, 0)) (heap_new wr _)) (by simp [Value.oneCell']) (by omega) hm1 hb1 (by simp; omega) (wr.heap.size + 1) (by simp) ?_; intro g9 cap9 w9 hown9 hgrow9 hat9 hlt9))
        go_roundw
        case rel =>
          refine ⟨i + 1, D ++ [c], by first | rfl | go_num, by omega, ?_, unhide HA2, Ob.push (unhide HN) (Z := [c]) rfl hown9, hb.trans (below_own (grown_new hgrow9) hsz (own_block (Ob.own (unhide HN) (unhide HO))))⟩
          rw [List.length_append, ← unhide HN]; simp; omega
        case measure => simp [intOf]; omega
    · have hzl : ¬ (i : Int) < (s.size : Int) := by omega
      have HF : Hid (strOfNums D = plA s ∧ true = plB s) := pl_some (by
        rw [unhide HA, List.drop_eq_nil_of_le (by rw [unhide hnl]; omega), plain_nil]
        simp)
      have cv := (unhide HO).conv
      clear HA
      go_wp2
      refine bodyPost_ret (results_tmp2 rfl _ _ _) rfl ?_
      exact ⟨ret_pl (unhide HF), hb⟩
end Go.Proofs.YthbldkkjjjmegaaGreatDoor
/- The document's split, lower, boolean of layer 24. -/
namespace Go.Proofs.YthbldkkjjjmegaaGreatDoor
set_option maxRecDepth 100000
open Go.RowKit

theorem u8w24 {x : Int} (h0 : 0 ≤ x) (h1 : x < 256) : IntKind.u8.wrap x = x := by simp [IntKind.wrap, IntKind.bits, IntKind.signed]; omega
/-! lower -/
/-- Bytes in a block that may be written. -/
def Sb (g : Nat) (X : List Int) (w : World) : Prop := ∀ j, j < X.length → w.cell? ⟨g, j, none⟩ = some (.int .u8 (X.getD j 0)) ∧ w.frozen? ⟨g, j, none⟩ = false
theorem bytes_sb (t : ByteArray) (w : World) : ∃ (w1 : World) (cap1 : Nat), (convert 9 44 (.string t)).run Tryz.prog w = .ok (.slice (some ⟨w.heap.size, 0, none⟩) t.size cap1) w1 ∧ Sb w.heap.size (nums t) w1 ∧ Below w.heap.size w w1 := by
  refine ⟨_, _, run_bytes_of_string w 9 44 5 t Tryz.underlying9 Tryz.underlying44 Tryz.underlying5, ?_, ((Below.refl _ _).drew).alloc (Nat.le_refl _) _⟩
  intro j hj
  rw [nums_length] at hj
  refine ⟨?_, ?_⟩
  · have := World.cell?_alloc_mark w.drew (bytesRow t (grownCap w t.size 0 5)) 5 ((bytesRow t (grownCap w t.size 0 5)).size, (bytesRow t (grownCap w t.size 0 5)).size + 1) j
    refine this.trans ?_
    rw [bytesRow_at t _ j (by simpa using hj), nums_at t j hj]
    rfl
  · have hz : t.size ≤ (bytesRow t (grownCap w t.size 0 5)).size := by
      have := bytesRow_at t (grownCap w t.size 0 5) (t.size - 1) (by simp; omega)
      have := (Array.getElem?_eq_some_iff.1 this).1
      omega
    have hh := heap_new w.drew (.cells (bytesRow t (grownCap w t.size 0 5)) 5 ((bytesRow t (grownCap w t.size 0 5)).size, (bytesRow t (grownCap w t.size 0 5)).size + 1))
    have hw : w.drew.heap.size = w.heap.size := rfl
    rw [hw] at hh
    generalize bytesRow t (grownCap w t.size 0 5) = R at *
    unfold World.frozen?
    simp only [hh]
    rw [decide_eq_false (by omega)]
    rfl
theorem Sb.put {g : Nat} {X : List Int} {w : World} {k : Nat} (h : Sb g X w) (hk : k < X.length) (y : Int) : Sb g (X.set k y) (w.setCell ⟨g, k, none⟩ (.int .u8 y)) := by
  intro j hj
  rw [List.length_set] at hj
  obtain ⟨c, f⟩ := h j hj
  refine ⟨?_, by rw [World.frozen?_setCell]; exact f⟩
  by_cases e : j = k
  · subst e
    rw [World.cell?_setCell_same _ _ _ c]
    simp [List.getD, hj]
  · rw [World.cell?_setCell_other _ _ _ _ (by intro h; injection h with _ h2; exact e h2.symm), c]
    simp [List.getD, List.getElem?_set_ne (fun h => e h.symm)]
theorem Sb.conv {g cap : Nat} {X : List Int} {w : World} (h : Sb g X w) : (convert 44 9 (.slice (some ⟨g, 0, none⟩) X.length cap)).run Tryz.prog w = .ok (.string (strOfNums X)) w := by
  refine run_convert_bytes_arg w 44 5 Tryz.underlying44 Tryz.underlying5 g 0 X.length cap X rfl ?_ 9 Tryz.underlying9
  intro i hi
  rw [Nat.zero_add]
  exact (h i hi).1
theorem sml_step (l : List Int) (k : Nat) (h : k < l.length) : ((l.take k).map smlC ++ l.drop k).getD k 0 = l.getD k 0 ∧ ((l.take k).map smlC ++ l.drop k).set k (smlC (l.getD k 0)) = (l.take (k + 1)).map smlC ++ l.drop (k + 1) := by
  have e : ((l.take k).map smlC).length = k := by simp; omega
  refine ⟨?_, ?_⟩
  · rw [List.getD, List.getElem?_append_right (by omega), e, Nat.sub_self]
    simp [List.getD]
  · rw [List.set_append_right _ _ (by omega), e, Nat.sub_self, drop_consI l k h, List.set_cons_zero, List.take_succ_eq_append_getElem h, List.map_append, List.append_assoc]
    simp only [List.getD, List.getElem?_eq_getElem h, Option.getD_some, List.map_cons, List.map_nil, List.singleton_append]
theorem sml_len (l : List Int) (k : Nat) (h : k ≤ l.length) : ((l.take k).map smlC ++ l.drop k).length = l.length := by simp; omega
set_option maxHeartbeats 3200000 in
theorem rlower24_any (s : ByteArray) (w : World) (hs : s.size ≤ 100000) : Calls Tryz.prog 64 #[.string s] w fun e w' => e = .returned (.string (strOfNums ((nums s).map smlC))) ∧ Below w.heap.size w w' := by
  obtain ⟨w1, cap1, hcv, hsb, hb⟩ := bytes_sb s w
  have HSB := hide hsb
  have hnl := nums_length s
  clear hsb
  go_enter Tryz.func64, Tryz.ntmps64
  go_wp2
  go_loopw [4] (fun i wr => ∃ k : Nat, k ≤ s.size ∧ i = .int .i64 (k : Int) ∧ Hid (Sb w.heap.size (((nums s).take k).map smlC ++ (nums s).drop k) wr) ∧ Below w.heap.size w wr) (fun i _ => s.size - (intOf i).toNat)
  case atStart => exact ⟨0, Nat.zero_le _, rfl, by simpa using HSB, hb⟩
  case round =>
    obtain ⟨k, hk, rfl, HX, hbr⟩ := hrel
    by_cases hlt : k < s.size
    · have hzl : (k : Int) < (s.size : Int) := by omega
      have hz0 : (0 : Int) ≤ (k : Int) := by omega
      obtain ⟨st1, st2⟩ := sml_step (nums s) k (by omega)
      obtain ⟨q1, f1⟩ := unhide HX k (by rw [sml_len _ _ (by omega)]; omega)
      rw [st1] at q1
      have cb := getD_nums s k
      have HP : Hid (Sb w.heap.size (((nums s).take (k + 1)).map smlC ++ (nums s).drop (k + 1)) (wr.setCell ⟨w.heap.size, k, none⟩ (.int .u8 (smlC ((nums s).getD k 0))))) := by
        have := (unhide HX).put (k := k) (by rw [sml_len _ _ (by omega)]; omega) (smlC ((nums s).getD k 0))
        rw [st2] at this
        exact this
      have HQ : Hid (smlC ((nums s).getD k 0) = (nums s).getD k 0 → Sb w.heap.size (((nums s).take (k + 1)).map smlC ++ (nums s).drop (k + 1)) wr) := fun h => by
        have := unhide HX
        have e : ((nums s).take k).map smlC ++ (nums s).drop k = ((nums s).take (k + 1)).map smlC ++ (nums s).drop (k + 1) := by
          rw [← st2, h, ← st1, List.getD, List.getElem?_eq_getElem (by rw [sml_len _ _ (by omega)]; omega)]
          simp
        rw [e] at this
        exact this
      clear st1 st2 HX
      generalize (nums s).getD k 0 = c at *
      by_cases c1 : 65 ≤ c
      · by_cases c2 : c ≤ 90
        · have e : smlC c = c + 32 := by unfold smlC; rw [if_pos ⟨c1, c2⟩]
          rw [e] at HP
          have wc : IntKind.u8.wrap (c + 32) = c + 32 := u8w24 (by omega) (by omega)
          clear HQ e
          go_wp2
          go_roundw
          case rel => exact ⟨k + 1, by omega, by go_num, unhide HP, hbr.setCell (Nat.le_refl _) _⟩
          case measure => simp [intOf]; omega
        · have e : smlC c = c := by unfold smlC; rw [if_neg (by omega)]
          have HE := hide (unhide HQ e)
          clear HQ HP e
          go_wp2
          go_roundw
          case rel => exact ⟨k + 1, by omega, by go_num, unhide HE, hbr⟩
          case measure => simp [intOf]; omega
      · have e : smlC c = c := by unfold smlC; rw [if_neg (by omega)]
        have HE := hide (unhide HQ e)
        clear HQ HP e
        go_wp2
        go_roundw
        case rel => exact ⟨k + 1, by omega, by go_num, unhide HE, hbr⟩
        case measure => simp [intOf]; omega
    · have hzl : ¬ (k : Int) < (s.size : Int) := by omega
      have h2 := unhide HX
      rw [List.take_of_length_le (by omega), List.drop_eq_nil_of_le (by omega), List.append_nil] at h2
      have cv := h2.conv (cap := cap1)
      rw [List.length_map, hnl] at cv
      clear h2
      go_wp2
      go_ret
      exact ⟨rfl, hbr⟩
/-! split -/
/-- What stands from one place to another one. -/
def seg (l : List Int) (f i : Nat) : List Int := (l.drop f).take (i - f)
theorem seg_next {l : List Int} {f i : Nat} (hf : f ≤ i) (hi : i < l.length) : seg l f (i + 1) = seg l f i ++ [l.getD i 0] := by
  unfold seg
  rw [show i + 1 - f = (i - f) + 1 by omega, List.take_succ_eq_append_getElem (by rw [List.length_drop]; omega)]
  simp [List.getD, show f + (i - f) = i by omega, hi]
theorem seg_drop {l : List Int} {f i : Nat} (hf : f ≤ i) : l.drop f = seg l f i ++ l.drop i := by
  unfold seg
  conv => lhs; rw [← List.take_append_drop (i - f) (l.drop f)]
  rw [List.drop_drop, show f + (i - f) = i by omega]
/-- A row of texts of the call's own. -/
def Tx (B : Nat) (v : Value) (ps : List ByteArray) (w : World) : Prop := w.ownsRow B 9 1 v ps.length (ps.map Value.string)
theorem Tx.below {w w2 : World} {B : Nat} {v : Value} {ps : List ByteArray} (h : Tx B v ps w) (hb : Below w.heap.size w w2) : Tx B v ps w2 := own_below h hb
theorem Tx.own {w : World} {B N : Nat} {v : Value} {ps : List ByteArray} (hN : N = ps.length) (h : Tx B v ps w) : w.ownsRow B 9 1 v N (ps.map Value.string) := by subst hN; exact h
theorem Tx.push {w : World} {B N : Nat} {v : Value} {ps : List ByteArray} {p : ByteArray} (hN : N = ps.length) (h : w.ownsRow B 9 1 v (N + 1) (ps.map Value.string ++ [.string p])) : Tx B v (ps ++ [p]) w := by
  subst hN
  unfold Tx
  rw [List.length_append, List.map_append]
  exact h
theorem Tx.at {w : World} {B : Nat} {v : Value} {ps : List ByteArray} (h : Tx B v ps w) (hp : 0 < ps.length) : ∃ g c, v = .slice (some ⟨g, 0, none⟩) ps.length c ∧ ∀ j, j < ps.length → w.cell? ⟨g, j, none⟩ = some (.string (ps.getD j ByteArray.empty)) := by
  rcases h.2 with ⟨_, h0⟩ | ⟨g, cap, cur, hv, _⟩
  · omega
  · refine ⟨g, cap, hv, fun j hj => ?_⟩
    have := World.ownsRow.cells h (g := g) (by rw [hv]; rfl) j (.string (ps.getD j ByteArray.empty)) (by simp [List.getD, hj])
    rwa [add_zero3] at this
theorem str_info : (Tryz.prog.info? 9).map (fun i => (i.zero, i.size, i.bytes)) = some (some (.string ⟨#[]⟩), 1, 16) := by kernel_rfl
set_option maxHeartbeats 6400000 in
theorem rsplit24_any (s : ByteArray) (d : Int) (w : World) (hs : s.size ≤ 10000) : Calls Tryz.prog 66 #[.string s, .int .u8 d] w fun e w' => ∃ v ps, e = .returned v ∧ ps.map nums = splitL d (nums s) ∧ (∀ p ∈ ps, p.size ≤ s.size) ∧ ps.length ≤ s.size + 1 ∧ Tx w.heap.size v ps w' ∧ Below w.heap.size w w' := by
  obtain ⟨i0, hi, hz0, hz1, hz2⟩ := info_parts str_info
  have hnl := nums_length s
  go_enter Tryz.func66, Tryz.ntmps66
  go_wp2
  go_loopw [5, 6, 7] (fun vo vf vi wr => ∃ (f i : Nat) (ps : List ByteArray), vf = .int .i64 (f : Int) ∧ vi = .int .i64 (i : Int) ∧ f ≤ i ∧ f ≤ s.size ∧ i ≤ s.size ∧ ps.length ≤ f ∧ (∀ p ∈ ps, p.size ≤ s.size) ∧ Hid (ps.map nums ++ splitL d ((nums s).drop f) = splitL d (nums s)) ∧ Hid (∀ x ∈ seg (nums s) f i, x ≠ d) ∧ Hid (Tx w.heap.size vo ps wr) ∧ Below w.heap.size w wr) (fun _ _ i _ => s.size + 2 - (intOf i).toNat)
  case atStart => exact ⟨0, 0, [], rfl, rfl, Nat.le_refl _, Nat.zero_le _, Nat.zero_le _, Nat.le_refl _, fun p hp => by simp at hp, by show _ = _; simp, by show ∀ x ∈ seg (nums s) 0 0, x ≠ d; simp [seg], ⟨rfl, .inl ⟨rfl, rfl⟩⟩, Below.refl _ _⟩
  case round =>
    obtain ⟨f, i, ps, rfl, rfl, hfi, hfs, his, hpl, hps, HG, HS, HT, hb⟩ := hrel
    have hsz := hb.size
    have zf0 : (0 : Int) ≤ (f : Int) := by omega
    have zfs : (f : Int) ≤ (s.size : Int) := by omega
    obtain ⟨N, hN⟩ : ∃ N, N = ps.length := ⟨_, rfl⟩
    have HN := hide hN
    rw [← hN] at hpl
    clear hN
    have hm1 : N + 1 ≤ maxLen := by unfold maxLen; omega
    have hm2 : (N + 1) * 16 ≤ 140737488355328 := by omega
    by_cases hlt : i < s.size
    · have hzl : (i : Int) < (s.size : Int) := by omega
      have hz0' : (0 : Int) ≤ (i : Int) := by omega
      have zfi : (f : Int) ≤ (i : Int) := by omega
      have zis : (i : Int) ≤ (s.size : Int) := by omega
      obtain ⟨c, hc⟩ : ∃ c : Int, (s[i].toNat : Int) = c := ⟨_, rfl⟩
      have HAT : Hid ((nums s).getD i 0 = c) := by show _ = _; rw [nums_at s i hlt]; exact hc
      have wi : IntKind.i64.wrap ((i : Int) + 1) = (i : Int) + 1 := wrap_in (by omega) (by omega)
      by_cases hcd : c = d
      · have HG2 : Hid ((ps ++ [s.extract f i]).map nums ++ splitL d ((nums s).drop (i + 1)) = splitL d (nums s)) := by
          show _ = _
          have := unhide HG
          rw [seg_drop hfi, drop_consI (nums s) i (by omega), unhide HAT, hcd, split_at d _ _ (unhide HS)] at this
          rw [← this, List.map_append, List.map_cons, List.map_nil, nums_sub]
          simp [seg]
        have HPS : Hid (∀ p ∈ ps ++ [s.extract f i], p.size ≤ s.size) := fun p hp => by
          rcases List.mem_append.1 hp with h | h
          · exact hps p h
          · rw [List.mem_singleton.1 h, ByteArray.size_extract]; omega
        clear HG HAT HS
        subst hcd
        go_wp2_with (at_builtin; refine wpList_append_lies _ rfl _ _ 22 rfl w.heap.size 9 i0 _ 1 16 Tryz.underlying22 hi hz0 hz1 hz2 rfl (by omega) _ N _ rfl (World.ownsRow.alloc (Tx.own (unhide HN) (unhide HT)) _) ⟨wr.heap.size, 0, none⟩ 1 1 [.string _] rfl rfl (World.news_of_block (cs := #[.string _]) (t := 9) (fr := (0, 0)) (heap_new wr _)) (by simp [Value.oneCell']) (by omega) hm1 hm2 (by simp; omega) (wr.heap.size + 1) (by simp) ?_; intro g9 cap9 w9 hown9 hgrow9 hat9 hlt9)
        go_roundw
        case rel => exact ⟨i + 1, i + 1, _, by go_num, by go_num, Nat.le_refl _, by omega, by omega, by rw [List.length_append, ← unhide HN]; simp; omega, unhide HPS, unhide HG2, by show ∀ x ∈ seg (nums s) (i + 1) (i + 1), x ≠ c; simp [seg], Tx.push (unhide HN) hown9, hb.trans (below_own (grown_new hgrow9) hsz (own_block (Tx.own (unhide HN) (unhide HT))))⟩
        case measure => simp [intOf]; omega
      · have hcd' : (c == d) = false := by rw [beq_eq_false_iff_ne]; exact hcd
        have HS2 : Hid (∀ x ∈ seg (nums s) f (i + 1), x ≠ d) := fun x hx => by
          rw [seg_next hfi (by omega), unhide HAT] at hx
          rcases List.mem_append.1 hx with h | h
          · exact unhide HS x h
          · rw [List.mem_singleton.1 h]; exact hcd
        clear HAT HS hcd
        go_wp2
        go_roundw
        case rel => exact ⟨f, i + 1, ps, rfl, by go_num, by omega, hfs, by omega, by rw [← unhide HN]; exact hpl, hps, unhide HG, unhide HS2, unhide HT, hb⟩
        case measure => simp [intOf]; omega
    · have hzl : ¬ (i : Int) < (s.size : Int) := by omega
      have HE : Hid ((ps ++ [s.extract f s.size]).map nums = splitL d (nums s)) := by
        show _ = _
        have := unhide HG
        rw [seg_drop hfi, List.drop_eq_nil_of_le (show (nums s).length ≤ i by omega), List.append_nil, split_none d _ (unhide HS)] at this
        rw [← this, List.map_append, List.map_cons, List.map_nil, nums_drop]
        have e := seg_drop (l := nums s) hfi
        rw [List.drop_eq_nil_of_le (show (nums s).length ≤ i by omega), List.append_nil] at e
        rw [← e]
      have HPS : Hid (∀ p ∈ ps ++ [s.extract f s.size], p.size ≤ s.size) := fun p hp => by
        rcases List.mem_append.1 hp with h | h
        · exact hps p h
        · rw [List.mem_singleton.1 h, ByteArray.size_extract]; omega
      clear HG HS
      go_wp2_with (at_builtin; refine wpList_append_lies _ rfl _ _ 22 rfl w.heap.size 9 i0 _ 1 16 Tryz.underlying22 hi hz0 hz1 hz2 rfl (by omega) _ N _ rfl (World.ownsRow.alloc (Tx.own (unhide HN) (unhide HT)) _) ⟨wr.heap.size, 0, none⟩ 1 1 [.string _] rfl rfl (World.news_of_block (cs := #[.string _]) (t := 9) (fr := (0, 0)) (heap_new wr _)) (by simp [Value.oneCell']) (by omega) hm1 hm2 (by simp; omega) (wr.heap.size + 1) (by simp) ?_; intro g9 cap9 w9 hown9 hgrow9 hat9 hlt9)
      go_ret
      refine ⟨.slice (some ⟨g9, 0, none⟩) (N + 1) cap9, rfl, ps ++ [s.extract f s.size], unhide HE, unhide HPS, ?_, Tx.push (unhide HN) hown9, hb.trans (below_own (grown_new hgrow9) hsz (own_block (Tx.own (unhide HN) (unhide HT))))⟩
      rw [List.length_append, ← unhide HN]; simp; omega
/-! boolean -/
theorem rbool24_any (c : Int) (w : World) : Calls Tryz.prog 45 #[.int .u8 c] w fun e w' => e = .returned (.int .i64 (boolK c)) ∧ w = w' := by
  by_cases h1 : c = 38
  · subst h1
    go_enter Tryz.func45, Tryz.ntmps45
    go_wp2
    go_ret
    exact ⟨rfl, rfl⟩
  · have g1 : (c == 38) = false := by rw [beq_eq_false_iff_ne]; exact h1
    by_cases h2 : c = 124
    · subst h2
      clear h1
      go_enter Tryz.func45, Tryz.ntmps45
      go_wp2
      go_ret
      exact ⟨rfl, rfl⟩
    · have g2 : (c == 124) = false := by rw [beq_eq_false_iff_ne]; exact h2
      by_cases h3 : c = 33
      · subst h3
        clear h1 h2
        go_enter Tryz.func45, Tryz.ntmps45
        go_wp2
        go_ret
        exact ⟨rfl, rfl⟩
      · have g3 : (c == 33) = false := by rw [beq_eq_false_iff_ne]; exact h3
        have e : boolK c = -1 := by unfold boolK; rw [if_neg h1, if_neg h2, if_neg h3]
        rw [e]
        clear h1 h2 h3 e
        go_enter Tryz.func45, Tryz.ntmps45
        go_wp2
        go_ret
        exact ⟨rfl, rfl⟩
end Go.Proofs.YthbldkkjjjmegaaGreatDoor
