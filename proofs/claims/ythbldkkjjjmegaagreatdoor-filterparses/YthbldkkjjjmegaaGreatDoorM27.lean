/- The landed cutSign of layer 24. (By gen_cs.py.) -/
import Derived.Test.YthbldkkjjjmegaaGreatDoorM26
import Derived.Test.YthbldkkjjjmegaaGreatDoorM16
import Derived.Test.YthbldkkjjjmegaaGreatDoorM11
import Derived.Laws.Rows
namespace Go.Proofs.YthbldkkjjjmegaaGreatDoor
set_option maxRecDepth 100000
open Go.RowKit

theorem results_tmp4 {fn : Func} {t u v x : Tmp} (h : fn.results = #[.tmp t, .tmp u, .tmp v, .tmp x]) (tmps : Array Value) (P : Program) (w : World) :
    (results fn tmps).run P w = .ok (.tuple #[tmps.getD t undef, tmps.getD u undef, tmps.getD v undef, tmps.getD x undef]) w := by
  simp [results, h]
/-- What CutPrefix says of a sign. -/
def pfB (s p : ByteArray) : Bool := Lib.hasPrefix s.data.toList p.data.toList
def pfT (s p : ByteArray) : ByteArray := ⟨(Lib.trimPrefix s.data.toList p.data.toList).toArray⟩
def sgT (j : Nat) : ByteArray := ([⟨#[61]⟩, ⟨#[62, 61]⟩, ⟨#[60, 61]⟩, ⟨#[126, 61]⟩, ⟨#[58, 61]⟩] : List ByteArray).getD j ⟨#[]⟩
def sgK (j : Nat) : Int := ([3, 5, 6, 8, 9] : List Int).getD j 0
theorem u8_eq {b : UInt8} {n : Nat} (hn : n < 256) (h : (b.toNat : Int) = (n : Int)) : b = n.toUInt8 := by
  have h2 : b.toNat = n := by omega
  apply UInt8.toNat_inj.1
  rw [h2]
  show n = n % 256
  omega
theorem pf_one (s : ByteArray) (p : UInt8) : pfB s ⟨#[p]⟩ = true → ∃ t, nums s = (p.toNat : Int) :: t ∧ nums (pfT s ⟨#[p]⟩) = t := by
  intro h
  unfold pfB Lib.hasPrefix at h
  have hT : Lib.trimPrefix s.data.toList [p] = s.data.toList.drop 1 := by
    unfold Lib.trimPrefix Lib.hasPrefix
    rw [if_pos h]
    rfl
  unfold pfT nums
  rw [hT]
  cases hs : s.data.toList with
  | nil => rw [hs] at h; simp at h
  | cons b r =>
    rw [hs] at h
    simp only [List.isPrefixOf, Bool.and_true, beq_iff_eq] at h
    subst h
    exact ⟨_, rfl, by simp⟩
theorem pf_two (s : ByteArray) (p q : UInt8) : pfB s ⟨#[p, q]⟩ = true → ∃ t, nums s = (p.toNat : Int) :: (q.toNat : Int) :: t ∧ nums (pfT s ⟨#[p, q]⟩) = t := by
  intro h
  unfold pfB Lib.hasPrefix at h
  have hT : Lib.trimPrefix s.data.toList [p, q] = s.data.toList.drop 2 := by
    unfold Lib.trimPrefix Lib.hasPrefix
    rw [if_pos h]
    rfl
  unfold pfT nums
  rw [hT]
  match hs : s.data.toList with
  | [] => rw [hs] at h; simp at h
  | [b] => rw [hs] at h; simp [List.isPrefixOf] at h
  | b :: c :: r =>
    rw [hs] at h
    simp only [List.isPrefixOf, Bool.and_true, Bool.and_eq_true, beq_iff_eq] at h
    obtain ⟨rfl, rfl⟩ := h
    exact ⟨_, rfl, by simp⟩
theorem pf_one_no (s : ByteArray) (p : UInt8) (h : pfB s ⟨#[p]⟩ = false) : ∀ t, nums s ≠ (p.toNat : Int) :: t := by
  intro t e
  unfold pfB Lib.hasPrefix at h
  unfold nums at e
  cases hs : s.data.toList with
  | nil => rw [hs] at e; cases e
  | cons b r =>
    rw [hs] at e h
    simp only [List.map_cons, List.cons.injEq] at e
    have hb : b = p := UInt8.toNat_inj.1 (by omega)
    subst hb
    simp [List.isPrefixOf] at h
theorem pf_two_no (s : ByteArray) (p q : UInt8) (h : pfB s ⟨#[p, q]⟩ = false) : ∀ t, nums s ≠ (p.toNat : Int) :: (q.toNat : Int) :: t := by
  intro t e
  unfold pfB Lib.hasPrefix at h
  unfold nums at e
  match hs : s.data.toList with
  | [] => rw [hs] at e; cases e
  | [b] => rw [hs] at e; simp at e
  | b :: c :: r =>
    rw [hs] at e h
    simp only [List.map_cons, List.cons.injEq] at e
    have hb : b = p := UInt8.toNat_inj.1 (by omega)
    have hc : c = q := UInt8.toNat_inj.1 (by omega)
    subst hb hc
    simp [List.isPrefixOf] at h
theorem sg_yes (s : ByteArray) (j : Nat) (hj : j < 5) (h : pfB s (sgT j) = true) : sgA (nums s) = some (sgK j, nums (pfT s (sgT j))) := by
  match j, hj with
  | 0, _ => obtain ⟨t, h1, h2⟩ := pf_one s 61 h; rw [show sgT 0 = ⟨#[61]⟩ from rfl, h2, h1]; rfl
  | 1, _ => obtain ⟨t, h1, h2⟩ := pf_two s 62 61 h; rw [show sgT 1 = ⟨#[62, 61]⟩ from rfl, h2, h1]; rfl
  | 2, _ => obtain ⟨t, h1, h2⟩ := pf_two s 60 61 h; rw [show sgT 2 = ⟨#[60, 61]⟩ from rfl, h2, h1]; rfl
  | 3, _ => obtain ⟨t, h1, h2⟩ := pf_two s 126 61 h; rw [show sgT 3 = ⟨#[126, 61]⟩ from rfl, h2, h1]; rfl
  | 4, _ => obtain ⟨t, h1, h2⟩ := pf_two s 58 61 h; rw [show sgT 4 = ⟨#[58, 61]⟩ from rfl, h2, h1]; rfl
theorem sg_no (s : ByteArray) (h : ∀ m, m < 5 → pfB s (sgT m) = false) : sgA (nums s) = none := by
  have h0 := pf_one_no s 61 (h 0 (by decide))
  have h1 := pf_two_no s 62 61 (h 1 (by decide))
  have h2 := pf_two_no s 60 61 (h 2 (by decide))
  have h3 := pf_two_no s 126 61 (h 3 (by decide))
  have h4 := pf_two_no s 58 61 (h 4 (by decide))
  generalize nums s = l at *
  match l with
  | [] => rfl
  | [c] =>
    have : ¬ c = 61 := fun e => h0 [] (by rw [e]; rfl)
    unfold sgA; simp [this]
  | c :: d :: u =>
    have g0 : ¬ c = 61 := fun e => h0 (d :: u) (by rw [e]; rfl)
    unfold sgA
    dsimp only
    rw [if_neg g0]
    by_cases hd : d = 61
    · subst hd
      rw [if_pos rfl, if_neg (fun e => h1 u (by rw [e]; rfl)), if_neg (fun e => h2 u (by rw [e]; rfl)), if_neg (fun e => h3 u (by rw [e]; rfl)), if_neg (fun e => h4 u (by rw [e]; rfl))]
    · rw [if_neg hd]
/-- What cutSign answers. -/
def CsPost (o : Option (List Int × Int × List Int)) (e : Ending) : Prop :=
  match o with
  | none => ∃ t, e = .returned (.tuple #[.string ⟨#[]⟩, .int .i64 0, .string t, .bool false])
  | some x => ∃ hd tl, e = .returned (.tuple #[.string hd, .int .i64 x.2.1, .string tl, .bool true]) ∧ nums hd = x.1 ∧ nums tl = x.2.2
theorem cutS_on {l : List Int} {i : Nat} (h : i < l.length) (hs : sgA (l.drop i) = none) (hc : cutS l = (cutS (l.drop i)).map fun x => (l.take i ++ x.1, x.2)) : cutS l = (cutS (l.drop (i + 1))).map fun x => (l.take (i + 1) ++ x.1, x.2) := by
  rw [hc, drop_consI l i h, cutS]
  rw [drop_consI l i h] at hs
  rw [hs]
  dsimp only
  rw [Option.map_map]
  congr 1
  funext x
  simp only [Function.comp]
  rw [List.take_succ_eq_append_getElem h]
  simp only [List.getD, List.getElem?_eq_getElem h, Option.getD_some, List.append_assoc, List.singleton_append]
theorem cutS_at {l : List Int} {i : Nat} {k : Int} {r : List Int} (h : i < l.length) (hs : sgA (l.drop i) = some (k, r)) (hc : cutS l = (cutS (l.drop i)).map fun x => (l.take i ++ x.1, x.2)) : cutS l = some (l.take i, k, r) := by
  rw [hc, drop_consI l i h, cutS]
  rw [drop_consI l i h] at hs
  rw [hs]
  simp
theorem ret_si {a b : ByteArray} {k m : Int} {c : ByteArray} {x : Bool} (h1 : a = b) (h2 : k = m) : Ending.returned (.tuple #[.string a, .int .i64 k, .string c, .bool x]) = .returned (.tuple #[.string b, .int .i64 m, .string c, .bool x]) := by rw [h1, h2]
theorem idx24_0 (W : World) : (Instr.index 86 (.agg sgs24) (.int .i64 0)).run Tryz.prog W = .ok (.agg #[.string ⟨#[61]⟩, .int .i64 3]) W := by kernel_rfl
theorem idx24_1 (W : World) : (Instr.index 86 (.agg sgs24) (.int .i64 1)).run Tryz.prog W = .ok (.agg #[.string ⟨#[62, 61]⟩, .int .i64 5]) W := by kernel_rfl
theorem idx24_2 (W : World) : (Instr.index 86 (.agg sgs24) (.int .i64 2)).run Tryz.prog W = .ok (.agg #[.string ⟨#[60, 61]⟩, .int .i64 6]) W := by kernel_rfl
theorem idx24_3 (W : World) : (Instr.index 86 (.agg sgs24) (.int .i64 3)).run Tryz.prog W = .ok (.agg #[.string ⟨#[126, 61]⟩, .int .i64 8]) W := by kernel_rfl
theorem idx24_4 (W : World) : (Instr.index 86 (.agg sgs24) (.int .i64 4)).run Tryz.prog W = .ok (.agg #[.string ⟨#[58, 61]⟩, .int .i64 9]) W := by kernel_rfl
set_option maxHeartbeats 25600000 in
theorem cuts_land (s : ByteArray) (w : World) (hL : Ly w) (hs : s.size ≤ 100000) : Calls Tryz.prog 60 #[.string s] w fun e w' => CsPost (cutS (nums s)) e ∧ Below w.heap.size w w' := by
  obtain ⟨-, ⟨T, fr, hG⟩, -⟩ := hL
  have hnl := hide (nums_length s)
  have HG : Hid (∀ W : World, Gr w W → W.heap[0]? = some (.cells sgs24 T fr)) := fun W g => (g.below.block _ (Sgs.pos ⟨T, fr, hG⟩)).trans hG
  have HC0 : Hid (cutS (nums s) = (cutS ((nums s).drop 0)).map fun x => ((nums s).take 0 ++ x.1, x.2)) := by show _ = _; rw [List.drop_zero]; cases cutS (nums s) <;> simp
  clear hG
  go_enter Tryz.func60, Tryz.ntmps60
  go_wp2
  go_step3
  go_wp2
  go_step3
  go_wp2
  go_loopw [2, 3, 4, 5, 11] (fun v2 v3 v4 v5 v11 wr => ∃ (i : Nat) (t : ByteArray), v2 = .string ⟨#[]⟩ ∧ v3 = .int .i64 0 ∧ v4 = .string t ∧ v5 = .bool false ∧ v11 = .int .i64 (i : Int) ∧ i ≤ s.size ∧ Hid (cutS (nums s) = (cutS ((nums s).drop i)).map fun x => ((nums s).take i ++ x.1, x.2)) ∧ Gr w wr) (fun _ _ _ _ i _ => s.size - (intOf i).toNat)
  case atStart => exact ⟨0, ⟨#[]⟩, rfl, rfl, rfl, rfl, rfl, Nat.zero_le _, HC0, Gr.refl _⟩
  case round =>
    obtain ⟨i, t, rfl, rfl, rfl, rfl, rfl, his, HC, gw⟩ := hrel
    clear HC0
    by_cases hlt : i < s.size
    · have zi0 : (0 : Int) ≤ (i : Int) := by omega
      have zil : (i : Int) < (s.size : Int) := by omega
      have zis : (i : Int) ≤ (s.size : Int) := by omega
      have hgb := unhide HG wr gw
      obtain ⟨X, hX⟩ : ∃ X, X = s.extract i s.size := ⟨_, rfl⟩
      have HXN : Hid (nums X = (nums s).drop i) := by show _ = _; rw [hX, nums_drop]
      have HX := hide hX
      have CP := hide (fun p W => cpre_any (s.extract i s.size) p W)
      rw [← hX] at CP
      have HON : Hid ((∀ m, m < 5 → pfB X (sgT m) = false) → cutS (nums s) = (cutS ((nums s).drop (i + 1))).map fun x => ((nums s).take (i + 1) ++ x.1, x.2)) := fun h => cutS_on (by rw [unhide hnl]; exact hlt) (by rw [← unhide HXN]; exact sg_no X h) (unhide HC)
      have HAT : Hid (∀ j, j < 5 → pfB X (sgT j) = true → cutS (nums s) = some ((nums s).take i, sgK j, nums (pfT X (sgT j)))) := fun j hj h => cutS_at (by rw [unhide hnl]; exact hlt) (by rw [← unhide HXN]; exact sg_yes X j hj h) (unhide HC)
      have HHD : Hid (nums (s.extract 0 i) = (nums s).take i) := by show _ = _; rw [nums_sub]; simp
      clear HC HXN
      go_wp2_with (refine wpList_load_row rfl 86 _ rfl 0 rfl T sgs24 fr _ hgb Tryz.underlying86 rfl (by kernel_rfl) ?_)
      go_loopw [2, 3, 4, 5, 15] (fun v2 v3 v4 v5 v15 wi => ∃ (j : Nat) (t : ByteArray), v2 = .string ⟨#[]⟩ ∧ v3 = .int .i64 0 ∧ v4 = .string t ∧ v5 = .bool false ∧ v15 = .int .i64 (j : Int) ∧ j ≤ 5 ∧ Hid (∀ m, m < j → pfB X (sgT m) = false) ∧ Gr w wi) (fun _ _ _ _ j _ => 5 - (intOf j).toNat)
      case atStart => exact ⟨0, _, rfl, rfl, rfl, rfl, rfl, by decide, (fun m h => absurd h (by omega)), gw⟩
      case round =>
        obtain ⟨j, t, rfl, rfl, rfl, rfl, rfl, hj, HB, gi⟩ := hrel
        by_cases hj5 : j < 5
        · rcases (by omega : j = 0 ∨ j = 1 ∨ j = 2 ∨ j = 3 ∨ j = 4) with rfl | rfl | rfl | rfl | rfl
          · have CPJ := hide (fun W => unhide CP ⟨#[61]⟩ W)
            have HAJ := hide (unhide HAT 0 (by decide))
            have HNJ : Hid (pfB X (sgT 0) = false → ∀ m, m < 0 + 1 → pfB X (sgT m) = false) := fun h m hm => by
              rcases Nat.lt_succ_iff_lt_or_eq.1 hm with h1 | h1
              · exact unhide HB m h1
              · rw [h1]; exact h
            have e1 : sgT 0 = ⟨#[61]⟩ := rfl
            have e2 : sgK 0 = 3 := rfl
            rw [e1, e2] at HAJ
            rw [e1] at HNJ
            have e3 : (Lib.hasPrefix X.data.toList (⟨#[61]⟩ : ByteArray).data.toList) = pfB X ⟨#[61]⟩ := rfl
            have e4 : (⟨(Lib.trimPrefix X.data.toList (⟨#[61]⟩ : ByteArray).data.toList).toArray⟩ : ByteArray) = pfT X ⟨#[61]⟩ := rfl
            rw [e3, e4] at CPJ
            clear e1 e2 e3 e4 HAT HON CP HB
            have ii := idx24_0 wr
            have hbx := heap_new wr (.cells #[.string ⟨#[61]⟩, .int .i64 3] 85)
            generalize pfT X ⟨#[61]⟩ = tl at *
            cases hb : pfB X ⟨#[61]⟩
            · rw [hb, unhide HX] at CPJ
              have HN := hide (unhide HNJ hb)
              clear hb HAJ HNJ
              go_wp2
              go_quiet (first | (go_at_call 73; exact (unhide CPJ _).mono fun e w' h => ⟨h.1, _, h.2.symm⟩))
              go_wp2
              go_roundw
              case rel => exact ⟨0 + 1, _, rfl, rfl, rfl, rfl, by go_num, by decide, unhide HN, (gi.alloc _).drewN _⟩
              case measure => simp [intOf]
            · rw [hb, unhide HX] at CPJ
              have HE := hide (unhide HAJ hb)
              clear hb HAJ HNJ
              go_wp2
              go_quiet (first | (go_at_call 73; exact (unhide CPJ _).mono fun e w' h => ⟨h.1, _, h.2.symm⟩))
              go_wp2
              go_quiet (fail)
              go_wp2
              (try simp only [Exit.noGoto])
              refine bodyPost_ret (results_tmp4 rfl _ _ _) rfl ?_
              exact ⟨by rw [unhide HE]; exact ⟨_, _, rfl, unhide HHD, rfl⟩, ((gi.alloc _).drewN _).drewN _ |>.below⟩
          · have CPJ := hide (fun W => unhide CP ⟨#[62, 61]⟩ W)
            have HAJ := hide (unhide HAT 1 (by decide))
            have HNJ : Hid (pfB X (sgT 1) = false → ∀ m, m < 1 + 1 → pfB X (sgT m) = false) := fun h m hm => by
              rcases Nat.lt_succ_iff_lt_or_eq.1 hm with h1 | h1
              · exact unhide HB m h1
              · rw [h1]; exact h
            have e1 : sgT 1 = ⟨#[62, 61]⟩ := rfl
            have e2 : sgK 1 = 5 := rfl
            rw [e1, e2] at HAJ
            rw [e1] at HNJ
            have e3 : (Lib.hasPrefix X.data.toList (⟨#[62, 61]⟩ : ByteArray).data.toList) = pfB X ⟨#[62, 61]⟩ := rfl
            have e4 : (⟨(Lib.trimPrefix X.data.toList (⟨#[62, 61]⟩ : ByteArray).data.toList).toArray⟩ : ByteArray) = pfT X ⟨#[62, 61]⟩ := rfl
            rw [e3, e4] at CPJ
            clear e1 e2 e3 e4 HAT HON CP HB
            have ii := idx24_1 wr
            have hbx := heap_new wr (.cells #[.string ⟨#[62, 61]⟩, .int .i64 5] 85)
            generalize pfT X ⟨#[62, 61]⟩ = tl at *
            cases hb : pfB X ⟨#[62, 61]⟩
            · rw [hb, unhide HX] at CPJ
              have HN := hide (unhide HNJ hb)
              clear hb HAJ HNJ
              go_wp2
              go_quiet (first | (go_at_call 73; exact (unhide CPJ _).mono fun e w' h => ⟨h.1, _, h.2.symm⟩))
              go_wp2
              go_roundw
              case rel => exact ⟨1 + 1, _, rfl, rfl, rfl, rfl, by go_num, by decide, unhide HN, (gi.alloc _).drewN _⟩
              case measure => simp [intOf]
            · rw [hb, unhide HX] at CPJ
              have HE := hide (unhide HAJ hb)
              clear hb HAJ HNJ
              go_wp2
              go_quiet (first | (go_at_call 73; exact (unhide CPJ _).mono fun e w' h => ⟨h.1, _, h.2.symm⟩))
              go_wp2
              go_quiet (fail)
              go_wp2
              (try simp only [Exit.noGoto])
              refine bodyPost_ret (results_tmp4 rfl _ _ _) rfl ?_
              exact ⟨by rw [unhide HE]; exact ⟨_, _, rfl, unhide HHD, rfl⟩, ((gi.alloc _).drewN _).drewN _ |>.below⟩
          · have CPJ := hide (fun W => unhide CP ⟨#[60, 61]⟩ W)
            have HAJ := hide (unhide HAT 2 (by decide))
            have HNJ : Hid (pfB X (sgT 2) = false → ∀ m, m < 2 + 1 → pfB X (sgT m) = false) := fun h m hm => by
              rcases Nat.lt_succ_iff_lt_or_eq.1 hm with h1 | h1
              · exact unhide HB m h1
              · rw [h1]; exact h
            have e1 : sgT 2 = ⟨#[60, 61]⟩ := rfl
            have e2 : sgK 2 = 6 := rfl
            rw [e1, e2] at HAJ
            rw [e1] at HNJ
            have e3 : (Lib.hasPrefix X.data.toList (⟨#[60, 61]⟩ : ByteArray).data.toList) = pfB X ⟨#[60, 61]⟩ := rfl
            have e4 : (⟨(Lib.trimPrefix X.data.toList (⟨#[60, 61]⟩ : ByteArray).data.toList).toArray⟩ : ByteArray) = pfT X ⟨#[60, 61]⟩ := rfl
            rw [e3, e4] at CPJ
            clear e1 e2 e3 e4 HAT HON CP HB
            have ii := idx24_2 wr
            have hbx := heap_new wr (.cells #[.string ⟨#[60, 61]⟩, .int .i64 6] 85)
            generalize pfT X ⟨#[60, 61]⟩ = tl at *
            cases hb : pfB X ⟨#[60, 61]⟩
            · rw [hb, unhide HX] at CPJ
              have HN := hide (unhide HNJ hb)
              clear hb HAJ HNJ
              go_wp2
              go_quiet (first | (go_at_call 73; exact (unhide CPJ _).mono fun e w' h => ⟨h.1, _, h.2.symm⟩))
              go_wp2
              go_roundw
              case rel => exact ⟨2 + 1, _, rfl, rfl, rfl, rfl, by go_num, by decide, unhide HN, (gi.alloc _).drewN _⟩
              case measure => simp [intOf]
            · rw [hb, unhide HX] at CPJ
              have HE := hide (unhide HAJ hb)
              clear hb HAJ HNJ
              go_wp2
              go_quiet (first | (go_at_call 73; exact (unhide CPJ _).mono fun e w' h => ⟨h.1, _, h.2.symm⟩))
              go_wp2
              go_quiet (fail)
              go_wp2
              (try simp only [Exit.noGoto])
              refine bodyPost_ret (results_tmp4 rfl _ _ _) rfl ?_
              exact ⟨by rw [unhide HE]; exact ⟨_, _, rfl, unhide HHD, rfl⟩, ((gi.alloc _).drewN _).drewN _ |>.below⟩
          · have CPJ := hide (fun W => unhide CP ⟨#[126, 61]⟩ W)
            have HAJ := hide (unhide HAT 3 (by decide))
            have HNJ : Hid (pfB X (sgT 3) = false → ∀ m, m < 3 + 1 → pfB X (sgT m) = false) := fun h m hm => by
              rcases Nat.lt_succ_iff_lt_or_eq.1 hm with h1 | h1
              · exact unhide HB m h1
              · rw [h1]; exact h
            have e1 : sgT 3 = ⟨#[126, 61]⟩ := rfl
            have e2 : sgK 3 = 8 := rfl
            rw [e1, e2] at HAJ
            rw [e1] at HNJ
            have e3 : (Lib.hasPrefix X.data.toList (⟨#[126, 61]⟩ : ByteArray).data.toList) = pfB X ⟨#[126, 61]⟩ := rfl
            have e4 : (⟨(Lib.trimPrefix X.data.toList (⟨#[126, 61]⟩ : ByteArray).data.toList).toArray⟩ : ByteArray) = pfT X ⟨#[126, 61]⟩ := rfl
            rw [e3, e4] at CPJ
            clear e1 e2 e3 e4 HAT HON CP HB
            have ii := idx24_3 wr
            have hbx := heap_new wr (.cells #[.string ⟨#[126, 61]⟩, .int .i64 8] 85)
            generalize pfT X ⟨#[126, 61]⟩ = tl at *
            cases hb : pfB X ⟨#[126, 61]⟩
            · rw [hb, unhide HX] at CPJ
              have HN := hide (unhide HNJ hb)
              clear hb HAJ HNJ
              go_wp2
              go_quiet (first | (go_at_call 73; exact (unhide CPJ _).mono fun e w' h => ⟨h.1, _, h.2.symm⟩))
              go_wp2
              go_roundw
              case rel => exact ⟨3 + 1, _, rfl, rfl, rfl, rfl, by go_num, by decide, unhide HN, (gi.alloc _).drewN _⟩
              case measure => simp [intOf]
            · rw [hb, unhide HX] at CPJ
              have HE := hide (unhide HAJ hb)
              clear hb HAJ HNJ
              go_wp2
              go_quiet (first | (go_at_call 73; exact (unhide CPJ _).mono fun e w' h => ⟨h.1, _, h.2.symm⟩))
              go_wp2
              go_quiet (fail)
              go_wp2
              (try simp only [Exit.noGoto])
              refine bodyPost_ret (results_tmp4 rfl _ _ _) rfl ?_
              exact ⟨by rw [unhide HE]; exact ⟨_, _, rfl, unhide HHD, rfl⟩, ((gi.alloc _).drewN _).drewN _ |>.below⟩
          · have CPJ := hide (fun W => unhide CP ⟨#[58, 61]⟩ W)
            have HAJ := hide (unhide HAT 4 (by decide))
            have HNJ : Hid (pfB X (sgT 4) = false → ∀ m, m < 4 + 1 → pfB X (sgT m) = false) := fun h m hm => by
              rcases Nat.lt_succ_iff_lt_or_eq.1 hm with h1 | h1
              · exact unhide HB m h1
              · rw [h1]; exact h
            have e1 : sgT 4 = ⟨#[58, 61]⟩ := rfl
            have e2 : sgK 4 = 9 := rfl
            rw [e1, e2] at HAJ
            rw [e1] at HNJ
            have e3 : (Lib.hasPrefix X.data.toList (⟨#[58, 61]⟩ : ByteArray).data.toList) = pfB X ⟨#[58, 61]⟩ := rfl
            have e4 : (⟨(Lib.trimPrefix X.data.toList (⟨#[58, 61]⟩ : ByteArray).data.toList).toArray⟩ : ByteArray) = pfT X ⟨#[58, 61]⟩ := rfl
            rw [e3, e4] at CPJ
            clear e1 e2 e3 e4 HAT HON CP HB
            have ii := idx24_4 wr
            have hbx := heap_new wr (.cells #[.string ⟨#[58, 61]⟩, .int .i64 9] 85)
            generalize pfT X ⟨#[58, 61]⟩ = tl at *
            cases hb : pfB X ⟨#[58, 61]⟩
            · rw [hb, unhide HX] at CPJ
              have HN := hide (unhide HNJ hb)
              clear hb HAJ HNJ
              go_wp2
              go_quiet (first | (go_at_call 73; exact (unhide CPJ _).mono fun e w' h => ⟨h.1, _, h.2.symm⟩))
              go_wp2
              go_roundw
              case rel => exact ⟨4 + 1, _, rfl, rfl, rfl, rfl, by go_num, by decide, unhide HN, (gi.alloc _).drewN _⟩
              case measure => simp [intOf]
            · rw [hb, unhide HX] at CPJ
              have HE := hide (unhide HAJ hb)
              clear hb HAJ HNJ
              go_wp2
              go_quiet (first | (go_at_call 73; exact (unhide CPJ _).mono fun e w' h => ⟨h.1, _, h.2.symm⟩))
              go_wp2
              go_quiet (fail)
              go_wp2
              (try simp only [Exit.noGoto])
              refine bodyPost_ret (results_tmp4 rfl _ _ _) rfl ?_
              exact ⟨by rw [unhide HE]; exact ⟨_, _, rfl, unhide HHD, rfl⟩, ((gi.alloc _).drewN _).drewN _ |>.below⟩
        · have zj : j = 5 := by omega
          subst zj
          have HN := hide (unhide HON (unhide HB))
          clear HON HAT HB CP
          go_wp2
          go_roundw
          case rel => exact ⟨i + 1, _, rfl, rfl, rfl, rfl, by go_num, by omega, unhide HN, gi⟩
          case measure => simp [intOf]; omega
    · have zil : ¬ (i : Int) < (s.size : Int) := by omega
      have HE : Hid (cutS (nums s) = none) := by
        show _ = _
        rw [unhide HC, List.drop_eq_nil_of_le (by rw [unhide hnl]; omega)]
        rfl
      clear HC
      go_wp2
      (try simp only [Exit.noGoto, Exit.inBlock, Exit.then])
      refine bodyPost_ret (results_tmp4 rfl _ _ _) rfl ?_
      exact ⟨by rw [unhide HE]; exact ⟨_, rfl⟩, gw.below⟩
end Go.Proofs.YthbldkkjjjmegaaGreatDoor
