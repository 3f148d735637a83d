/- strings.Cut at a =, the landed small of layer 18. -/
import Derived.Test.YtefobkgifigclaaGreatDoorM31
import Derived.Laws.Rows
namespace Go.Proofs.YtefobkgifigclaaGreatDoor.S18
set_option maxRecDepth 100000
open Go.RowKit

def i8 (b : UInt8) : Int := (b.toNat : Int)
theorem nums_map (s : ByteArray) : nums s = s.data.toList.map i8 := rfl
theorem i8_eq (b : UInt8) : (i8 b = 61) ↔ b = 61 := by
  unfold i8
  constructor
  · intro h
    have : b.toNat = (61 : UInt8).toNat := by simpa using Int.ofNat.inj h
    exact UInt8.toNat_inj.1 this
  · intro h; rw [h]; rfl
/-- Where the first = stands. -/
theorem ixE (u : List UInt8) : (Lib.indexByte u 61 = -1 ∧ cutE (u.map i8) = (u.map i8, [])) ∨ ∃ k : Nat, Lib.indexByte u 61 = (k : Int) ∧ k < u.length ∧ cutE (u.map i8) = ((u.map i8).take k, (u.map i8).drop (k + 1)) := by
  induction u with
  | nil => exact .inl ⟨rfl, rfl⟩
  | cons b l ih =>
    by_cases hb : b = 61
    · subst hb
      exact .inr ⟨0, rfl, by simp, by rfl⟩
    · have h1 : (b == 61) = false := by rw [beq_eq_false_iff_ne]; exact hb
      have h2 : ¬ i8 b = 61 := fun h => hb ((i8_eq b).1 h)
      rcases ih with ⟨h3, h4⟩ | ⟨k, h3, h4, h5⟩
      · refine .inl ⟨?_, ?_⟩
        · simp [Lib.indexByte, h1, h3]
        · simp [cutE, h2, h4]
      · refine .inr ⟨k + 1, ?_, by simp; omega, ?_⟩
        · simp [Lib.indexByte, h1, h3]
        · simp [cutE, h2, h5]
theorem cut_ix (s : ByteArray) : (Lib.indexByte s.data.toList 61 = -1 ∧ cutE (nums s) = (nums s, [])) ∨ ∃ k : Nat, Lib.indexByte s.data.toList 61 = (k : Int) ∧ k < s.size ∧ cutE (nums s) = (nums (s.extract 0 k), nums (s.extract (k + 1) s.size)) := by
  rcases ixE s.data.toList with h | ⟨k, h1, h2, h3⟩
  · exact .inl h
  · refine .inr ⟨k, h1, by simpa using h2, ?_⟩
    rw [nums_drop, nums_sub, List.drop_zero, Nat.sub_zero]
    exact h3
set_option maxHeartbeats 1600000 in
theorem scut_any (s : ByteArray) (w : World) (hs : s.size ≤ 100000) : Calls Tryz.prog 183 #[.string s, .string ⟨#[61]⟩] w fun e w' => ∃ a b f, e = .returned (.tuple #[.string a, .string b, .bool f]) ∧ cutE (nums s) = (nums a, nums b) ∧ a.size ≤ s.size ∧ b.size ≤ s.size ∧ Gr w w' := by
  have HI := hide (ixe_any s w)
  rcases cut_ix s with ⟨h1, h2⟩ | ⟨k, h1, h2, h3⟩
  · rw [h1] at HI
    have HE := hide h2
    clear h1 h2
    go_enter Tryz.func183, Tryz.ntmps183
    go_wp2_with (go_at_call 213; refine (unhide HI).mono ?_; rintro e w3 ⟨rfl, rfl⟩)
    go_ret3
    exact ⟨_, _, _, rfl, unhide HE, Nat.le_refl _, Nat.zero_le _, Gr.refl _⟩
  · rw [h1] at HI
    have HE := hide h3
    have z0 : (0 : Int) ≤ (k : Int) := by omega
    have z1 : (k : Int) ≤ (s.size : Int) := by omega
    have z2 : (0 : Int) ≤ (k : Int) + 1 := by omega
    have z3 : (k : Int) + 1 ≤ (s.size : Int) := by omega
    have wk : IntKind.i64.wrap ((k : Int) + 1) = (k : Int) + 1 := wrap_in (by omega) (by omega)
    have s1 : (s.extract 0 k).size ≤ s.size := by rw [ByteArray.size_extract]; omega
    have s2 : (s.extract (k + 1) s.size).size ≤ s.size := by rw [ByteArray.size_extract]; omega
    clear h1 h3
    go_enter Tryz.func183, Tryz.ntmps183
    go_wp2_with (go_at_call 213; refine (unhide HI).mono ?_; rintro e w3 ⟨rfl, rfl⟩)
    go_quiet (fail)
    go_wp2
    go_ret3
    exact ⟨_, _, _, rfl, unhide HE, s1, s2, (Gr.refl _).drewN _⟩
set_option maxHeartbeats 1600000 in
theorem cut_any (s : ByteArray) (w : World) (hs : s.size ≤ 100000) : Calls Tryz.prog 152 #[.string s, .string ⟨#[61]⟩] w fun e w' => ∃ a b f, e = .returned (.tuple #[.string a, .string b, .bool f]) ∧ cutE (nums s) = (nums a, nums b) ∧ a.size ≤ s.size ∧ b.size ≤ s.size ∧ Gr w w' := by
  have HI := hide (scut_any s w hs)
  clear hs
  go_enter Tryz.func152, Tryz.ntmps152
  go_wp2_with (go_at_call 183; refine (unhide HI).mono ?_; rintro e w3 ⟨a, b, f, rfl, h1, h2, h3, g3⟩; have H1 := hide h1; have H2 := hide h2; have H3 := hide h3; clear h1 h2 h3)
  go_ret3
  exact ⟨_, _, _, rfl, unhide H1, unhide H2, unhide H3, g3⟩
end Go.Proofs.YtefobkgifigclaaGreatDoor.S18
/- The landed small of layer 18. -/
namespace Go.Proofs.YtefobkgifigclaaGreatDoor.S18
set_option maxRecDepth 100000
open Go.RowKit

/-- Bytes in a block that may be written. -/
def Sb (g : Nat) (X : List Int) (w : World) : Prop := ∀ j, j < X.length → w.cell? ⟨g, j, none⟩ = some (.int .u8 (X.getD j 0)) ∧ w.frozen? ⟨g, j, none⟩ = false
theorem bytes_sb (t : ByteArray) (w : World) : ∃ (w1 : World) (cap1 : Nat), (convert 9 84 (.string t)).run Tryz.prog w = .ok (.slice (some ⟨w.heap.size, 0, none⟩) t.size cap1) w1 ∧ Sb w.heap.size (nums t) w1 ∧ Below w.heap.size w w1 := by
  refine ⟨_, _, run_bytes_of_string w 9 84 5 t Tryz.underlying9 Tryz.underlying84 Tryz.underlying5, ?_, ((Below.refl _ _).drew).alloc (Nat.le_refl _) _⟩
  intro j hj
  rw [nums_length] at hj
  refine ⟨?_, ?_⟩
  · have := World.cell?_alloc_mark w.drew (bytesRow t (grownCap w t.size 0 5)) 5 ((bytesRow t (grownCap w t.size 0 5)).size, (bytesRow t (grownCap w t.size 0 5)).size + 1) j
    refine this.trans ?_
    rw [bytesRow_at t _ j (by simpa using hj), nums_at t j hj]
    rfl
  · have hz : t.size ≤ (bytesRow t (grownCap w t.size 0 5)).size := by
      have := bytesRow_at t (grownCap w t.size 0 5) (t.size - 1) (by simp; omega)
      have := (Array.getElem?_eq_some_iff.1 this).1
      omega
    have hh := heap_new w.drew (.cells (bytesRow t (grownCap w t.size 0 5)) 5 ((bytesRow t (grownCap w t.size 0 5)).size, (bytesRow t (grownCap w t.size 0 5)).size + 1))
    have hw : w.drew.heap.size = w.heap.size := rfl
    rw [hw] at hh
    generalize bytesRow t (grownCap w t.size 0 5) = R at *
    unfold World.frozen?
    simp only [hh]
    rw [decide_eq_false (by omega)]
    rfl
theorem Sb.put {g : Nat} {X : List Int} {w : World} {k : Nat} (h : Sb g X w) (hk : k < X.length) (y : Int) : Sb g (X.set k y) (w.setCell ⟨g, k, none⟩ (.int .u8 y)) := by
  intro j hj
  rw [List.length_set] at hj
  obtain ⟨c, f⟩ := h j hj
  refine ⟨?_, by rw [World.frozen?_setCell]; exact f⟩
  by_cases e : j = k
  · subst e
    rw [World.cell?_setCell_same _ _ _ c]
    simp [List.getD, hj]
  · rw [World.cell?_setCell_other _ _ _ _ (by intro h; injection h with _ h2; exact e h2.symm), c]
    simp [List.getD, List.getElem?_set_ne (fun h => e h.symm)]
theorem Sb.conv {g cap : Nat} {X : List Int} {w : World} (h : Sb g X w) : (convert 84 9 (.slice (some ⟨g, 0, none⟩) X.length cap)).run Tryz.prog w = .ok (.string (strOfNums X)) w := by
  refine run_convert_bytes_arg w 84 5 Tryz.underlying84 Tryz.underlying5 g 0 X.length cap X rfl ?_ 9 Tryz.underlying9
  intro i hi
  rw [Nat.zero_add]
  exact (h i hi).1
theorem sml_step (l : List Int) (k : Nat) (h : k < l.length) : ((l.take k).map smlC ++ l.drop k).getD k 0 = l.getD k 0 ∧ ((l.take k).map smlC ++ l.drop k).set k (smlC (l.getD k 0)) = (l.take (k + 1)).map smlC ++ l.drop (k + 1) := by
  have e : ((l.take k).map smlC).length = k := by simp; omega
  refine ⟨?_, ?_⟩
  · rw [List.getD, List.getElem?_append_right (by omega), e, Nat.sub_self]
    simp [List.getD]
  · rw [List.set_append_right _ _ (by omega), e, Nat.sub_self, drop_consI l k h, List.set_cons_zero, List.take_succ_eq_append_getElem h, List.map_append, List.append_assoc]
    simp only [List.getD, List.getElem?_eq_getElem h, Option.getD_some, List.map_cons, List.map_nil, List.singleton_append]
theorem sml_len (l : List Int) (k : Nat) (h : k ≤ l.length) : ((l.take k).map smlC ++ l.drop k).length = l.length := by simp; omega
set_option maxHeartbeats 3200000 in
theorem small_any (s : ByteArray) (w : World) (hs : s.size ≤ 100000) : Calls Tryz.prog 154 #[.string s] w fun e w' => e = .returned (.string (strOfNums ((nums s).map smlC))) ∧ Below w.heap.size w w' := by
  obtain ⟨w1, cap1, hcv, hsb, hb⟩ := bytes_sb s w
  have HSB := hide hsb
  have hnl := nums_length s
  clear hsb
  go_enter Tryz.func154, Tryz.ntmps154
  go_wp2
  go_loopw [9] (fun i wr => ∃ k : Nat, k ≤ s.size ∧ i = .int .i64 (k : Int) ∧ Hid (Sb w.heap.size (((nums s).take k).map smlC ++ (nums s).drop k) wr) ∧ Below w.heap.size w wr) (fun i _ => s.size - (intOf i).toNat)
  case atStart => exact ⟨0, Nat.zero_le _, rfl, by simpa using HSB, hb⟩
  case round =>
    obtain ⟨k, hk, rfl, HX, hbr⟩ := hrel
    by_cases hlt : k < s.size
    · have hzl : (k : Int) < (s.size : Int) := by omega
      have hz0 : (0 : Int) ≤ (k : Int) := by omega
      obtain ⟨st1, st2⟩ := sml_step (nums s) k (by omega)
      obtain ⟨q1, f1⟩ := unhide HX k (by rw [sml_len _ _ (by omega)]; omega)
      rw [st1] at q1
      have cb := getD_nums s k
      have HP : Hid (Sb w.heap.size (((nums s).take (k + 1)).map smlC ++ (nums s).drop (k + 1)) (wr.setCell ⟨w.heap.size, k, none⟩ (.int .u8 (smlC ((nums s).getD k 0))))) := by
        have := (unhide HX).put (k := k) (by rw [sml_len _ _ (by omega)]; omega) (smlC ((nums s).getD k 0))
        rw [st2] at this
        exact this
      have HQ : Hid (smlC ((nums s).getD k 0) = (nums s).getD k 0 → Sb w.heap.size (((nums s).take (k + 1)).map smlC ++ (nums s).drop (k + 1)) wr) := fun h => by
        have := unhide HX
        have e : ((nums s).take k).map smlC ++ (nums s).drop k = ((nums s).take (k + 1)).map smlC ++ (nums s).drop (k + 1) := by
          rw [← st2, h, ← st1, List.getD, List.getElem?_eq_getElem (by rw [sml_len _ _ (by omega)]; omega)]
          simp
        rw [e] at this
        exact this
      clear st1 st2 HX
      generalize (nums s).getD k 0 = c at *
      by_cases c1 : 65 ≤ c
      · by_cases c2 : c ≤ 90
        · have e : smlC c = c + 32 := by unfold smlC; rw [if_pos ⟨c1, c2⟩]
          rw [e] at HP
          have wc : IntKind.u8.wrap (c + 32) = c + 32 := u8w (by omega) (by omega)
          clear HQ e
          go_wp2
          go_roundw
          case rel => exact ⟨k + 1, by omega, by go_num, unhide HP, hbr.setCell (Nat.le_refl _) _⟩
          case measure => simp [intOf]; omega
        · have e : smlC c = c := by unfold smlC; rw [if_neg (by omega)]
          have HE := hide (unhide HQ e)
          clear HQ HP e
          go_wp2
          go_roundw
          case rel => exact ⟨k + 1, by omega, by go_num, unhide HE, hbr⟩
          case measure => simp [intOf]; omega
      · have e : smlC c = c := by unfold smlC; rw [if_neg (by omega)]
        have HE := hide (unhide HQ e)
        clear HQ HP e
        go_wp2
        go_roundw
        case rel => exact ⟨k + 1, by omega, by go_num, unhide HE, hbr⟩
        case measure => simp [intOf]; omega
    · have hzl : ¬ (k : Int) < (s.size : Int) := by omega
      have h2 := unhide HX
      rw [List.take_of_length_le (by omega), List.drop_eq_nil_of_le (by omega), List.append_nil] at h2
      have cv := h2.conv (cap := cap1)
      rw [List.length_map, hnl] at cv
      clear h2
      go_wp2
      go_ret
      exact ⟨rfl, hbr⟩
end Go.Proofs.YtefobkgifigclaaGreatDoor.S18
/- The landed readPair of layer 18. -/
namespace Go.Proofs.YtefobkgifigclaaGreatDoor.S18
set_option maxRecDepth 100000
open Go.RowKit

/-- A box of a pair. -/
def Bp (b : Nat) (x y : ByteArray) (w : World) : Prop := w.heap[b]? = some (.cells #[.string x, .string y] 53)
theorem Bp.keep {b : Nat} {x y : ByteArray} {w w2 : World} (h : Bp b x y w) (hb : Below w.heap.size w w2) : Bp b x y w2 := (hb.block _ (blk_lt h)).trans h
theorem Bp.free {b : Nat} {x y : ByteArray} {w : World} (h : Bp b x y w) (o : Nat) : w.frozen? ⟨b, o, none⟩ = false := by
  unfold World.frozen?
  rw [show w.heap[(⟨b, o, none⟩ : Addr).block]? = w.heap[b]? from rfl, h]
  simp
theorem Bp.put {b : Nat} {x y : ByteArray} {w : World} (h : Bp b x y w) (x' y' : ByteArray) : Bp b x' y' ((w.setCell ⟨b, 0, none⟩ (.string x')).setCell ⟨b, 1, none⟩ (.string y')) := by
  unfold Bp at *
  have h1 := heap_setCell_same w b 0 _ _ (.string x') h
  have h2 := heap_setCell_same _ b 1 _ _ (.string y') h1
  rw [h2]
  rfl
theorem res_cell3 {fn : Func} {p q r : Tmp} (h : fn.results = #[.cell p 53, .tmp q, .tmp r]) (tmps : Array Value) (w : World) (g : Nat) (x y : ByteArray) (hp : tmps.getD p undef = .pointer (some ⟨g, 0, none⟩)) (hg : Bp g x y w) :
    (results fn tmps).run Tryz.prog w = .ok (.tuple #[.agg #[.string x, .string y], tmps.getD q undef, tmps.getD r undef]) w := by
  have hp' : tmps[p]?.getD undef = .pointer (some ⟨g, 0, none⟩) := by simpa using hp
  have hl := run_loadVar_row (P := Tryz.prog) w g 53 53 #[.string x, .string y] (0, 0) _ hg Tryz.underlying53 rfl (by kernel_rfl)
  simp [results, h, hp', asAddr, hl]
theorem res_cell2 {fn : Func} {p q : Tmp} (h : fn.results = #[.cell p 53, .tmp q]) (tmps : Array Value) (w : World) (g : Nat) (x y : ByteArray) (hp : tmps.getD p undef = .pointer (some ⟨g, 0, none⟩)) (hg : Bp g x y w) :
    (results fn tmps).run Tryz.prog w = .ok (.tuple #[.agg #[.string x, .string y], tmps.getD q undef]) w := by
  have hp' : tmps[p]?.getD undef = .pointer (some ⟨g, 0, none⟩) := by simpa using hp
  have hl := run_loadVar_row (P := Tryz.prog) w g 53 53 #[.string x, .string y] (0, 0) _ hg Tryz.underlying53 rfl (by kernel_rfl)
  simp [results, h, hp', asAddr, hl]
/-- What readPair tells, against what is read. -/
def rpOk (l : List Int) (x y r : ByteArray) (ok : Bool) : Prop := match pairL l with
  | none => ok = false
  | some (p, X) => ok = true ∧ x = p.nam ∧ y = p.val ∧ nums r = X
theorem rp_of {l u t : List Int} {a y r : ByteArray} {ok : Bool} (hc : cutE l = (u, t)) (h : rvOk t y r ok) (ha : a = strOfNums (u.map smlC)) : rpOk l a y r ok := by
  unfold rpOk pairL
  unfold rvOk at h
  rw [hc]
  simp only
  cases hv : valL true false t with
  | none => rw [hv] at h; simpa using h
  | some v =>
    rw [hv] at h
    simp only [Option.map_some] at h ⊢
    exact ⟨h.1, ha, h.2.1, h.2.2⟩
set_option maxHeartbeats 3200000 in
theorem rpair_any (s : ByteArray) (w : World) (hL : Ly w) (hs : s.size ≤ 100000) :
    Calls Tryz.prog 118 #[.string s] w fun e w' => ∃ x y r ok, e = .returned (.tuple #[.agg #[.string x, .string y], .string r, .bool ok]) ∧ rpOk (nums s) x y r ok ∧ Below w.heap.size w w' := by
  have HL := hide hL
  clear hL
  have CC := hide (fun W => cut_any s W hs)
  have CV := hide (fun t W hL (h : t.size ≤ s.size) => rvalue_any t W hL (by omega))
  have CS := hide (fun t W (h : t.size ≤ s.size) => small_any t W (by omega))
  have B0 : Hid (Bp w.heap.size ⟨#[]⟩ ⟨#[]⟩ (w.alloc (.cells #[.string ⟨#[]⟩, .string ⟨#[]⟩] 53))) := heap_new w _
  have b0 := Below.one w (.cells #[.string ⟨#[]⟩, .string ⟨#[]⟩] 53)
  go_enter Tryz.func118, Tryz.ntmps118
  go_wp2_with (first
    | (go_at_call 154; refine (unhide CS _ _ (unhide H2)).mono ?_; rintro e w5 ⟨rfl, b5⟩; have B5 := hide ((unhide B4).keep b5); have c50 := blk_cell (unhide B5) 0; have c51 := blk_cell (unhide B5) 1; have f50 := (unhide B5).free 0; have f51 := (unhide B5).free 1; have BL := hide (b034.trans (b5.mono b034.size)))
    | (go_at_call 153; refine (unhide CV _ _ ((unhide HL).keep b03) (unhide H3)).mono ?_; rintro e w4 ⟨y, r, ok, rfl, h4, b4⟩; have H4 := hide h4; clear h4; have B4 := hide ((unhide B3).keep b4); have b034 := b03.trans (b4.mono b03.size))
    | (go_at_call 152; refine (unhide CC _).mono ?_; rintro e w3 ⟨a, b, f, rfl, h1, h2, h3, g3⟩; have H1 := hide h1; have H2 := hide h2; have H3 := hide h3; clear h1 h2 h3; have B3 := hide ((unhide B0).keep g3.below); have b03 := b0.trans (g3.below.mono b0.size)))
  refine bodyPost_ret (res_cell3 rfl _ _ w.heap.size _ _ rfl ((unhide B5).put _ _)) rfl ?_
  exact ⟨_, _, _, _, rfl, rp_of (unhide H1) (unhide H4) rfl, ((unhide BL).setCell (Nat.le_refl _) _).setCell (Nat.le_refl _) _⟩
end Go.Proofs.YtefobkgifigclaaGreatDoor.S18
