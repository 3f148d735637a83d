/- The landed readValue of layer 24. (By gen_rvv.py.) -/
import Derived.Test.YthbldkkjjjmegaaGreatDoorM30
import Derived.Test.YthbldkkjjjmegaaGreatDoorM10
import Derived.Test.YthbldkkjjjmegaaGreatDoorM12
import Derived.Deep.RegionHeld3
namespace Go.Proofs.YthbldkkjjjmegaaGreatDoor
set_option maxRecDepth 100000
open Go.RowKit

theorem jumps24 {P : Program} {a : Act} {w : World} {Q : Exit → Act → World → Prop} {c rest : Code} (l : Nat) (J : Act → World → Prop) (μ : Act → World → Nat) (hf : findLabel c l = some (Code.skip.seq rest))
    (pass : ∀ a w, J a w → rest.wp P (Exit.jump l (fun a' w' => J a' w' ∧ μ a' w' < μ a w) Q) a w)
    (first : (∀ a w, J a w → rest.wp P (Exit.jump l J Q) a w) → c.wp P (Exit.jump l J Q) a w) : (Code.scope c).wp P Q a w := by
  refine wp_scope_jumps l J μ hf (first fun a w h => wp_mono (pass a w h) ?_) fun a w h => wp_seq (wp_skip (pass a w h))
  intro e a' w' h
  cases e with
  | goto l' => exact ⟨h.1, h.2.1⟩
  | normal => exact h
  | exit id => exact h
  | ret => exact h
  | panic ch => exact h
  | outgrown => exact h
/-- How much is still to be gone through at the label. -/
def mu24 (n : Nat) (a : Act) (_ : World) : Nat := n - (intOf (a.tmps.getD 6 undef)).toNat
/-- The frame at the label. -/
def Fr24 (s : ByteArray) (v : Value) (t : Nat) (q : Act) : Prop := ∃ u : Nat → Value, q = { tmps := #[.string s, u 1, u 2, u 3, u 4, v, .int .i64 (t : Int), u 7, u 8, u 9, u 10, u 11, u 12, u 13, u 14, u 15, u 16, u 17, u 18, u 19, u 20, u 21, u 22, u 23, u 24, u 25, u 26, u 27, u 28, u 29, u 30, u 31, u 32, u 33, u 34, u 35, u 36, u 37, u 38, u 39, u 40, u 41, u 42, u 43, u 44, u 45], defers := [] }
theorem arr_fn24 (t : Array Value) (n : Nat) (h : t.size = n) : t = ((List.range n).map fun k => t.getD k undef).toArray := by
  subst h
  apply Array.ext
  · simp
  · intro i h1 h2
    simp [h1]
theorem Fr24.of {s : ByteArray} {v : Value} {t : Nat} {q : Act} (h : q.tmps.size = 46) (hd : q.defers = []) (h0 : q.tmps.getD 0 undef = .string s) (h5 : q.tmps.getD 5 undef = v) (h6 : q.tmps.getD 6 undef = .int .i64 (t : Int)) : Fr24 s v t q := by
  obtain ⟨tm, df⟩ := q
  simp only at h hd h0 h5 h6
  subst hd
  refine ⟨fun k => tm.getD k undef, ?_⟩
  rw [← h0, ← h5, ← h6]
  exact congrArg (fun x => ({ tmps := x, defers := [] } : Act)) (arr_fn24 tm 46 h)
theorem Ob.nil24 (B : Nat) (w : World) : Ob B (.slice none 0 0) [] w := ⟨rfl, .inl ⟨rfl, rfl⟩⟩
theorem ret_ssb24 {a b c d : ByteArray} {x y : Bool} (h1 : a = b) (h2 : c = d) (h3 : x = y) : Ending.returned (.tuple #[.string a, .string c, .bool x]) = .returned (.tuple #[.string b, .string d, .bool y]) := by rw [h1, h2, h3]
/-- What the landed readValue answers. -/
def rvA (s : ByteArray) : ByteArray := match valV (nums s) with
  | none => ⟨#[]⟩
  | some x => strOfNums x.1
def rvR (s : ByteArray) : ByteArray := match valV (nums s) with
  | none => ⟨#[]⟩
  | some x => strOfNums x.2
def rvB (s : ByteArray) : Bool := (valV (nums s)).isSome
theorem rv_none24 {s : ByteArray} (h : valV (nums s) = none) : (⟨#[]⟩ : ByteArray) = rvA s ∧ (⟨#[]⟩ : ByteArray) = rvR s ∧ false = rvB s := by unfold rvA rvR rvB; rw [h]; exact ⟨rfl, rfl, rfl⟩
theorem rv_some24 {s : ByteArray} {a : List Int} {t : Nat} (h : valV (nums s) = some (a, (nums s).drop t)) : strOfNums a = rvA s ∧ s.extract t s.size = rvR s ∧ true = rvB s := by
  unfold rvA rvR rvB; rw [h]; exact ⟨rfl, by rw [← nums_drop]; exact (strOfNums_nums _).symm, rfl⟩
theorem getD_drop0 (l : List Int) (t : Nat) : (l.drop t).getD 0 0 = l.getD t 0 := by simp [List.getD]
theorem val_hd (l : List Int) (t : Nat) (h : t < l.length) (hc : l.getD t 0 = 41 ∨ l.getD t 0 = 42) : valV (l.drop t) = some ([], l.drop t) := by
  rw [drop_consI l t h]
  exact valV_end _ hc
set_option maxHeartbeats 12800000 in
theorem rvalue24_land (s : ByteArray) (w : World) (hL : Ly w) (hs : s.size ≤ 100000) :
    Calls Tryz.prog 74 #[.string s] w fun e w' => e = .returned (.tuple #[.string (rvA s), .string (rvR s), .bool (rvB s)]) ∧ Below w.heap.size w w' := by
  obtain ⟨i0, hi, hz0, hz1, hz2⟩ := info_parts u8_info
  have hnl := hide (nums_length s)
  go_enter Tryz.func74, Tryz.ntmps74
  go_wp2
  refine jumps24 0 (fun q wr => ∃ (v : Value) (t : Nat) (out : List Int), Fr24 s v t q ∧ t ≤ s.size ∧ out.length ≤ t ∧ Hid (valV (nums s) = (valV ((nums s).drop t)).map fun x => (out ++ x.1, x.2)) ∧ Hid (Ob w.heap.size v out wr) ∧ Below w.heap.size w wr) (mu24 s.size) rfl ?_ ?_
  · rintro q wl ⟨v, t, out, ⟨u, rfl⟩, ht, hol, HA, HO, hb⟩
    have hsz := hb.size
    have hz0' : (0 : Int) ≤ (t : Int) := by omega
    have hzt : (t : Int) ≤ (s.size : Int) := by omega
    have cv := (unhide HO).conv
    have cvN : ∀ n, (convert 44 9 v).run Tryz.prog (wl.drewN n) = .ok (.string (strOfNums out)) (wl.drewN n) := fun n => ((unhide HO).below (below_drewN (Below.refl _ _) n)).conv
    by_cases hlt : t < s.size
    · have zlt : (t : Int) < (s.size : Int) := by omega
      obtain ⟨c, hc⟩ : ∃ c : Int, (s[t].toNat : Int) = c := ⟨_, rfl⟩
      have hat : (nums s).getD t 0 = c := by rw [nums_at s t hlt]; exact hc
      by_cases h41 : c = 41
      · have HE := hide (rv_some24 (s := s) (a := out) (t := t) (by rw [unhide HA, val_hd (nums s) t (by rw [unhide hnl]; exact hlt) (by rw [hat]; omega)]; simp))
        subst h41
        clear HA hat hnl
        go_wp2
        go_quiet (fail)
        go_wp2
        simp only [Exit.jump]
        go_ret3
        exact ⟨ret_ssb24 (unhide HE).1 (unhide HE).2.1 (unhide HE).2.2, below_drewN hb _⟩
      have g41 : (c == 41) = false := by rw [beq_eq_false_iff_ne]; exact h41
      by_cases h42 : c = 42
      · have HE := hide (rv_some24 (s := s) (a := out) (t := t) (by rw [unhide HA, val_hd (nums s) t (by rw [unhide hnl]; exact hlt) (by rw [hat]; omega)]; simp))
        subst h42
        clear HA hat hnl
        go_wp2
        go_quiet (fail)
        go_wp2
        simp only [Exit.jump]
        go_ret3
        exact ⟨ret_ssb24 (unhide HE).1 (unhide HE).2.1 (unhide HE).2.2, below_drewN hb _⟩
      have g42 : (c == 42) = false := by rw [beq_eq_false_iff_ne]; exact h42
      have HST := hide (val_step ((nums s).drop t) (by rw [getD_drop0, hat]; omega) (by rw [drop_consI (nums s) t (by rw [unhide hnl]; exact hlt)]; simp))
      have hin := rdV_in ((nums s).drop t) (fun x hx => nums_bound s x (List.mem_of_mem_drop hx))
      have CR := hide (rbyte24_any (s.extract t s.size) wl (hL.keep hb))
      rw [nums_drop s t] at CR
      have hdl : ((nums s).drop t).length = s.size - t := by rw [List.length_drop, unhide hnl]
      rw [List.drop_drop] at HST
      generalize rdV ((nums s).drop t) = BZ at *
      obtain ⟨B, Z⟩ := BZ
      dsimp only at HST CR hin
      obtain ⟨hB0, hB1⟩ := hin
      clear cv cvN hat h41 h42
      rcases unhide HST with ⟨hz, hv⟩ | ⟨hz, hzl, hv⟩
      · have HE := hide (rv_none24 (s := s) (by rw [unhide HA, hv]; rfl))
        subst hz
        clear HST hv HA hdl hnl
        go_wp2_with (go_at_call 80; refine (unhide CR).mono ?_; rintro e w2 ⟨rfl, b2⟩; have O2 := hide ((unhide HO).below b2); have hb2 := hb.trans (b2.mono hsz); have hs2 := hb2.size)
        simp only [Exit.jump]
        go_ret3
        exact ⟨ret_ssb24 (unhide HE).1 (unhide HE).2.1 (unhide HE).2.2, hb2⟩
      · have hz' : (Z == 0) = false := by rw [beq_eq_false_iff_ne]; omega
        rw [hdl] at hzl
        obtain ⟨T, hT⟩ : ∃ T : Nat, (t : Int) + Z = (T : Int) := ⟨((t : Int) + Z).toNat, by omega⟩
        have wT : IntKind.i64.wrap ((t : Int) + Z) = (T : Int) := by rw [hT]; exact wrap_in (by omega) (by omega)
        have hTt : t + Z.toNat = T := by omega
        rw [hTt] at hv
        have HS : Hid (valV (nums s) = (valV ((nums s).drop T)).map fun x => ((out ++ [B]) ++ x.1, x.2)) := by
          show _ = _
          rw [unhide HA, hv, Option.map_map]
          congr 1
          funext x
          simp [Function.comp]
        obtain ⟨N, hN⟩ : ∃ N, N = out.length := ⟨_, rfl⟩
        have HN := hide hN
        rw [← hN] at hol
        have hm1 : N + 1 ≤ maxLen := by unfold maxLen; omega
        have hm2 : (N + 1) * 1 ≤ 140737488355328 := by omega
        have hTs : T ≤ s.size := by omega
        have hTg : t < T := by omega
        clear HST hv HA hdl hnl hN hzl hz hT hTt
        go_wp2_with (first
          | (at_builtin; refine wpList_append_lies _ rfl _ _ 44 rfl w.heap.size 5 i0 _ 1 1 Tryz.underlying44 hi hz0 hz1 hz2 rfl (by omega) _ N _ rfl (World.ownsRow.alloc (Ob.own (unhide HN) (unhide O2)) _) ⟨w2.heap.size, 0, none⟩ 1 1 [.int .u8 B] rfl rfl (World.news_of_block (cs := #[.int .u8 B]) (t := 5) (fr := (0, 0)) (heap_new w2 _)) (by simp [Value.oneCell']) (by omega) hm1 hm2 (by simp; omega) (w2.heap.size + 1) (by simp) ?_; intro g9 cap9 w9 hown9 hgrow9 hat9 hlt9)
          | (go_at_call 80; refine (unhide CR).mono ?_; rintro e w2 ⟨rfl, b2⟩; have O2 := hide ((unhide HO).below b2); have hb2 := hb.trans (b2.mono hsz); have hs2 := hb2.size))
        go_step3
        refine ⟨rfl, ⟨_, T, out ++ [B], Fr24.of rfl rfl rfl rfl rfl, hTs, by rw [List.length_append, ← unhide HN]; simp; omega, HS, Ob.push (unhide HN) (Z := [B]) rfl hown9, hb2.trans (below_own (grown_new hgrow9) hs2 (own_block (Ob.own (unhide HN) (unhide O2))))⟩, ?_⟩
        simp [mu24, intOf]
        omega
    · have zlt : ¬ (t : Int) < (s.size : Int) := by omega
      obtain rfl : t = s.size := by omega
      have HE := hide (rv_none24 (s := s) (by rw [unhide HA, List.drop_eq_nil_of_le (by rw [unhide hnl]; omega), valV_nil]; rfl))
      have CR := hide (rbyte24_any ByteArray.empty wl (hL.keep hb))
      rw [show rdV (nums ByteArray.empty) = (0, 0) from rfl] at CR
      clear HA hnl cv cvN
      go_wp2_with (go_at_call 80; refine (unhide CR).mono ?_; rintro e w2 ⟨rfl, b2⟩; have O2 := hide ((unhide HO).below b2); have hb2 := hb.trans (b2.mono hsz); have hs2 := hb2.size)
      simp only [Exit.jump]
      go_ret3
      exact ⟨ret_ssb24 (unhide HE).1 (unhide HE).2.1 (unhide HE).2.2, hb2⟩
  · intro hfirst
    have HF := hide hfirst
    clear hfirst
    go_wp2
    go_step3
    rename_i HK
    refine HK _ _ ?_
    exact unhide HF _ _ ⟨_, 0, [], Fr24.of rfl rfl rfl rfl rfl, Nat.zero_le _, Nat.le_refl _, (by show _ = _; rw [List.drop_zero]; cases valV (nums s) <;> rfl), Ob.nil24 _ _, Below.refl _ _⟩
end Go.Proofs.YthbldkkjjjmegaaGreatDoor
/- The landed readValues of layer 24. (By gen_rvs.py.) -/
namespace Go.Proofs.YthbldkkjjjmegaaGreatDoor
set_option maxRecDepth 100000
open Go.RowKit

def szOf : Value → Nat
  | .string s => s.size
  | _ => 0
/-- What readValues answers. -/
def RvsPost (o : Option (List (List Int) × List Int)) (B : Nat) (e : Ending) (w' : World) : Prop :=
  match o with
  | none => e = .returned (.tuple #[.slice none 0 0, .string ⟨#[]⟩, .bool false])
  | some x => ∃ v ps, e = .returned (.tuple #[v, .string (strOfNums x.2), .bool true]) ∧ Tx B v ps w' ∧ ps.map nums = x.1
theorem ret_vsb24 {v v2 : Value} {a b : ByteArray} {x y : Bool} (h1 : v = v2) (h2 : a = b) (h3 : x = y) : Ending.returned (.tuple #[v, .string a, .bool x]) = .returned (.tuple #[v2, .string b, .bool y]) := by rw [h1, h2, h3]
theorem Tx.nil24 (B : Nat) (w : World) : Tx B (.slice none 0 0) [] w := ⟨rfl, .inl ⟨rfl, rfl⟩⟩

theorem plainV_byt : ∀ (l v : List Int), byt l → plainV l = some v → byt v
  | [], v, _, h => by rw [plain_nil] at h; cases h; intro x hx; cases hx
  | c :: t, v, hb, h => by
    by_cases h0 : c = 0 ∨ (40 ≤ c ∧ c ≤ 42)
    · rw [plain_no t h0] at h; cases h
    · by_cases h2 : c = 92
      · subst h2
        match t, h, hb with
        | [], h, _ => rw [plain_h0] at h; cases h
        | [d], h, _ => rw [plain_h1] at h; cases h
        | d :: e :: u, h, hb =>
          rw [plain_hex] at h
          by_cases hu : unh d < 16 ∧ unh e < 16
          · rw [if_pos hu] at h
            cases hp : plainV u with
            | none => rw [hp] at h; cases h
            | some z =>
              rw [hp] at h
              cases h
              have ih := plainV_byt u z (fun x hx => hb x (by simp [hx])) hp
              have := unh_nn d
              have := unh_nn e
              intro x hx
              rcases List.mem_cons.1 hx with rfl | hx
              · omega
              · exact ih x hx
          · rw [if_neg hu] at h; cases h
      · rw [plain_bare t h0 h2] at h
        cases hp : plainV t with
        | none => rw [hp] at h; cases h
        | some z =>
          rw [hp] at h
          cases h
          have ih := plainV_byt t z (fun x hx => hb x (by simp [hx])) hp
          intro x hx
          rcases List.mem_cons.1 hx with rfl | hx
          · exact hb _ (by simp)
          · exact ih x hx
/-- What readValue answers where a value stands. -/
theorem rv_is {s : ByteArray} {v r : List Int} (h : valV (nums s) = some (v, r)) : rvA s = strOfNums v ∧ nums (strOfNums v) = v ∧ rvB s = true ∧ nums (rvR s) = r ∧ rvR s = strOfNums r ∧ ∃ c r', r = c :: r' ∧ (c = 41 ∨ c = 42) ∧ r.length ≤ (nums s).length := by
  obtain ⟨x, c, r', h1, h2, h3, h4⟩ := val_some _ _ _ h
  have hb := byt_nums s
  have hx : byt x := fun y hy => hb y (by rw [h1]; simp [hy])
  have hr : byt r := fun y hy => hb y (by rw [h1, ← h2]; simp [hy])
  refine ⟨by unfold rvA; rw [h], nums_strOfNums v (plainV_byt x v hx h4), by unfold rvB; rw [h]; rfl, by unfold rvR; rw [h]; exact nums_strOfNums r hr, by unfold rvR; rw [h], c, r', h2, h3, ?_⟩
  rw [h1, h2]
  simp
set_option maxHeartbeats 6400000 in
theorem rvalues24_land (s : ByteArray) (n : Nat) (w : World) (hL : Ly w) (hs : s.size ≤ 100000) (hn : s.size < n) :
    Calls Tryz.prog 61 #[.string s] w fun e w' => RvsPost (valsV n (nums s)) w.heap.size e w' ∧ Below w.heap.size w w' := by
  obtain ⟨i0, hi, hz0, hz1, hz2⟩ := info_parts str_info
  have HLL := hide hL
  have HST : Hid (valsV n (nums s) = (valsV n (nums s)).map fun x => (([] : List (List Int)) ++ x.1, x.2)) := by show _ = _; cases valsV n (nums s) <;> rfl
  clear hL
  go_enter Tryz.func61, Tryz.ntmps61
  go_wp2
  go_loopw [0, 5] (fun vs vo wr => ∃ (cur : ByteArray) (ps : List ByteArray) (m : Nat), vs = .string cur ∧ cur.size ≤ s.size ∧ ps.length + cur.size ≤ s.size ∧ cur.size < m ∧ Hid (valsV n (nums s) = (valsV m (nums cur)).map fun x => (ps.map nums ++ x.1, x.2)) ∧ Hid (Tx w.heap.size vo ps wr) ∧ Below w.heap.size w wr) (fun vs _ _ => szOf vs)
  case atStart => exact ⟨s, [], n, rfl, Nat.le_refl _, by simp, hn, HST, Tx.nil24 _ _, Below.refl _ _⟩
  case round =>
    obtain ⟨cur, ps, m, rfl, hcs, hps, hm, HG, HT, hb⟩ := hrel
    have hsz := hb.size
    clear HST
    obtain ⟨k, rfl⟩ : ∃ k, m = k + 1 := ⟨m - 1, by omega⟩
    have CR := hide (rvalue24_land cur wr ((unhide HLL).keep hb) (by omega))
    cases hv : valV (nums cur) with
    | none =>
      have HE : Hid (valsV n (nums s) = none) := by show _ = _; rw [unhide HG, valsV, hv]; rfl
      obtain ⟨e1, e2, e3⟩ := rv_none24 hv
      rw [← e1, ← e2, ← e3] at CR
      clear e1 e2 e3 hv HG
      go_wp2_with (go_at_call 74; refine (unhide CR).mono ?_; rintro e w2 ⟨rfl, b2⟩)
      go_ret3
      exact ⟨by rw [unhide HE]; exact rfl, hb.trans (b2.mono hsz)⟩
    | some x =>
      obtain ⟨v, r⟩ := x
      obtain ⟨e1, en, e2, e3, e4, c, r', e5, hc, e6⟩ := rv_is hv
      obtain ⟨R, hR⟩ : ∃ R, R = rvR cur := ⟨_, rfl⟩
      obtain ⟨A, hA⟩ : ∃ A, A = rvA cur := ⟨_, rfl⟩
      rw [e2, ← hR, ← hA] at CR
      rw [← hR] at e3 e4
      have hAn : nums A = v := by rw [hA, e1, en]
      have hlen : R.size ≤ cur.size := by rw [← nums_length R, e3, ← nums_length cur]; exact e6
      have hR1 : 0 < R.size := by rw [← nums_length R, e3, e5]; simp
      have hR0 : (R[0].toNat : Int) = c := by rw [← nums_at R 0 hR1, e3, e5]; rfl
      have zr : (1 : Int) ≤ (R.size : Int) := by omega
      have zr0 : (0 : Int) < (R.size : Int) := by omega
      have HRD : Hid (nums (R.extract 1 R.size) = r') := by show _ = _; rw [nums_drop, e3, e5]; rfl
      have HRS : Hid (strOfNums r' = R.extract 1 R.size) := by show _ = _; rw [← unhide HRD, strOfNums_nums]
      have hRs : (R.extract 1 R.size).size = R.size - 1 := by rw [ByteArray.size_extract]; omega
      obtain ⟨N, hN⟩ : ∃ N, N = ps.length := ⟨_, rfl⟩
      have HN := hide hN
      rw [← hN] at hps
      have hm1 : N + 1 ≤ maxLen := by unfold maxLen; omega
      have hm2 : (N + 1) * 16 ≤ 140737488355328 := by omega
      have HV : Hid (valsV n (nums s) = (if c = 41 then some ([v], r') else (valsV k r').map fun x => (v :: x.1, x.2)).map fun x => (ps.map nums ++ x.1, x.2)) := by
        show _ = _
        rw [unhide HG, valsV, hv, e5]
        rfl
      have HRSZ := hide hRs
      have HAN := hide hAn
      clear HG hv e1 en e2 e3 e4 e5 e6 hR hA hN hRs hAn
      by_cases h41 : c = 41
      · subst h41
        have HV2 : Hid (valsV n (nums s) = some ((ps ++ [A]).map nums, r')) := by
          show _ = _
          rw [unhide HV, if_pos rfl, ← unhide HAN]; simp
        clear HV
        go_wp2_with (go_at_call 74; refine (unhide CR).mono ?_; rintro e w2 ⟨rfl, b2⟩)
        have T2 := hide ((unhide HT).below b2)
        have hb2 := hb.trans (b2.mono hsz)
        have hs2 := hb2.size
        go_region_held3 (fun _ => True) (trivial)
          (first | (refine step_append_lies _ (by rfl) _ _ 22 (by rfl) w.heap.size 9 i0 _ 1 16 Tryz.underlying22 hi hz0 hz1 hz2 rfl (by omega) _ N _ (by rfl) (((Tx.own (unhide HN) (unhide T2)).alloc _).drew) ⟨w2.heap.size, 0, none⟩ 1 1 [.string A] (by rfl) (by rfl) (World.news_of_block (cs := #[.string A]) (t := 9) (fr := (0, 0)) (heap_new w2 _)) (by simp [Value.oneCell']) (by omega) hm1 hm2 (by simp; omega) (w2.heap.size + 1) (by simp) ?_; intro g9 cap9 w9 hown9 hgrow9 hat9 hlt9))
        all_goals
          go_wp2
          go_ret3
          exact ⟨by rw [unhide HV2]; exact ⟨_, _, ret_vsb24 rfl (unhide HRS).symm rfl, Tx.push (unhide HN) hown9, rfl⟩, hb2.trans (below_own (grown_drew24 hgrow9) hs2 (own_block (Tx.own (unhide HN) (unhide T2))))⟩
      · have HV2 : Hid (valsV n (nums s) = (valsV k (nums (R.extract 1 R.size))).map fun x => ((ps ++ [A]).map nums ++ x.1, x.2)) := by
          show _ = _
          rw [unhide HV, if_neg h41, unhide HRD, ← unhide HAN]
          cases valsV k r' <;> simp
        have g41 : (c == 41) = false := by rw [beq_eq_false_iff_ne]; exact h41
        clear HV h41 hc
        go_wp2_with (go_at_call 74; refine (unhide CR).mono ?_; rintro e w2 ⟨rfl, b2⟩)
        have T2 := hide ((unhide HT).below b2)
        have hb2 := hb.trans (b2.mono hsz)
        have hs2 := hb2.size
        go_region_held3 (fun _ => True) (trivial)
          (first | (refine step_append_lies _ (by rfl) _ _ 22 (by rfl) w.heap.size 9 i0 _ 1 16 Tryz.underlying22 hi hz0 hz1 hz2 rfl (by omega) _ N _ (by rfl) (((Tx.own (unhide HN) (unhide T2)).alloc _).drew) ⟨w2.heap.size, 0, none⟩ 1 1 [.string A] (by rfl) (by rfl) (World.news_of_block (cs := #[.string A]) (t := 9) (fr := (0, 0)) (heap_new w2 _)) (by simp [Value.oneCell']) (by omega) hm1 hm2 (by simp; omega) (w2.heap.size + 1) (by simp) ?_; intro g9 cap9 w9 hown9 hgrow9 hat9 hlt9))
        all_goals
          go_wp2
          go_roundw
          case rel => exact ⟨R.extract 1 R.size, ps ++ [A], k, rfl, by rw [unhide HRSZ]; omega, by rw [List.length_append, ← unhide HN, unhide HRSZ]; simp; omega, by rw [unhide HRSZ]; omega, unhide HV2, Tx.push (unhide HN) hown9, hb2.trans (below_own (grown_drew24 hgrow9) hs2 (own_block (Tx.own (unhide HN) (unhide T2))))⟩
          case measure => simp only [szOf]; rw [unhide HRSZ]; omega
end Go.Proofs.YthbldkkjjjmegaaGreatDoor
