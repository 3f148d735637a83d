/- Stage 16: the probe (awake), over the contracts. -/
import Derived.Test.YtcboggoindhmkaaDc16
import Derived.Test.YtcboggoindhmkaaDg16
namespace Go.Proofs.Ytcboggoindhmkaa
open Go.RowKit

theorem nums_of (a : ByteArray) (b : ByteArray) (h : nums a = nums b) : a = b := by rw [← strOfNums_nums a, h, strOfNums_nums]
def Ea : El := .mk 0 false 2 ⟨#[0, 128]⟩ []
def Eb : El := .mk 0 false 1 ⟨#[255]⟩ []
def Ec : El := .mk 0 true 16 ⟨#[]⟩ [Ea, Eb]
theorem int_a : intE 0 2 128 = Ea ∧ intX 0 2 128 = 0 := ⟨by kernel_rfl, by kernel_rfl⟩
theorem bool_b : mkE 0 false 1 (boolS true) [] = Eb ∧ mkX 0 1 = 0 := ⟨by kernel_rfl, by kernel_rfl⟩
theorem group_c : mkE 0 true 16 ⟨#[]⟩ [Ea, Eb] = Ec ∧ mkX 0 16 = 0 := ⟨by kernel_rfl, by kernel_rfl⟩
theorem as_1 : asIE (.mk 0 false 0 ⟨#[255, 127]⟩ []) = (-129, 0) := by kernel_rfl
theorem as_2 : asIE (.mk 0 false 0 ⟨#[0, 5]⟩ []) = (0, 160) := by kernel_rfl
theorem is_c : isE Ec 0 16 true = true := by kernel_rfl
theorem plain_V (w : World) (c n : Int) (t : ByteArray) (ad : Option Addr) (cap : Nat) : ElV w (.mk c false n t []) (.agg #[.int .i64 c, .bool false, .int .i64 n, .string t, .slice ad 0 cap]) := by
  simp only [ElV]
  exact ⟨ad, cap, rfl, Nat.zero_le _, .inl rfl⟩
theorem open_a {P : Nat → Prop} {w : World} {v : Value} (h : ElP P w Ea v) : ∃ ad cap, v = .agg #[.int .i64 0, .bool false, .int .i64 2, .string ⟨#[0, 128]⟩, .slice ad 0 cap] := ElP.shape h
theorem open_b {P : Nat → Prop} {w : World} {v : Value} (h : ElP P w Eb v) : ∃ ad cap, v = .agg #[.int .i64 0, .bool false, .int .i64 1, .string ⟨#[255]⟩, .slice ad 0 cap] := ElP.shape h
theorem open_c {P : Nat → Prop} {w : World} {v : Value} (h : ElP P w Ec v) : ∃ ad cap, v = .agg #[.int .i64 0, .bool true, .int .i64 16, .string ⟨#[]⟩, .slice ad 2 cap] := ElP.shape h
abbrev bxA (ad : Option Addr) (cap : Nat) : Obj := .cells #[.int .i64 0, .bool false, .int .i64 2, .string ⟨#[0, 128]⟩, .slice ad 0 cap] 26
abbrev bxB (ad : Option Addr) (cap : Nat) : Obj := .cells #[.int .i64 0, .bool false, .int .i64 1, .string ⟨#[255]⟩, .slice ad 0 cap] 26
abbrev bxC (ad : Option Addr) (cap : Nat) : Obj := .cells #[.int .i64 0, .bool true, .int .i64 16, .string ⟨#[]⟩, .slice ad 2 cap] 26
abbrev rowAB (a1 : Option Addr) (c1 : Nat) (a2 : Option Addr) (c2 : Nat) : Obj := .cells #[.int .i64 0, .bool false, .int .i64 2, .string ⟨#[0, 128]⟩, .slice a1 0 c1, .int .i64 0, .bool false, .int .i64 1, .string ⟨#[255]⟩, .slice a2 0 c2] 26
theorem rowAB_V (w : World) (a1 : Option Addr) (c1 : Nat) (a2 : Option Addr) (c2 : Nat) (g : Nat) (hg : g = w.heap.size) : ElsV (w.alloc (rowAB a1 c1 a2 c2)) (.slice (some ⟨g, 0, none⟩) 2 2) [Ea, Eb] := by
  subst hg
  refine ⟨_, 2, rfl, by simp, .inr ⟨w.heap.size, 0, rfl, ?_⟩⟩
  simp only [ElV.L]
  refine ⟨⟨.int .i64 0, .bool false, .int .i64 2, .string ⟨#[0, 128]⟩, .slice a1 0 c1, ?_, ?_, ?_, ?_, ?_, plain_V _ _ _ _ _ _⟩, ⟨.int .i64 0, .bool false, .int .i64 1, .string ⟨#[255]⟩, .slice a2 0 c2, ?_, ?_, ?_, ?_, ?_, plain_V _ _ _ _ _ _⟩, trivial⟩ <;> rw [World.cell?_alloc_mark] <;> rfl
theorem bel_one {w w1 : World} (h : Below w.heap.size w w1) (o : Obj) : Below w.heap.size w (w1.alloc o) := h.trans ((Below.one w1 o).mono h.size)
theorem few_ab : fewN.L [Ea, Eb] := by
  unfold Ea Eb
  simp [fewN.L, fewN]
theorem hgt_ab : hgt.L [Ea, Eb] ≤ 65536 := by
  unfold Ea Eb
  simp [hgt.L, hgt]
set_option maxHeartbeats 3200000 in
theorem awake16 (w : World) : Calls Try.prog 15 #[] w fun e w' => e = .returned (.bool true) ∧ Below w.heap.size w w' := by
  have H1 := hide (int_any 0 2 128 w)
  rw [int_a.1, int_a.2] at H1
  have H2 := hide (bool_any 0 1 true)
  rw [bool_b.1, bool_b.2] at H2
  have H3 := hide (fun v w2 hV => group_any 0 16 [Ea, Eb] v w2 (by simp) few_ab hgt_ab hV)
  rw [group_c.1, group_c.2] at H3
  have H4 := hide (fun w2 => asint_any (.mk 0 false 0 ⟨#[255, 127]⟩ []) _ w2 (plain_V w2 0 0 _ none 0))
  rw [as_1] at H4
  have H5 := hide (fun w2 => asint_any (.mk 0 false 0 ⟨#[0, 5]⟩ []) _ w2 (plain_V w2 0 0 _ none 0))
  rw [as_2] at H5
  have H6 := hide (fun v w2 hV => is_any Ec v 0 16 true w2 hV)
  rw [is_c] at H6
  simp only at H4 H5
  go_enter Try.func15, Try.ntmps15
  go_wp2_with (first
    | (go_at_call 19; refine (unhide H6 _ _ ((unhide E3).grow (unhide C5))).mono ?_; rintro r w6 ⟨rfl, g6⟩)
    | (go_at_call_of 20 (ByteArray.mk #[0, 5]); refine (unhide H5 _).mono ?_; rintro r w5 ⟨rfl, b5⟩; have T5 := hide (below_next (unhide T4) b5); have A5 := hide ((unhide A4).below b5); have B5 := hide ((unhide B4).below b5); have C5 := hide (below_next (unhide C4) b5); have D5 := hide ((unhide D4).below b5); have m3 := (unhide A5).c3; have n3 := (unhide B5).c3; have o0 := (unhide D5).c0; have o1 := (unhide D5).c1; have o2 := (unhide D5).c2; have o3 := (unhide D5).c3; have o4 := (unhide D5).c4; clear b5)
    | (go_at_call_of 20 (ByteArray.mk #[255, 127]); refine (unhide H4 _).mono ?_; rintro r w4 ⟨rfl, b4⟩; have T4 := hide (below_next (unhide T3) b4); have A4 := hide ((unhide A3).below b4); have B4 := hide ((unhide B3).below b4); have C4 := hide (below_next (Below.one w3 (bxC a3 c3)) b4); have D4 := hide ((Bx.new w3 (.int .i64 0) (.bool true) (.int .i64 16) (.string ⟨#[]⟩) (.slice a3 2 c3) 26).below b4); clear b4)
    | (go_at_call 17; refine (unhide H3 _ _ (rowAB_V (w2.alloc (bxB a2 c2)) a1 c1 a2 c2 _ (by simp))).mono ?_; rintro r w3 ⟨v3, rfl, p3, b3⟩; obtain ⟨a3, c3, rfl⟩ := open_c p3; have E3 := hide (ElP.toV _ _ p3); have b3' := bel_one b3 (bxC a3 c3); have T3 := hide (below_next (bel_one (unhide T2) (rowAB a1 c1 a2 c2)) b3'); have A3 := hide (((unhide A2).below (Below.one _ (rowAB a1 c1 a2 c2))).below b3'); have B3 := hide (((unhide B2).below (Below.one _ (rowAB a1 c1 a2 c2))).below b3'); clear b3 p3 b3')
    | (go_at_call 10; refine (unhide H2 _).mono ?_; rintro r w2 ⟨v2, rfl, p2, b2⟩; obtain ⟨a2, c2, rfl⟩ := open_b p2; have b2' := bel_one b2 (bxB a2 c2); have T2 := hide (below_next (unhide T1) b2'); have A2 := hide ((unhide A1).below b2'); have B2 := hide (Bx.new w2 (.int .i64 0) (.bool false) (.int .i64 1) (.string ⟨#[255]⟩) (.slice a2 0 c2) 26); have x0 := (unhide A2).c0; have x1 := (unhide A2).c1; have x2 := (unhide A2).c2; have x3 := (unhide A2).c3; have x4 := (unhide A2).c4; have y0 := (unhide B2).c0; have y1 := (unhide B2).c1; have y2 := (unhide B2).c2; have y3 := (unhide B2).c3; have y4 := (unhide B2).c4; clear b2 p2 b2')
    | (go_at_call 8; refine (unhide H1).mono ?_; rintro r w1 ⟨v1, rfl, p1, b1⟩; obtain ⟨a1, c1, rfl⟩ := open_a p1; have T1 := hide (bel_one b1 (bxA a1 c1)); have A1 := hide (Bx.new w1 (.int .i64 0) (.bool false) (.int .i64 2) (.string ⟨#[0, 128]⟩) (.slice a1 0 c1) 26); clear b1 p1))
  go_ret
  exact ⟨rfl, below_next (unhide T5) g6.below⟩
end Go.Proofs.Ytcboggoindhmkaa
