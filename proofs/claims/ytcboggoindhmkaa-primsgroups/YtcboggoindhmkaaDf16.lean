/- The program's makers of layer 16: maker, Int, Bool, Text, Group. -/
import Derived.Test.YtcboggoindhmkaaDe16
import Derived.Test.YtcboggoindhmkaaDd15
namespace Go.Proofs.Ytcboggoindhmkaa
open Go.RowKit

/-- May elements be of that class and number? -/
def mkOk (c n : Int) : Bool := decide (0 ≤ c ∧ c < 4 ∧ 0 ≤ n ∧ n < 31)
/-- What is made. -/
def mkE (c : Int) (m : Bool) (n : Int) (s : ByteArray) (l : List El) : El := if mkOk c n then .mk c m n s l else el0
def mkX (c n : Int) : Int := if mkOk c n then 0 else 2
theorem chk_bare (c : Int) (m : Bool) (n : Int) : chkB (.mk c m n ⟨#[]⟩ []) = mkX c n := by
  have hd : deepE (.mk c m n ⟨#[]⟩ []) 13 = 1 := by simp [deepE, deepE.L]
  have hf : fineE (.mk c m n ⟨#[]⟩ []) = mkOk c n := by
    unfold mkOk
    simp only [fineE, fineE.L]
    cases m
    · simp
    · simp only [show (⟨#[]⟩ : ByteArray).size = 0 from rfl]; simp
  have hz : sizeE (.mk c m n ⟨#[]⟩ []) = 2 := rfl
  unfold chkB mkX
  rw [hd, hf, hz, if_neg (by omega)]
  cases mkOk c n <;> simp
theorem EsP.kept {P Q : Nat → Prop} {w w2 : World} {v : Value} {l : List El} (h : EsP P w v l) (hq : ∀ g, P g → Q g) (hc : ∀ g off v, P g → w.cell? ⟨g, off, none⟩ = some v → w2.cell? ⟨g, off, none⟩ = some v) : EsP Q w2 v l := by
  obtain ⟨ad, cap, hv, hn, hx⟩ := h
  refine ⟨ad, cap, hv, hn, ?_⟩
  rcases hx with h0 | ⟨g, off, ha, hg, hl⟩
  · exact .inl h0
  · exact .inr ⟨g, off, ha, hq g hg, ElP.L.kept hq hc l g off hg hl⟩
theorem bare_V (w : World) (c : Int) (m : Bool) (n : Int) : ElV w (.mk c m n ⟨#[]⟩ []) (.agg #[.int .i64 c, .bool m, .int .i64 n, .string ⟨#[]⟩, .slice none 0 0]) := by
  simp only [ElV]
  exact ⟨none, 0, rfl, Nat.zero_le _, .inl rfl⟩
set_option maxHeartbeats 1600000 in
theorem mk_any (bc bn : Nat) (c n : Int) (m : Bool) (s : ByteArray) (v : Value) (l : List El) (w : World) (hc : w.cell? ⟨bc, 0, none⟩ = some (.int .i64 c)) (hn : w.cell? ⟨bn, 0, none⟩ = some (.int .i64 n))
    (hl : l.length ≤ 1000) (hf : fewN.L l) (hh : hgt.L l ≤ 65536) (hV : ElsV w v l) :
    Calls Try.prog 39 (#[.bool m, .string s, v] ++ #[.pointer (some ⟨bc, 0, none⟩), .pointer (some ⟨bn, 0, none⟩)]) w fun r w' => ∃ v', r = .returned (.tuple #[v', .int .i64 (mkX c n)]) ∧ ElP (In w.heap.size w') w' (mkE c m n s l) v' ∧ Below w.heap.size w w' := by
  have mx : Try.prog.follows .mixedOrders = true := by kernel_rfl
  have HFr := hide (fun w2 (b : Below w.heap.size w w2) => fresh_any l hl hf hh v w2 (hV.below b))
  have HCk := hide (fun w2 => pcheck_any (.mk c m n ⟨#[]⟩ []) _ w2 (bare_V w2 c m n))
  rw [chk_bare] at HCk
  obtain ⟨ad, cap, rfl, _⟩ := hV
  have hc1 := (Gr.one w Z5).cell hc
  have hn1 := (Gr.one w Z5).cell hn
  clear hl hf hh
  unfold mkX at HCk ⊢
  unfold mkE
  cases hok : mkOk c n
  · rw [hok] at HCk
    simp only [Bool.false_eq_true, if_false] at HCk ⊢
    have hz : ((w.alloc Z5).alloc (.cells #[.int .i64 c, .bool m, .int .i64 n, .string ⟨#[]⟩, .slice none 0 0] 26)).heap.size = w.heap.size + 1 + 1 := by simp
    have HZ1 := hide ((Bx.new w (.int .i64 0) (.bool false) (.int .i64 0) (.string ⟨#[]⟩) (.slice none 0 0) 26).below (Gr.one (w.alloc Z5) (.cells #[.int .i64 c, .bool m, .int .i64 n, .string ⟨#[]⟩, .slice none 0 0] 26)).below)
    have HB0 : Hid (Below w.heap.size w ((w.alloc Z5).alloc (.cells #[.int .i64 c, .bool m, .int .i64 n, .string ⟨#[]⟩, .slice none 0 0] 26))) := ((Gr.one w Z5).alloc _).below
    clear HFr hz
    go_enter Try.func39, Try.ntmps39
    go_wp2_with (go_at_call 35; refine (unhide HCk _).mono ?_; rintro r w1 ⟨rfl, g1⟩; have bx := (unhide HZ1).below g1.below; have q0 := bx.c0; have q1 := bx.c1; have q2 := bx.c2; have q3 := bx.c3; have q4 := bx.c4; have f0 := bx.f0; have f1 := bx.f1; have f2 := bx.f2; have f3 := bx.f3; have f4 := bx.f4; clear bx; have B1 := hide (below_next (unhide HB0) g1.below); clear g1)
    have bw := set5_below (.int .i64 0) (.bool false) (.int .i64 0) (.string ⟨#[]⟩) (.slice none 0 0) (Nat.le_refl w.heap.size) (unhide B1)
    generalize hW : (((((w1.setCell ⟨w.heap.size, 0, none⟩ (.int .i64 0)).setCell ⟨w.heap.size, 1, none⟩ (.bool false)).setCell ⟨w.heap.size, 2, none⟩ (.int .i64 0)).setCell ⟨w.heap.size, 3, none⟩ (.string ⟨#[]⟩)).setCell ⟨w.heap.size, 4, none⟩ (.slice none 0 0)) = W9 at *
    obtain ⟨r0, r1, r2, r3, r4, ro⟩ := set5 _ _ _ _ _ q0 q1 q2 q3 q4 hW
    clear hW
    refine bodyPost_ret (by simp [results, Try.results39, go_sem, r0, r1, r2, r3, r4]; try rfl) rfl ?_
    exact ⟨_, rfl, el0_P _ _, bw⟩
  · rw [hok] at HCk
    simp only [if_true] at HCk ⊢
    have HZ1 := hide ((Bx.new w (.int .i64 0) (.bool false) (.int .i64 0) (.string ⟨#[]⟩) (.slice none 0 0) 26).below (Gr.one (w.alloc Z5) (.cells #[.int .i64 c, .bool m, .int .i64 n, .string ⟨#[]⟩, .slice none 0 0] 26)).below)
    have HZ2 := hide (Bx.new (w.alloc Z5) (.int .i64 c) (.bool m) (.int .i64 n) (.string ⟨#[]⟩) (.slice none 0 0) 26)
    rw [show (w.alloc Z5).heap.size = w.heap.size + 1 by simp] at HZ2
    have HB0 : Hid (Below w.heap.size w ((w.alloc Z5).alloc (.cells #[.int .i64 c, .bool m, .int .i64 n, .string ⟨#[]⟩, .slice none 0 0] 26))) := ((Gr.one w Z5).alloc _).below
    have HZ0 : Hid (w.heap.size + 1 < ((w.alloc Z5).alloc (.cells #[.int .i64 c, .bool m, .int .i64 n, .string ⟨#[]⟩, .slice none 0 0] 26)).heap.size) := by show _ < _; simp
    go_enter Try.func39, Try.ntmps39
    go_wp2_with (first
      | (go_at_call 40; refine (unhide HFr _ (unhide B1)).mono ?_; rintro r w2 ⟨v2, rfl, p2, b2⟩; obtain ⟨ad2, cap2, rfl⟩ := p2.shape; have by2 := hide ((unhide BY).below b2); have d0 := (unhide by2).c0; have d1 := (unhide by2).c1; have d2 := (unhide by2).c2; have d3 := (unhide by2).c3; have d4 := (unhide by2).c4; have e3 := (unhide by2).f3; have e4 := (unhide by2).f4; have bx2 := hide ((unhide BX).below b2); have q0 := (unhide bx2).c0; have q1 := (unhide bx2).c1; have q2 := (unhide bx2).c2; have q3 := (unhide bx2).c3; have q4 := (unhide bx2).c4; have f0 := (unhide bx2).f0; have f1 := (unhide bx2).f1; have f2 := (unhide bx2).f2; have f3 := (unhide bx2).f3; have f4 := (unhide bx2).f4; have P2 := hide p2; have B2 := hide b2; clear p2 b2)
      | (go_at_call 35; refine (unhide HCk _).mono ?_; rintro r w1 ⟨rfl, g1⟩; have BX := hide ((unhide HZ1).below g1.below); have BY := hide ((unhide HZ2).below g1.below); have B1 := hide (below_next (unhide HB0) g1.below); have GS := hide (Nat.lt_of_lt_of_le (unhide HZ0) g1.size); clear g1))
    have b3 : Below w.heap.size w ((w2.setCell ⟨w.heap.size + 1, 3, none⟩ (.string s)).setCell ⟨w.heap.size + 1, 4, none⟩ (.slice ad2 l.length cap2)) := ((below_next (unhide B1) (unhide B2)).setCell (by simp) _).setCell (by simp) _
    have bw := set5_below (.int .i64 c) (.bool m) (.int .i64 n) (.string s) (.slice ad2 l.length cap2) (Nat.le_refl w.heap.size) b3
    have far : ∀ p : Addr, p.block ≠ w.heap.size + 1 → ((w2.setCell ⟨w.heap.size + 1, 3, none⟩ (.string s)).setCell ⟨w.heap.size + 1, 4, none⟩ (.slice ad2 l.length cap2)).cell? p = w2.cell? p := fun p hp => by
      rw [cell_far (fun e => hp (by rw [e])), cell_far (fun e => hp (by rw [e]))]
    have sz : ((w2.setCell ⟨w.heap.size + 1, 3, none⟩ (.string s)).setCell ⟨w.heap.size + 1, 4, none⟩ (.slice ad2 l.length cap2)).heap.size = w2.heap.size := by simp
    generalize (w2.setCell ⟨w.heap.size + 1, 3, none⟩ (.string s)).setCell ⟨w.heap.size + 1, 4, none⟩ (.slice ad2 l.length cap2) = w3 at *
    generalize hW : (((((w3.setCell ⟨w.heap.size, 0, none⟩ (.int .i64 c)).setCell ⟨w.heap.size, 1, none⟩ (.bool m)).setCell ⟨w.heap.size, 2, none⟩ (.int .i64 n)).setCell ⟨w.heap.size, 3, none⟩ (.string s)).setCell ⟨w.heap.size, 4, none⟩ (.slice ad2 l.length cap2)) = W9 at *
    have sz9 : W9.heap.size = w3.heap.size := by rw [← hW]; simp
    obtain ⟨r0, r1, r2, r3, r4, ro⟩ := set5 _ _ _ _ _ ((far _ (by simp)).trans q0) ((far _ (by simp)).trans q1) ((far _ (by simp)).trans q2) ((far _ (by simp)).trans q3) ((far _ (by simp)).trans q4) hW
    clear hW
    refine bodyPost_ret (by simp [results, Try.results39, go_sem, r0, r1, r2, r3, r4]; try rfl) rfl ?_
    refine ⟨_, rfl, ElP.of (e := .mk c m n s l) ((unhide P2).kept (fun g hg => ?_) fun g off v hg hcv => ?_), bw⟩
    · have := unhide GS
      have h1 := hg.1
      have h2 := hg.2
      exact ⟨by omega, by omega⟩
    · have := unhide GS
      have h1 := hg.1
      rw [ro _ (by show g ≠ w.heap.size; omega), far _ (by show g ≠ w.heap.size + 1; omega)]
      exact hcv
/-- The function that maker tells. -/
abbrev mkF (bc bn : Nat) : Value := .func (.func 39) #[] #[.pointer (some ⟨bc, 0, none⟩), .pointer (some ⟨bn, 0, none⟩)]
abbrev mkW (c n : Int) (w : World) : World := (w.alloc (.cells #[.int .i64 c] 3)).alloc (.cells #[.int .i64 n] 3)
theorem mkW_cells (c n : Int) (w : World) : (mkW c n w).cell? ⟨w.heap.size, 0, none⟩ = some (.int .i64 c) ∧ (mkW c n w).cell? ⟨w.heap.size + 1, 0, none⟩ = some (.int .i64 n) := by
  refine ⟨(Gr.one _ _).cell (box1 w _ _), ?_⟩
  have := box1 (w.alloc (.cells #[.int .i64 c] 3)) (.int .i64 n) 3
  rwa [show (w.alloc (.cells #[.int .i64 c] 3)).heap.size = w.heap.size + 1 by simp] at this
set_option maxHeartbeats 800000 in
theorem maker_any (c n : Int) (w : World) : Calls Try.prog 29 #[.int .i64 c, .int .i64 n] w fun r w' => r = .returned (mkF w.heap.size (w.heap.size + 1)) ∧ w' = mkW c n w := by
  have hmf : ∀ (fn : Fn) (first cap : Array Value) (w : World), (Instr.makeFunc fn first cap).run Try.prog w = .ok (.func fn first cap) w := fun _ _ _ _ => rfl
  go_enter Try.func29, Try.ntmps29
  go_wp2
  go_ret
  exact ⟨rfl, rfl⟩
/-- An element is made, at a world that has grown. -/
theorem mk_on (c n : Int) (m : Bool) (s : ByteArray) (v : Value) (l : List El) (w w1 : World) (hb : Below (mkW c n w).heap.size (mkW c n w) w1)
    (hl : l.length ≤ 1000) (hf : fewN.L l) (hh : hgt.L l ≤ 65536) (hV : ElsV w v l) :
    Calls Try.prog 39 (#[.bool m, .string s, v] ++ #[.pointer (some ⟨w.heap.size, 0, none⟩), .pointer (some ⟨w.heap.size + 1, 0, none⟩)]) w1 fun r w' => ∃ v', r = .returned (.tuple #[v', .int .i64 (mkX c n)]) ∧ ElP (In w1.heap.size w') w' (mkE c m n s l) v' ∧ Below w1.heap.size w1 w' := by
  obtain ⟨h0, h1⟩ := mkW_cells c n w
  exact mk_any _ _ c n m s v l w1 ((hb.cell (cell_lt h0)).trans h0) ((hb.cell (cell_lt h1)).trans h1) hl hf hh ((hV.below ((Gr.one w _).alloc _).below).below hb)
end Go.Proofs.Ytcboggoindhmkaa
