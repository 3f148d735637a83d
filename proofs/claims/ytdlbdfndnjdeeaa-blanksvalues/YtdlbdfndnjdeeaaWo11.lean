/- The landed words, by a goto. -/
import Derived.Test.YtdlbdfndnjdeeaaWd11
namespace Go.Proofs.Ytdlbdfndnjdeeaa
open Go.RowKit

/-- A scope in which the run jumps back to one label: what is shown of each pass from the label serves for the first as well. -/
theorem jumps11 {P : Program} {a : Act} {w : World} {Q : Exit → Act → World → Prop} {c rest : Code} (l : Nat) (J : Act → World → Prop) (μ : Act → World → Nat) (hf : findLabel c l = some (Code.skip.seq rest))
    (pass : ∀ a w, J a w → rest.wp P (Exit.jump l (fun a' w' => J a' w' ∧ μ a' w' < μ a w) Q) a w)
    (first : (∀ a w, J a w → rest.wp P (Exit.jump l J Q) a w) → c.wp P (Exit.jump l J Q) a w) : (Code.scope c).wp P Q a w := by
  refine wp_scope_jumps l J μ hf (first fun a w h => wp_mono (pass a w h) ?_) fun a w h => wp_seq (wp_skip (pass a w h))
  intro e a' w' h
  cases e with
  | goto l' => exact ⟨h.1, h.2.1⟩
  | normal => exact h
  | exit id => exact h
  | ret => exact h
  | panic ch => exact h
  | outgrown => exact h
theorem news_of11 {w : World} {b off : Nat} {l : List Int} (hcc : ∀ j, j < l.length → w.cell? ⟨b, off + j, none⟩ = some (.int .i32 (l.getD j 0))) : ∀ j u, (l.map (Value.int .i32))[j]? = some u → w.cell? ((⟨b, off, none⟩ : Addr).add j) = some u := fun j u hu => by
  have hj : j < l.length := by have := (List.getElem?_eq_some_iff.1 hu).1; simpa using this
  have e : (⟨b, off, none⟩ : Addr).add j = ⟨b, off + j, none⟩ := by unfold Addr.add; split <;> simp_all
  have hu' : u = .int .i32 (l.getD j 0) := by
    rw [List.getElem?_map, List.getElem?_eq_getElem hj] at hu
    simp at hu
    rw [← hu]
    simp [List.getD, hj]
  rw [e, hu']
  exact hcc j hj
/-- How much is still to be gone through at the label. -/
def muw (n : Nat) (a : Act) (_ : World) : Nat := n - (intOf (a.tmps.getD 5 undef)).toNat
/-- The frame at the label. -/
def Frw (a : Option Addr) (n cap : Nat) (a3 : Option Addr) (N c3 t : Nat) (q : Act) : Prop := ∃ u1 u2 u4 u6 u7 u8 u9 u10 u11 u12 u13 u14 u15 u16 u17 u18 u19 u20 u21 u22 u23 u24 u25 u26 u27 u28 u29 u30 : Value, q = { tmps := #[.slice a n cap, u1, u2, .slice a3 N c3, u4, .int .i64 (t : Int), u6, u7, u8, u9, u10, u11, u12, u13, u14, u15, u16, u17, u18, u19, u20, u21, u22, u23, u24, u25, u26, u27, u28, u29, u30], defers := [] }
theorem inn_len11 {M : Int → Bool} : ∀ (l : List Int) (s o : Bool), (inn M s o l).length ≤ 3 * l.length
  | [], _, _ => by simp [inn]
  | x :: t, s, o => by
    cases hs : sp M x t
    · have h := inn_len11 (M := M) t true false
      rw [inn_no hs, List.length_append]
      simp only [List.length_cons]
      split <;> simp only [List.length_cons, List.length_nil] <;> omega
    · have h := inn_len11 (M := M) t s true
      rw [inn_sp hs, List.length_cons]
      omega
theorem inn_start (M : Int → Bool) (l : List Int) : Hid ([] ++ inn M (decide (0 < 0)) true (l.drop 0) = inn M false false l) := by
  show _ = _
  rw [List.drop_zero, List.nil_append]
  show inn M false true l = _
  cases l with
  | nil => rfl
  | cons x t => simp [inn]
set_option maxHeartbeats 6400000 in
theorem words_walk (M : Int → Bool) (a : Option Addr) (cap : Nat) (l : List Int) (w : World) (hlen : l.length ≤ 6000) (hcap : l.length ≤ cap) (hR : Row w (.slice a l.length cap) l) (HSP : SpOk M w a cap l) :
    Calls Try.prog 26 #[.slice a l.length cap] w fun e w' => ∃ v', e = .returned v' ∧ Rn w.heap.size v' (inn M false false l) w' ∧ Below w.heap.size w w' := by
  obtain ⟨i0, hi, hz0, hz1, hz2⟩ := info_parts elem_info
  have HNL := hide (inn_len11 (M := M) l false false)
  have HPS := hide (fun (k : Nat) (s : Bool) (W : World) (hk : k ≤ l.length) (hb : Below w.heap.size w W) => pass_walk M a cap l k s W (by omega) hk (fun m W2 hm hb2 => HSP m W2 hm (hb.trans (hb2.mono hb.size))))
  have HC : Hid (0 < l.length → ∃ b off, a = some ⟨b, off, none⟩ ∧ ∀ j, j < l.length → w.cell? ⟨b, off + j, none⟩ = some (.int .i32 (l.getD j 0))) := by
    obtain ⟨a', cap', hv, hc⟩ := hR
    cases hv
    exact hc
  have hml : l.length ≤ maxLen := by unfold maxLen; omega
  clear hR HSP
  go_enter Try.func26, Try.ntmps26
  go_wp2
  refine jumps11 0 (fun q wr => ∃ (a3 : Option Addr) (N c3 t : Nat) (out : List Int), Frw a l.length cap a3 N c3 t q ∧ t ≤ l.length ∧ N = out.length ∧ Hid (Rn w.heap.size (.slice a3 N c3) out wr) ∧ Hid (out ++ inn M (decide (0 < N)) true (l.drop t) = inn M false false l) ∧ Below w.heap.size w wr) (muw l.length) rfl ?_ ?_
  · rintro q wl ⟨a3, N, c3, t, out, ⟨u1, u2, u4, u6, u7, u8, u9, u10, u11, u12, u13, u14, u15, u16, u17, u18, u19, u20, u21, u22, u23, u24, u25, u26, u27, u28, u29, u30, rfl⟩, ht, hN, RK, EK, hb⟩
    have P1 := hide (unhide HPS t true wl ht hb)
    have hf1 := skp_le (M := M) true (l.drop t)
    rw [List.length_drop] at hf1
    have EI := hide (inn_skp (M := M) (decide (0 < N)) (l.drop t))
    have EZ := hide (skp_zero (M := M) (l.drop t))
    rw [List.drop_drop] at EI EZ
    obtain ⟨f, hf⟩ : ∃ f, f = t + skp M true (l.drop t) := ⟨_, rfl⟩
    rw [← hf] at P1 EI EZ
    have hfl : f ≤ l.length := by omega
    have htf : t ≤ f := by omega
    have P2 := hide (fun W hW => unhide HPS f false W hfl hW)
    have hd1 := skp_le (M := M) false (l.drop f)
    rw [List.length_drop] at hd1
    have ET := hide (inn_two (M := M) (decide (0 < N)) (l.drop f))
    rw [List.drop_drop] at ET
    have hol : out.length ≤ 3 * l.length := by
      have := congrArg List.length (unhide EK)
      rw [List.length_append] at this
      have := unhide HNL
      omega
    rw [unhide EI] at EK
    generalize skp M false (l.drop f) = d at *
    clear hf hf1 EI
    by_cases hd : d = 0
    · subst hd
      have HE : Hid (out = inn M false false l) := by show _ = _; rw [← unhide EK, unhide EZ rfl]; simp [inn]
      rw [unhide HE] at RK
      clear ET EZ EK hol hN
      go_wp2_with (first
        | (go_at_call 37; refine (unhide P2 w2 (hb.trans (b2.mono hb.size))).mono ?_; rintro e w3 ⟨rfl, b3⟩)
        | (go_at_call 37; refine (unhide P1).mono ?_; rintro e w2 ⟨rfl, b2⟩))
      simp only [Exit.jump]
      go_ret
      exact ⟨_, rfl, (unhide RK).below (b2.trans (b3.mono b2.size)), hb.trans ((b2.trans (b3.mono b2.size)).mono hb.size)⟩
    · obtain ⟨b, off, rfl, hcc⟩ := unhide HC (by omega)
      obtain ⟨T, hT⟩ : ∃ T, T = f + d := ⟨_, rfl⟩
      rw [← hT] at P2 ET
      obtain rfl : d = T - f := by omega
      have hTl : T ≤ l.length := by omega
      have hfT : f < T := by omega
      have HW : Hid (∀ W, Below w.heap.size w W → ∀ j u, (((l.drop f).take (T - f)).map (Value.int .i32))[j]? = some u → W.cell? ((⟨b, off + f, none⟩ : Addr).add j) = some u) := fun W hW => news_of11 fun j hj => by
        rw [List.length_take, List.length_drop] at hj
        have h := hcc (f + j) (by omega)
        rw [Nat.add_assoc, (hW.cell (by exact cell_lt h)).trans h]
        have hj2 : j < T - f := by omega
        simp [List.getD, hj2]
      have HWL : Hid (((l.drop f).take (T - f)).length = T - f) := by show _ = _; rw [List.length_take, List.length_drop]; omega
      have HLM : Hid ((((l.drop f).take (T - f)).map (Value.int .i32)).length = (T - f) * 1) := by show _ = _; rw [List.length_map, unhide HWL]; omega
      have HON := hide (ints_one ((l.drop f).take (T - f)))
      have E2 := hide (unhide ET (by omega))
      rw [unhide E2] at EK
      clear ET EZ E2 hcc hT hd
      generalize hWD : (l.drop f).take (T - f) = WD at *
      clear hWD
      obtain ⟨news, hnews⟩ : ∃ x, x = WD.map (Value.int .i32) := ⟨_, rfl⟩
      rw [← hnews] at HW HLM HON
      have HNE := hide hnews
      clear hnews
      have hz0' : (0 : Int) ≤ (f : Int) := by omega
      have hz1' : (f : Int) ≤ (T : Int) := by omega
      have hz2' : (T : Int) ≤ (cap : Int) := by omega
      have hz3' : ¬ (f : Int) = (T : Int) := by omega
      have hz4' : ((f : Int) == (T : Int)) = false := by simpa using hz3'
      have hz5' : ¬ cap = f := by omega
      have hz6' : ¬ f = T := by omega
      have hd0 : 0 < T - f := by omega
      have HN := hide hN
      rw [← hN] at hol
      by_cases hN0 : 0 < N
      · have hNz : (0 : Int) < (N : Int) := by omega
        have hm1 : N + 2 ≤ maxLen := by unfold maxLen; omega
        have hm2 : (N + 2) * 4 ≤ 140737488355328 := by omega
        have hm3 : N + 2 + (T - f) ≤ maxLen := by unfold maxLen; omega
        have hm4 : (N + 2 + (T - f)) * 4 ≤ 140737488355328 := by omega
        rw [decide_eq_true hN0, if_pos rfl] at EK
        clear hN
        go_wp2_with (first
          | (at_builtin; refine wpList_append_lies _ rfl _ _ 22 rfl w.heap.size 21 i0 _ 1 4 Try.underlying22 hi hz0 hz1 hz2 rfl (by omega) _ (N + 2) _ rfl (unhide HO8) ⟨b, off + f, none⟩ (T - f) (cap - f) news rfl (unhide HLM) (unhide HW _ hb8) (unhide HON) hd0 hm3 hm4 hs8 _ rfl ?_; intro g9 cap9 w9 hown9 hgrow9 hat9 hlt9)
          | (at_builtin; refine wpList_append_lies _ rfl _ _ 22 rfl w.heap.size 21 i0 _ 1 4 Try.underlying22 hi hz0 hz1 hz2 rfl (by omega) _ N _ rfl (World.ownsRow.alloc (Rn.own (unhide HN) (unhide HO3)) _) ⟨w3.heap.size, 0, none⟩ 2 2 [.int .i32 32, .int .i32 32] rfl rfl (World.news_of_block (cs := #[.int .i32 32, .int .i32 32]) (t := 21) (fr := (0, 0)) (heap_new w3 _)) (by simp [Value.oneCell']) (by omega) hm1 hm2 (by simp; omega) (w3.heap.size + 1) (by simp) ?_; intro g8 cap8 w8 hown8 hgrow8 hat8 hlt8; have hb8 := (hb3.alloc (by omega) _).trans (below_own hgrow8 (by simp; omega) (own_block (Rn.own (unhide HN) (unhide HO3)))); have hs8 := hb8.size; have HO8 := hide hown8; clear hown8 hgrow8 hat8 hlt8)
          | (go_at_call 37; refine (unhide P2 w2 hb2).mono ?_; rintro e w3 ⟨rfl, b3⟩; have hb3 := hb2.trans (b3.mono hb2.size); have hs3 := hb3.size; have HO3 := hide ((unhide RK).below (b2.trans (b3.mono b2.size))))
          | (go_at_call 37; refine (unhide P1).mono ?_; rintro e w2 ⟨rfl, b2⟩; have hb2 := hb.trans (b2.mono hb.size)))
        go_step3
        refine ⟨rfl, ⟨_, _, _, T, out ++ [32, 32] ++ WD, ⟨_, _, _, _, _, _, _, _, _, _, _, _, _, _, _, _, _, _, _, _, _, _, _, _, _, _, _, _, rfl⟩, hTl, ?_, ?_, ?_, hb8.trans (below_own hgrow9 hs8 (own_block (unhide HO8)))⟩, ?_⟩
        · rw [List.length_append, List.length_append, ← unhide HN, unhide HWL]; rfl
        · show Rn _ _ _ _
          unfold Rn
          rw [List.length_append, List.length_append, ← unhide HN, unhide HWL]
          rw [unhide HNE] at hown9
          simpa using hown9
        · show _ = _
          rw [← unhide EK, decide_eq_true (by omega)]
          simp
        · simp [muw, intOf]
          omega
      · obtain rfl : N = 0 := by omega
        obtain rfl : out = [] := List.length_eq_zero_iff.1 hN.symm
        have hm3 : 0 + (T - f) ≤ maxLen := by unfold maxLen; omega
        have hm4 : (0 + (T - f)) * 4 ≤ 140737488355328 := by omega
        rw [decide_eq_false hN0, if_neg (by decide)] at EK
        clear hN
        go_wp2_with (first
          | (at_builtin; refine wpList_append_lies _ rfl _ _ 22 rfl w.heap.size 21 i0 _ 1 4 Try.underlying22 hi hz0 hz1 hz2 rfl (by omega) _ 0 _ rfl (Rn.own rfl (unhide HO3)) ⟨b, off + f, none⟩ (T - f) (cap - f) news rfl (unhide HLM) (unhide HW _ hb3) (unhide HON) hd0 hm3 hm4 hs3 _ rfl ?_; intro g9 cap9 w9 hown9 hgrow9 hat9 hlt9)
          | (go_at_call 37; refine (unhide P2 w2 hb2).mono ?_; rintro e w3 ⟨rfl, b3⟩; have hb3 := hb2.trans (b3.mono hb2.size); have hs3 := hb3.size; have HO3 := hide ((unhide RK).below (b2.trans (b3.mono b2.size))))
          | (go_at_call 37; refine (unhide P1).mono ?_; rintro e w2 ⟨rfl, b2⟩; have hb2 := hb.trans (b2.mono hb.size)))
        go_step3
        refine ⟨rfl, ⟨_, _, _, T, WD, ⟨_, _, _, _, _, _, _, _, _, _, _, _, _, _, _, _, _, _, _, _, _, _, _, _, _, _, _, _, rfl⟩, hTl, ?_, ?_, ?_, hb3.trans (below_own hgrow9 hs3 (own_block (Rn.own rfl (unhide HO3))))⟩, ?_⟩
        · rw [unhide HWL]
        · show Rn _ _ _ _
          unfold Rn
          rw [unhide HWL]
          rw [unhide HNE] at hown9
          simpa using hown9
        · show _ = _
          rw [← unhide EK, decide_eq_true (by omega)]
          simp
        · simp [muw, intOf]
          omega
  · intro hfirst
    have HF := hide hfirst
    clear hfirst
    go_wp2_with (refine wpList_make_own _ rfl _ _ 22 rfl w.heap.size 21 i0 (.int .i32 0) 1 Try.underlying22 hi hz0 hz1 .i64 .i64 _ l.length rfl rfl rfl (by rw [hz2]; omega) hml (Nat.le_refl _) ?_; intro w1 hown1 hgrow1)
    go_step3
    rename_i HK
    refine HK _ _ ?_
    have HB : Below w.heap.size w w1 := (Below.refl _ _).grown hgrow1 (Nat.le_refl _) (by intro k h; cases h)
    exact unhide HF _ _ ⟨_, 0, _, 0, [], ⟨_, _, _, _, _, _, _, _, _, _, _, _, _, _, _, _, _, _, _, _, _, _, _, _, _, _, _, _, rfl⟩, Nat.zero_le _, rfl, hown1, inn_start M l, HB⟩
end Go.Proofs.Ytdlbdfndnjdeeaa
