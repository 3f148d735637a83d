/- The landed pass, and words: what they do, given what Space answers. -/
import Derived.Test.YticgeabmhmojfaaGreatDoorM12
import Derived.Test.YticgeabmhmojfaaGreatDoorM02
import Derived.ScopeJumps
import Derived.WalkMore
import Derived.Lib.AppendZeros
namespace Go.Proofs.YticgeabmhmojfaaGreatDoor
set_option maxRecDepth 100000
open Go.RowKit

/-- No slice is longer than its room. -/
def Fits (v : Value) : Prop := ∀ a n c, v = .slice a n c → n ≤ c
theorem Rn.fits {w : World} {B : Nat} {v : Value} {l : List Int} (h : Rn B v l w) : Fits v := by
  intro a n c hv
  rcases h.2 with ⟨hv', _⟩ | ⟨g, cap, cur, hv', _, _, hc, _⟩
  · rw [hv'] at hv; cases hv; exact Nat.le_refl _
  · rw [hv'] at hv; cases hv; exact hc
theorem fits_of {a : Option Addr} {n c : Nat} (h : n ≤ c) : Fits (.slice a n c) := fun _ _ _ e => by cases e; exact h

section
variable (M : Int → Bool)
/-- How many stand first that are spaces (or that are none). -/
def skp (b : Bool) : List Int → Nat
  | [] => 0
  | x :: t => if (sp M x t == b) = true then skp b t + 1 else 0
end
section
variable {M : Int → Bool}
theorem skp_le (b : Bool) : ∀ t : List Int, skp M b t ≤ t.length
  | [] => Nat.le_refl _
  | x :: t => by
    have := skp_le b t
    simp only [skp, List.length_cons]
    split <;> omega
theorem skp_yes {b : Bool} {x : Int} {t : List Int} (h : sp M x t = b) : skp M b (x :: t) = skp M b t + 1 := by
  simp [skp, h]
theorem skp_no {b : Bool} {x : Int} {t : List Int} (h : sp M x t = !b) : skp M b (x :: t) = 0 := by
  cases b <;> simp [skp, h]
theorem inn_skp (s : Bool) : ∀ t : List Int, inn M s true t = inn M s true (t.drop (skp M true t))
  | [] => rfl
  | x :: t => by
    cases hs : sp M x t
    · rw [skp_no (b := true) hs]; rfl
    · rw [skp_yes hs, inn_sp hs, List.drop_succ_cons, ← inn_skp s t]
theorem inn_word : ∀ t : List Int, inn M true false t = t.take (skp M false t) ++ inn M true true (t.drop (skp M false t))
  | [] => rfl
  | x :: t => by
    cases hs : sp M x t
    · rw [skp_yes hs, inn_no hs, List.take_succ_cons, List.drop_succ_cons, inn_word t]; rfl
    · rw [skp_no (b := false) hs, inn_sp hs]
      show _ = [] ++ inn M true true (x :: t)
      rw [inn_sp hs]; rfl
/-- Behind the spaces stands a word, or nothing. -/
theorem skp_zero : ∀ t : List Int, skp M false (t.drop (skp M true t)) = 0 → t.drop (skp M true t) = []
  | [], _ => rfl
  | x :: t, h => by
    cases hs : sp M x t
    · rw [skp_no (b := true) hs] at h
      rw [List.drop_zero, skp_yes hs] at h
      omega
    · rw [skp_yes hs, List.drop_succ_cons] at h ⊢
      exact skp_zero t h
theorem inn_two (s : Bool) (t : List Int) (h : 0 < skp M false t) : inn M s true t = (if s then [32, 32] else []) ++ (t.take (skp M false t) ++ inn M true true (t.drop (skp M false t))) := by
  cases t with
  | nil => simp [skp] at h
  | cons x t =>
    cases hs : sp M x t
    · rw [skp_yes hs, inn_no hs, List.take_succ_cons, List.drop_succ_cons, inn_word t]
      simp
    · rw [skp_no (b := false) hs] at h
      omega
end

theorem drop_at' (l : List Int) (k : Nat) (h : k < l.length) : l.drop k = l.getD k 0 :: l.drop (k + 1) := by
  rw [List.drop_eq_getElem_cons h]
  simp [List.getD, h]
/-- What is asked of Space. -/
def SpOk (M : Int → Bool) (w : World) (a : Option Addr) (cap : Nat) (l : List Int) : Prop :=
  ∀ (m : Nat) (W : World), m < l.length → Below w.heap.size w W → Calls Tryz.prog 50 #[.slice a l.length cap, .int .i64 (m : Int)] W fun e w' => e = .returned (.bool (sp M (l.getD m 0) (l.drop (m + 1)))) ∧ Below W.heap.size W w'

set_option maxHeartbeats 1600000 in
theorem pass_walk (M : Int → Bool) (a : Option Addr) (cap : Nat) (l : List Int) (k : Nat) (s : Bool) (w : World) (hlen : l.length ≤ 20000) (hk : k ≤ l.length) (HSP : SpOk M w a cap l) :
    Calls Tryz.prog 71 #[.slice a l.length cap, .int .i64 (k : Int), .bool s] w fun e w' => e = .returned (.int .i64 ((k + skp M s (l.drop k) : Nat) : Int)) ∧ Below w.heap.size w w' := by
  have HS := hide HSP
  clear HSP
  go_enter Tryz.func71, Tryz.ntmps71
  go_wp2
  go_loopw [1] (fun i wr => ∃ m : Nat, m ≤ l.length ∧ i = .int .i64 (m : Int) ∧ Hid (m + skp M s (l.drop m) = k + skp M s (l.drop k)) ∧ Below w.heap.size w wr) (fun i _ => l.length - (intOf i).toNat)
  case atStart => exact ⟨k, hk, rfl, by show _ = _; rfl, Below.refl _ _⟩
  case round =>
    obtain ⟨m, hm, rfl, HE, hb⟩ := hrel
    by_cases hlt : m < l.length
    · have hzl : (m : Int) < (l.length : Int) := by omega
      have HX := hide (unhide HS m wr hlt hb)
      have HD := hide (drop_at' l m hlt)
      generalize l.getD m 0 = x at *
      cases hs : sp M x (l.drop (m + 1)) <;> cases s
      · rw [hs] at HX
        have HE2 : Hid (m + 1 + skp M false (l.drop (m + 1)) = k + skp M false (l.drop k)) := by show _ = _; rw [← unhide HE, unhide HD, skp_yes hs]; omega
        go_wp2_with (go_at_call 50; refine (unhide HX).mono ?_; rintro e w2 ⟨rfl, b2⟩)
        go_roundw
        case rel => exact ⟨m + 1, by omega, by go_num, HE2, hb.trans (b2.mono hb.size)⟩
        case measure => simp [intOf]; omega
      · rw [hs] at HX
        have HE2 : Hid (k + skp M true (l.drop k) = m) := by show _ = _; rw [← unhide HE, unhide HD, skp_no (b := true) hs]; rfl
        go_wp2_with (go_at_call 50; refine (unhide HX).mono ?_; rintro e w2 ⟨rfl, b2⟩)
        go_ret
        exact ⟨ret_int (by rw [unhide HE2]), hb.trans (b2.mono hb.size)⟩
      · rw [hs] at HX
        have HE2 : Hid (k + skp M false (l.drop k) = m) := by show _ = _; rw [← unhide HE, unhide HD, skp_no (b := false) hs]; rfl
        go_wp2_with (go_at_call 50; refine (unhide HX).mono ?_; rintro e w2 ⟨rfl, b2⟩)
        go_ret
        exact ⟨ret_int (by rw [unhide HE2]), hb.trans (b2.mono hb.size)⟩
      · rw [hs] at HX
        have HE2 : Hid (m + 1 + skp M true (l.drop (m + 1)) = k + skp M true (l.drop k)) := by show _ = _; rw [← unhide HE, unhide HD, skp_yes hs]; omega
        go_wp2_with (go_at_call 50; refine (unhide HX).mono ?_; rintro e w2 ⟨rfl, b2⟩)
        go_roundw
        case rel => exact ⟨m + 1, by omega, by go_num, HE2, hb.trans (b2.mono hb.size)⟩
        case measure => simp [intOf]; omega
    · have hzl : ¬ (m : Int) < (l.length : Int) := by omega
      obtain rfl : m = l.length := by omega
      have HE2 : Hid (k + skp M s (l.drop k) = l.length) := by show _ = _; rw [← unhide HE, List.drop_length]; rfl
      go_wp2
      go_ret
      exact ⟨ret_int (by have := unhide HE2; omega), hb⟩
end Go.Proofs.YticgeabmhmojfaaGreatDoor
/- The landed words, by a goto. -/
namespace Go.Proofs.YticgeabmhmojfaaGreatDoor
set_option maxRecDepth 100000
open Go.RowKit

/-- A scope in which the run jumps back to one label: what is shown of each pass from the label serves for the first as well. -/
theorem jumps11 {P : Program} {a : Act} {w : World} {Q : Exit → Act → World → Prop} {c rest : Code} (l : Nat) (J : Act → World → Prop) (μ : Act → World → Nat) (hf : findLabel c l = some (Code.skip.seq rest))
    (pass : ∀ a w, J a w → rest.wp P (Exit.jump l (fun a' w' => J a' w' ∧ μ a' w' < μ a w) Q) a w)
    (first : (∀ a w, J a w → rest.wp P (Exit.jump l J Q) a w) → c.wp P (Exit.jump l J Q) a w) : (Code.scope c).wp P Q a w := by
  refine wp_scope_jumps l J μ hf (first fun a w h => wp_mono (pass a w h) ?_) fun a w h => wp_seq (wp_skip (pass a w h))
  intro e a' w' h
  cases e with
  | goto l' => exact ⟨h.1, h.2.1⟩
  | normal => exact h
  | exit id => exact h
  | ret => exact h
  | panic ch => exact h
  | outgrown => exact h
theorem news_of11 {w : World} {b off : Nat} {l : List Int} (hcc : ∀ j, j < l.length → w.cell? ⟨b, off + j, none⟩ = some (.int .i32 (l.getD j 0))) : ∀ j u, (l.map (Value.int .i32))[j]? = some u → w.cell? ((⟨b, off, none⟩ : Addr).add j) = some u := fun j u hu => by
  have hj : j < l.length := by have := (List.getElem?_eq_some_iff.1 hu).1; simpa using this
  have e : (⟨b, off, none⟩ : Addr).add j = ⟨b, off + j, none⟩ := by unfold Addr.add; split <;> simp_all
  have hu' : u = .int .i32 (l.getD j 0) := by
    rw [List.getElem?_map, List.getElem?_eq_getElem hj] at hu
    simp at hu
    rw [← hu]
    simp [List.getD, hj]
  rw [e, hu']
  exact hcc j hj
/-- How much is still to be gone through at the label. -/
def muw (n : Nat) (a : Act) (_ : World) : Nat := n - (intOf (a.tmps.getD 5 undef)).toNat
/-- The frame at the label. -/
def Frw (a : Option Addr) (n cap : Nat) (a3 : Option Addr) (N c3 t : Nat) (q : Act) : Prop := ∃ u1 u2 u4 u6 u7 u8 u9 u10 u11 u12 u13 u14 u15 u16 u17 u18 u19 u20 u21 u22 u23 u24 u25 u26 u27 u28 u29 u30 : Value, q = { tmps := #[.slice a n cap, u1, u2, .slice a3 N c3, u4, .int .i64 (t : Int), u6, u7, u8, u9, u10, u11, u12, u13, u14, u15, u16, u17, u18, u19, u20, u21, u22, u23, u24, u25, u26, u27, u28, u29, u30], defers := [] }
theorem inn_len11 {M : Int → Bool} : ∀ (l : List Int) (s o : Bool), (inn M s o l).length ≤ 3 * l.length
  | [], _, _ => by simp [inn]
  | x :: t, s, o => by
    cases hs : sp M x t
    · have h := inn_len11 (M := M) t true false
      rw [inn_no hs, List.length_append]
      simp only [List.length_cons]
      split <;> simp only [List.length_cons, List.length_nil] <;> omega
    · have h := inn_len11 (M := M) t s true
      rw [inn_sp hs, List.length_cons]
      omega
theorem inn_start (M : Int → Bool) (l : List Int) : Hid ([] ++ inn M (decide (0 < 0)) true (l.drop 0) = inn M false false l) := by
  show _ = _
  rw [List.drop_zero, List.nil_append]
  show inn M false true l = _
  cases l with
  | nil => rfl
  | cons x t => simp [inn]
set_option maxHeartbeats 6400000 in
theorem words_walk (M : Int → Bool) (a : Option Addr) (cap : Nat) (l : List Int) (w : World) (hlen : l.length ≤ 6000) (hcap : l.length ≤ cap) (hR : Row w (.slice a l.length cap) l) (HSP : SpOk M w a cap l) :
    Calls Tryz.prog 54 #[.slice a l.length cap] w fun e w' => ∃ v', e = .returned v' ∧ Rn w.heap.size v' (inn M false false l) w' ∧ Below w.heap.size w w' := by
  obtain ⟨i0, hi, hz0, hz1, hz2⟩ := info_parts elem_info
  have HNL := hide (inn_len11 (M := M) l false false)
  have HPS := hide (fun (k : Nat) (s : Bool) (W : World) (hk : k ≤ l.length) (hb : Below w.heap.size w W) => pass_walk M a cap l k s W (by omega) hk (fun m W2 hm hb2 => HSP m W2 hm (hb.trans (hb2.mono hb.size))))
  have HC : Hid (0 < l.length → ∃ b off, a = some ⟨b, off, none⟩ ∧ ∀ j, j < l.length → w.cell? ⟨b, off + j, none⟩ = some (.int .i32 (l.getD j 0))) := by
    obtain ⟨a', cap', hv, hc⟩ := hR
    cases hv
    exact hc
  have hml : l.length ≤ maxLen := by unfold maxLen; omega
  clear hR HSP
  go_enter Tryz.func54, Tryz.ntmps54
  go_wp2
  refine jumps11 0 (fun q wr => ∃ (a3 : Option Addr) (N c3 t : Nat) (out : List Int), Frw a l.length cap a3 N c3 t q ∧ t ≤ l.length ∧ N = out.length ∧ Hid (Rn w.heap.size (.slice a3 N c3) out wr) ∧ Hid (out ++ inn M (decide (0 < N)) true (l.drop t) = inn M false false l) ∧ Below w.heap.size w wr) (muw l.length) rfl ?_ ?_
  · rintro q wl ⟨a3, N, c3, t, out, ⟨u1, u2, u4, u6, u7, u8, u9, u10, u11, u12, u13, u14, u15, u16, u17, u18, u19, u20, u21, u22, u23, u24, u25, u26, u27, u28, u29, u30, rfl⟩, ht, hN, RK, EK, hb⟩
    have P1 := hide (unhide HPS t true wl ht hb)
    have hf1 := skp_le (M := M) true (l.drop t)
    rw [List.length_drop] at hf1
    have EI := hide (inn_skp (M := M) (decide (0 < N)) (l.drop t))
    have EZ := hide (skp_zero (M := M) (l.drop t))
    rw [List.drop_drop] at EI EZ
    obtain ⟨f, hf⟩ : ∃ f, f = t + skp M true (l.drop t) := ⟨_, rfl⟩
    rw [← hf] at P1 EI EZ
    have hfl : f ≤ l.length := by omega
    have htf : t ≤ f := by omega
    have P2 := hide (fun W hW => unhide HPS f false W hfl hW)
    have hd1 := skp_le (M := M) false (l.drop f)
    rw [List.length_drop] at hd1
    have ET := hide (inn_two (M := M) (decide (0 < N)) (l.drop f))
    rw [List.drop_drop] at ET
    have hol : out.length ≤ 3 * l.length := by
      have := congrArg List.length (unhide EK)
      rw [List.length_append] at this
      have := unhide HNL
      omega
    rw [unhide EI] at EK
    generalize skp M false (l.drop f) = d at *
    clear hf hf1 EI
    by_cases hd : d = 0
    · subst hd
      have HE : Hid (out = inn M false false l) := by show _ = _; rw [← unhide EK, unhide EZ rfl]; simp [inn]
      rw [unhide HE] at RK
      clear ET EZ EK hol hN
      go_wp2_with (first
        | (go_at_call 71; refine (unhide P2 w2 (hb.trans (b2.mono hb.size))).mono ?_; rintro e w3 ⟨rfl, b3⟩)
        | (go_at_call 71; refine (unhide P1).mono ?_; rintro e w2 ⟨rfl, b2⟩))
      simp only [Exit.jump]
      go_ret
      exact ⟨_, rfl, (unhide RK).below (b2.trans (b3.mono b2.size)), hb.trans ((b2.trans (b3.mono b2.size)).mono hb.size)⟩
    · obtain ⟨b, off, rfl, hcc⟩ := unhide HC (by omega)
      obtain ⟨T, hT⟩ : ∃ T, T = f + d := ⟨_, rfl⟩
      rw [← hT] at P2 ET
      obtain rfl : d = T - f := by omega
      have hTl : T ≤ l.length := by omega
      have hfT : f < T := by omega
      have HW : Hid (∀ W, Below w.heap.size w W → ∀ j u, (((l.drop f).take (T - f)).map (Value.int .i32))[j]? = some u → W.cell? ((⟨b, off + f, none⟩ : Addr).add j) = some u) := fun W hW => news_of11 fun j hj => by
        rw [List.length_take, List.length_drop] at hj
        have h := hcc (f + j) (by omega)
        rw [Nat.add_assoc, (hW.cell (by exact cell_lt h)).trans h]
        have hj2 : j < T - f := by omega
        simp [List.getD, hj2]
      have HWL : Hid (((l.drop f).take (T - f)).length = T - f) := by show _ = _; rw [List.length_take, List.length_drop]; omega
      have HLM : Hid ((((l.drop f).take (T - f)).map (Value.int .i32)).length = (T - f) * 1) := by show _ = _; rw [List.length_map, unhide HWL]; omega
      have HON := hide (ints_one ((l.drop f).take (T - f)))
      have E2 := hide (unhide ET (by omega))
      rw [unhide E2] at EK
      clear ET EZ E2 hcc hT hd
      generalize hWD : (l.drop f).take (T - f) = WD at *
      clear hWD
      obtain ⟨news, hnews⟩ : ∃ x, x = WD.map (Value.int .i32) := ⟨_, rfl⟩
      rw [← hnews] at HW HLM HON
      have HNE := hide hnews
      clear hnews
      have hz0' : (0 : Int) ≤ (f : Int) := by omega
      have hz1' : (f : Int) ≤ (T : Int) := by omega
      have hz2' : (T : Int) ≤ (cap : Int) := by omega
      have hz3' : ¬ (f : Int) = (T : Int) := by omega
      have hz4' : ((f : Int) == (T : Int)) = false := by simpa using hz3'
      have hz5' : ¬ cap = f := by omega
      have hz6' : ¬ f = T := by omega
      have hd0 : 0 < T - f := by omega
      have HN := hide hN
      rw [← hN] at hol
      by_cases hN0 : 0 < N
      · have hNz : (0 : Int) < (N : Int) := by omega
        have hm1 : N + 2 ≤ maxLen := by unfold maxLen; omega
        have hm2 : (N + 2) * 4 ≤ 140737488355328 := by omega
        have hm3 : N + 2 + (T - f) ≤ maxLen := by unfold maxLen; omega
        have hm4 : (N + 2 + (T - f)) * 4 ≤ 140737488355328 := by omega
        rw [decide_eq_true hN0, if_pos rfl] at EK
        clear hN
        go_wp2_with (first
          | (at_builtin; refine wpList_append_lies _ rfl _ _ 35 rfl w.heap.size 21 i0 _ 1 4 Tryz.underlying35 hi hz0 hz1 hz2 rfl (by omega) _ (N + 2) _ rfl (unhide HO8) ⟨b, off + f, none⟩ (T - f) (cap - f) news rfl (unhide HLM) (unhide HW _ hb8) (unhide HON) hd0 hm3 hm4 hs8 _ rfl ?_; intro g9 cap9 w9 hown9 hgrow9 hat9 hlt9)
          | (at_builtin; refine wpList_append_lies _ rfl _ _ 35 rfl w.heap.size 21 i0 _ 1 4 Tryz.underlying35 hi hz0 hz1 hz2 rfl (by omega) _ N _ rfl (World.ownsRow.alloc (Rn.own (unhide HN) (unhide HO3)) _) ⟨w3.heap.size, 0, none⟩ 2 2 [.int .i32 32, .int .i32 32] rfl rfl (World.news_of_block (cs := #[.int .i32 32, .int .i32 32]) (t := 21) (fr := (0, 0)) (heap_new w3 _)) (by simp [Value.oneCell']) (by omega) hm1 hm2 (by simp; omega) (w3.heap.size + 1) (by simp) ?_; intro g8 cap8 w8 hown8 hgrow8 hat8 hlt8; have hb8 := (hb3.alloc (by omega) _).trans (below_own hgrow8 (by simp; omega) (own_block (Rn.own (unhide HN) (unhide HO3)))); have hs8 := hb8.size; have HO8 := hide hown8; clear hown8 hgrow8 hat8 hlt8)
          | (go_at_call 71; refine (unhide P2 w2 hb2).mono ?_; rintro e w3 ⟨rfl, b3⟩; have hb3 := hb2.trans (b3.mono hb2.size); have hs3 := hb3.size; have HO3 := hide ((unhide RK).below (b2.trans (b3.mono b2.size))))
          | (go_at_call 71; refine (unhide P1).mono ?_; rintro e w2 ⟨rfl, b2⟩; have hb2 := hb.trans (b2.mono hb.size)))
        go_step3
        refine ⟨rfl, ⟨_, _, _, T, out ++ [32, 32] ++ WD, ⟨_, _, _, _, _, _, _, _, _, _, _, _, _, _, _, _, _, _, _, _, _, _, _, _, _, _, _, _, rfl⟩, hTl, ?_, ?_, ?_, hb8.trans (below_own hgrow9 hs8 (own_block (unhide HO8)))⟩, ?_⟩
        · rw [List.length_append, List.length_append, ← unhide HN, unhide HWL]; rfl
        · show Rn _ _ _ _
          unfold Rn
          rw [List.length_append, List.length_append, ← unhide HN, unhide HWL]
          rw [unhide HNE] at hown9
          simpa using hown9
        · show _ = _
          rw [← unhide EK, decide_eq_true (by omega)]
          simp
        · simp [muw, intOf]
          omega
      · obtain rfl : N = 0 := by omega
        obtain rfl : out = [] := List.length_eq_zero_iff.1 hN.symm
        have hm3 : 0 + (T - f) ≤ maxLen := by unfold maxLen; omega
        have hm4 : (0 + (T - f)) * 4 ≤ 140737488355328 := by omega
        rw [decide_eq_false hN0, if_neg (by decide)] at EK
        clear hN
        go_wp2_with (first
          | (at_builtin; refine wpList_append_lies _ rfl _ _ 35 rfl w.heap.size 21 i0 _ 1 4 Tryz.underlying35 hi hz0 hz1 hz2 rfl (by omega) _ 0 _ rfl (Rn.own rfl (unhide HO3)) ⟨b, off + f, none⟩ (T - f) (cap - f) news rfl (unhide HLM) (unhide HW _ hb3) (unhide HON) hd0 hm3 hm4 hs3 _ rfl ?_; intro g9 cap9 w9 hown9 hgrow9 hat9 hlt9)
          | (go_at_call 71; refine (unhide P2 w2 hb2).mono ?_; rintro e w3 ⟨rfl, b3⟩; have hb3 := hb2.trans (b3.mono hb2.size); have hs3 := hb3.size; have HO3 := hide ((unhide RK).below (b2.trans (b3.mono b2.size))))
          | (go_at_call 71; refine (unhide P1).mono ?_; rintro e w2 ⟨rfl, b2⟩; have hb2 := hb.trans (b2.mono hb.size)))
        go_step3
        refine ⟨rfl, ⟨_, _, _, T, WD, ⟨_, _, _, _, _, _, _, _, _, _, _, _, _, _, _, _, _, _, _, _, _, _, _, _, _, _, _, _, rfl⟩, hTl, ?_, ?_, ?_, hb3.trans (below_own hgrow9 hs3 (own_block (Rn.own rfl (unhide HO3))))⟩, ?_⟩
        · rw [unhide HWL]
        · show Rn _ _ _ _
          unfold Rn
          rw [unhide HWL]
          rw [unhide HNE] at hown9
          simpa using hown9
        · show _ = _
          rw [← unhide EK, decide_eq_true (by omega)]
          simp
        · simp [muw, intOf]
          omega
  · intro hfirst
    have HF := hide hfirst
    clear hfirst
    go_wp2_with (refine wpList_make_own _ rfl _ _ 35 rfl w.heap.size 21 i0 (.int .i32 0) 1 Tryz.underlying35 hi hz0 hz1 .i64 .i64 _ l.length rfl rfl rfl (by rw [hz2]; omega) hml (Nat.le_refl _) ?_; intro w1 hown1 hgrow1)
    go_step3
    rename_i HK
    refine HK _ _ ?_
    have HB : Below w.heap.size w w1 := (Below.refl _ _).grown hgrow1 (Nat.le_refl _) (by intro k h; cases h)
    exact unhide HF _ _ ⟨_, 0, _, 0, [], ⟨_, _, _, _, _, _, _, _, _, _, _, _, _, _, _, _, _, _, _, _, _, _, _, _, _, _, _, _, rfl⟩, Nat.zero_le _, rfl, hown1, inn_start M l, HB⟩
end Go.Proofs.YticgeabmhmojfaaGreatDoor
/- slices.Grow and slices.Concat, as the landed firm calls them. -/
namespace Go.Proofs.YticgeabmhmojfaaGreatDoor
set_option maxRecDepth 100000
open Go.RowKit

theorem zeros_size (n : Nat) : (Builtin.zeroCells (Value.cells (.int .i32 0)) n).size = n := by
  simp [Builtin.zeroCells, Value.cells]
theorem grow_own (w : World) (n : Nat) (hn : n ≤ maxLen) : (w.drew.alloc (.cells (Builtin.zeroCells (Value.cells (.int .i32 0)) n ++ Builtin.zeroCells (Value.cells (.int .i32 0)) (grownCap w n 0 21 - n)) 21)).ownsRow w.heap.size 21 1 (.slice (some ⟨w.heap.size, 0, none⟩) 0 (grownCap w n 0 21)) 0 [] := by
  have h1 := grownCap_ge w n 0 21
  refine ⟨rfl, .inr ⟨w.heap.size, _, _, rfl, Nat.le_refl _, heap_new w.drew _, Nat.zero_le _, grownCap_le_maxLen w n 0 21 hn, ?_, rfl⟩⟩
  rw [Array.size_append, zeros_size, zeros_size]
  omega
set_option maxHeartbeats 800000 in
/-- Grow of nothing: room for n. -/
theorem grow_any (n : Nat) (w : World) (h0 : 0 < n) (hn : n ≤ 10000) :
    Calls Tryz.prog 80 #[.slice none 0 0, .int .i64 (n : Int)] w fun e w' => ∃ a c, e = .returned (.slice a 0 c) ∧ Rn w.heap.size (.slice a 0 c) [] w' ∧ Below w.heap.size w w' := by
  obtain ⟨i0, hi, hz0, hz1, hz2⟩ := info_parts elem_info
  have HR := Lib.run_append_nil_zeros (P := Tryz.prog) w 35 3 35 21 i0 (.int .i32 0) .i64 .i64 Tryz.underlying35 Tryz.underlying3 hi hz0 n h0 (by rw [hz1]; omega) (by omega) (by rw [hz2]; omega)
  have HO := hide (grow_own w n (by unfold maxLen; omega))
  have HB : Hid (Below w.heap.size w (w.drew.alloc (.cells (Builtin.zeroCells (Value.cells (.int .i32 0)) n ++ Builtin.zeroCells (Value.cells (.int .i32 0)) (grownCap w n 0 21 - n)) 21))) := (((Gr.refl w).drew).alloc _).below
  generalize (w.drew.alloc (.cells (Builtin.zeroCells (Value.cells (.int .i32 0)) n ++ Builtin.zeroCells (Value.cells (.int .i32 0)) (grownCap w n 0 21 - n)) 21)) = w1 at *
  generalize grownCap w n 0 21 = c1 at *
  have HRH := hide HR
  clear HR
  have hz : (0 : Int) < (n : Int) := by omega
  have hz' : ¬ (n : Int) < 0 := by omega
  go_enter Tryz.func80, Tryz.ntmps80
  go_wp2_with (at_builtin; refine Lib.wpList_append_run _ rfl _ _ _ _ rfl _ _ rfl rfl _ _ (unhide HRH) ?_)
  go_ret
  exact ⟨_, _, rfl, unhide HO, unhide HB⟩
set_option maxHeartbeats 3200000 in
/-- Concat of a row of one and another that is not empty. -/
theorem concat_two (p g b off cap : Nat) (l : List Int) (w : World) (h0 : 0 < l.length) (hlen : l.length ≤ 6000)
    (hp0 : w.cell? ⟨p, 0, none⟩ = some (.slice (some ⟨g, 0, none⟩) 1 1)) (hp1 : w.cell? ⟨p, 1, none⟩ = some (.slice (some ⟨b, off, none⟩) l.length cap)) (hg : w.cell? ⟨g, 0, none⟩ = some (.int .i32 32))
    (hcell : ∀ i, i < l.length → w.cell? ⟨b, off + i, none⟩ = some (.int .i32 (l.getD i 0))) :
    Calls Tryz.prog 72 #[.slice (some ⟨p, 0, none⟩) 2 2] w fun e w' => ∃ v', e = .returned v' ∧ Rn w.heap.size v' (32 :: l) w' ∧ Below w.heap.size w w' := by
  obtain ⟨i0, hi, hz0, hz1, hz2⟩ := info_parts elem_info
  have HG := hide (grow_any (1 + l.length) w (by omega) (by omega))
  have HN1 : Hid (∀ W, Below w.heap.size w W → ∀ j u, ([Value.int .i32 32])[j]? = some u → W.cell? ((⟨g, 0, none⟩ : Addr).add j) = some u) := fun W hW j u hu => by
    have hj : j = 0 := by
      have := (List.getElem?_eq_some_iff.1 hu).1
      simpa using this
    subst hj
    simp at hu
    subst hu
    rw [add_zero3]
    exact (hW.cell (by exact cell_lt hg)).trans hg
  have HN2 : Hid (∀ W, Below w.heap.size w W → ∀ j u, (l.map (Value.int .i32))[j]? = some u → W.cell? ((⟨b, off, none⟩ : Addr).add j) = some u) := fun W hW => news_of11 fun j hj => (hW.cell (by exact cell_lt (hcell j hj))).trans (hcell j hj)
  have HLM : Hid ((l.map (Value.int .i32)).length = l.length * 1) := by show _ = _; rw [List.length_map]; omega
  have HON := hide (ints_one l)
  have HRN : Hid (∀ (v' : Value) (w' : World), w'.ownsRow w.heap.size 21 1 v' (0 + 1 + l.length) ([] ++ [.int .i32 32] ++ l.map (Value.int .i32)) → Rn w.heap.size v' (32 :: l) w') := fun v' w' h => by
    unfold Rn
    simpa [Nat.add_comm] using h
  have HP0 := hide hp0
  have HP1 := hide hp1
  clear hcell hg
  generalize l.map (Value.int .i32) = news at *
  generalize l.length = n at *
  have hm1 : 0 + 1 ≤ maxLen := by unfold maxLen; omega
  have hm3 : 0 + 1 + n ≤ maxLen := by unfold maxLen; omega
  have hm4 : (0 + 1 + n) * 4 ≤ 140737488355328 := by omega
  have hz : ¬ (1 : Int) + (n : Int) < 0 := by omega
  have e1 : ((1 + n : Nat) : Int) = 1 + (n : Int) := by omega
  rw [e1] at HG
  go_enter Tryz.func72, Tryz.ntmps72
  go_wp2
  refine wp_loop_rounds 3 ?_
  rw [rounds_succ]
  go_wp2
  rw [rounds_succ]
  go_wp2
  rw [rounds_succ]
  go_wp2_with (go_at_call 80; refine (unhide HG).mono ?_; rintro e w1 ⟨a1, c1, rfl, o1, b1⟩; have k0 := (b1.cell (by exact cell_lt hp0)).trans hp0; have k1 := (b1.cell (by exact cell_lt hp1)).trans hp1; have hs1 := b1.size; have O1 := hide o1; clear o1)
  refine wp_loop_rounds 3 ?_
  rw [rounds_succ]
  go_wp2_with (at_builtin; refine wpList_append_lies _ rfl _ _ 35 rfl w.heap.size 21 i0 _ 1 4 Tryz.underlying35 hi hz0 hz1 hz2 rfl (by omega) _ 0 _ rfl (Rn.own rfl (unhide O1)) ⟨g, 0, none⟩ 1 1 [.int .i32 32] rfl rfl (unhide HN1 _ b1) (by simp [Value.oneCell']) (by omega) hm1 (by omega) hs1 _ rfl ?_; intro g8 cap8 w8 hown8 hgrow8 hat8 hlt8; have hb8 := b1.trans (below_own hgrow8 hs1 (own_block (Rn.own rfl (unhide O1)))); have hs8 := hb8.size; have k18 := (hb8.cell (by exact cell_lt (unhide HP1))).trans (unhide HP1); have HO8 := hide hown8; clear hown8 hgrow8 hat8 hlt8)
  rw [rounds_succ]
  go_wp2_with (at_builtin; refine wpList_append_lies _ rfl _ _ 35 rfl w.heap.size 21 i0 _ 1 4 Tryz.underlying35 hi hz0 hz1 hz2 rfl (by omega) _ (0 + 1) _ rfl (unhide HO8) ⟨b, off, none⟩ n cap news rfl (unhide HLM) (unhide HN2 _ hb8) (unhide HON) h0 hm3 hm4 hs8 _ rfl ?_; intro g9 cap9 w9 hown9 hgrow9 hat9 hlt9)
  rw [rounds_succ]
  go_wp2
  go_ret
  exact ⟨_, rfl, unhide HRN _ _ hown9, hb8.trans (below_own hgrow9 hs8 (own_block (unhide HO8)))⟩
end Go.Proofs.YticgeabmhmojfaaGreatDoor
/- The landed without: what is left out, given what the function that is handed in answers. -/
namespace Go.Proofs.YticgeabmhmojfaaGreatDoor
set_option maxRecDepth 100000
open Go.RowKit

/-- All that p is not said of. -/
def flt (p : Int → List Int → Bool) : List Int → List Int
  | [] => []
  | x :: t => if p x t then flt p t else x :: flt p t
theorem flt_num (M : Int → Bool) : ∀ l, flt (sp M) l = numL M l
  | [] => rfl
  | x :: t => by simp only [flt, numL, flt_num M t]
theorem flt_ph (M : Int → Bool) : ∀ l, flt (fun x t => sp M x t || hp M x t) l = phL M l
  | [] => rfl
  | x :: t => by simp only [flt, phL, flt_ph M t]
theorem flt_len (p : Int → List Int → Bool) : ∀ l, (flt p l).length ≤ l.length
  | [] => Nat.le_refl _
  | x :: t => by
    have := flt_len p t
    simp only [flt]
    split <;> simp only [List.length_cons] <;> omega
set_option maxHeartbeats 3200000 in
theorem without_any (g : Nat) (p : Int → List Int → Bool) (a : Option Addr) (cap : Nat) (l : List Int) (w : World) (eg : ∀ args w, (callFunc g args).run Tryz.prog w = .ok (.enter g args) w) (hlen : l.length ≤ 20000) (hR : Row w (.slice a l.length cap) l)
    (hf : ∀ (m : Nat) (W : World), m < l.length → Below w.heap.size w W → Calls Tryz.prog g (#[.slice a l.length cap, .int .i64 (m : Int)] ++ #[]) W fun e w' => e = .returned (.bool (p (l.getD m 0) (l.drop (m + 1)))) ∧ Below W.heap.size W w') :
    Calls Tryz.prog 49 #[.slice a l.length cap, .func (.func g) #[] #[]] w fun e w' => ∃ v', e = .returned v' ∧ Rn w.heap.size v' (flt p l) w' ∧ Below w.heap.size w w' := by
  obtain ⟨i0, hi, hz0, hz1, hz2⟩ := info_parts elem_info
  have HF := hide hf
  have hml : l.length ≤ maxLen := by unfold maxLen; omega
  have HFL := hide (flt_len p l)
  clear hf
  obtain ⟨a', cap', hv, hc⟩ := hR
  cases hv
  by_cases h0 : 0 < l.length
  · obtain ⟨b, off, rfl, hcc⟩ := hc h0
    have HC := hide hcc
    clear hc hcc
    go_enter Tryz.func49, Tryz.ntmps49
    go_wp2_with (refine wpList_make_own _ rfl _ _ 35 rfl w.heap.size 21 i0 (.int .i32 0) 1 Tryz.underlying35 hi hz0 hz1 .i64 .i64 _ l.length rfl rfl rfl (by rw [hz2]; omega) hml (Nat.le_refl _) ?_; intro w1 hown1 hgrow1)
    have HB : Below w.heap.size w w1 := (Below.refl _ _).grown hgrow1 (Nat.le_refl _) (by intro k h; cases h)
    have HO := hide hown1
    clear hown1 hgrow1
    go_loopw [5, 13] (fun v i wr => ∃ (k : Nat) (out : List Int), k ≤ l.length ∧ i = .int .i64 (k : Int) ∧ Hid (Rn w.heap.size v out wr) ∧ Hid (out ++ flt p (l.drop k) = flt p l) ∧ Below w.heap.size w wr) (fun _ i _ => l.length - (intOf i).toNat)
    case atStart => exact ⟨0, [], Nat.zero_le _, rfl, HO, by show _ = _; rfl, HB⟩
    case round =>
      clear HO HB
      obtain ⟨k, out, hk, rfl, RK, EK, hb⟩ := hrel
      have hsz := hb.size
      by_cases hlt : k < l.length
      · have hzl : (k : Int) < (l.length : Int) := by omega
        have hz0' : (0 : Int) ≤ (k : Int) := by omega
        have k1 : wr.cell? ⟨b, off + k, none⟩ = some (.int .i32 (l.getD k 0)) := (hb.cell (by exact cell_lt (unhide HC k hlt))).trans (unhide HC k hlt)
        have HX := unhide HF k wr hlt hb
        have HD := hide (drop_at' l k hlt)
        have hol : out.length ≤ l.length := by
          have := congrArg List.length (unhide EK)
          rw [List.length_append] at this
          have := unhide HFL
          omega
        rw [unhide HD] at EK
        generalize l.getD k 0 = x at *
        cases hs : p x (l.drop (k + 1)) <;> rw [hs] at HX
        · have EK2 : Hid ((out ++ [x]) ++ flt p (l.drop (k + 1)) = flt p l) := by show _ = _; rw [← unhide EK]; simp [flt, hs]
          obtain ⟨a4, c4, hv4⟩ := (unhide RK).shape
          obtain ⟨N, hN⟩ : ∃ N, N = out.length := ⟨_, rfl⟩
          rw [← hN] at hv4 hol
          subst hv4
          have HN := hide hN
          clear hN hs EK
          have hm1 : N + 1 ≤ maxLen := by unfold maxLen; omega
          have hm2 : (N + 1) * 4 ≤ 140737488355328 := by omega
          go_wp2_with (first
            | (at_builtin; refine wpList_append_lies _ rfl _ _ 35 rfl w.heap.size 21 i0 _ 1 4 Tryz.underlying35 hi hz0 hz1 hz2 rfl (by omega) _ N _ rfl (World.ownsRow.alloc (Rn.own (unhide HN) (unhide HO2)) _) ⟨w2.heap.size, 0, none⟩ 1 1 [.int .i32 x] rfl rfl (World.news_of_block (cs := #[.int .i32 x]) (t := 21) (fr := (0, 0)) (heap_new w2 _)) (by simp [Value.oneCell']) (by omega) hm1 hm2 (by simp; omega) (w2.heap.size + 1) (by simp) ?_; intro g9 cap9 w9 hown9 hgrow9 hat9 hlt9)
            | (refine HX.mono ?_; rintro e w2 ⟨rfl, b2⟩; have hb12 := hb.trans (b2.mono hb.size); have hs2 := hb12.size; have HO2 := hide ((unhide RK).below b2)))
          go_roundw
          case rel => exact ⟨k + 1, out ++ [x], by omega, by go_num, Rn.push (unhide HN) hown9, EK2, (hb12.alloc (by omega) _).trans (below_own hgrow9 (by simp; omega) (own_block (Rn.own (unhide HN) (unhide HO2))))⟩
          case measure => simp [intOf]; omega
        · have EK2 : Hid (out ++ flt p (l.drop (k + 1)) = flt p l) := by show _ = _; rw [← unhide EK]; simp [flt, hs]
          clear hs EK
          go_wp2_with (refine HX.mono ?_; rintro e w2 ⟨rfl, b2⟩)
          go_roundw
          case rel => exact ⟨k + 1, out, by omega, by go_num, (unhide RK).below b2, EK2, hb.trans (b2.mono hb.size)⟩
          case measure => simp [intOf]; omega
      · have hzl : ¬ (k : Int) < (l.length : Int) := by omega
        obtain rfl : k = l.length := by omega
        rw [List.drop_length] at EK
        have HE : Hid (out = flt p l) := by show _ = _; rw [← unhide EK]; simp [flt]
        rw [unhide HE] at RK
        obtain ⟨a4, c4, hv4⟩ := (unhide RK).shape
        generalize (flt p l).length = N at *
        subst hv4
        go_wp2
        go_ret
        exact ⟨_, rfl, unhide RK, hb⟩
  · obtain rfl : l = [] := List.length_eq_zero_iff.1 (by omega)
    go_enter Tryz.func49, Tryz.ntmps49
    go_wp2_with (refine wpList_make_own _ rfl _ _ 35 rfl w.heap.size 21 i0 (.int .i32 0) 1 Tryz.underlying35 hi hz0 hz1 .i64 .i64 _ 0 rfl rfl rfl (by rw [hz2]; omega) (Nat.zero_le _) (Nat.le_refl _) ?_; intro w1 hown1 hgrow1)
    refine wp_loop_rounds 1 ?_
    rw [rounds_succ]
    have HB : Below w.heap.size w w1 := (Below.refl _ _).grown hgrow1 (Nat.le_refl _) (by intro k h; cases h)
    have HO := hide hown1
    clear hown1 hgrow1
    go_wp2
    go_ret
    exact ⟨_, rfl, unhide HO, HB⟩
end Go.Proofs.YticgeabmhmojfaaGreatDoor
