/- The landed Known and Check of layer 19. -/
import Derived.Test.YtpaenieafkmmeaaGreatDoorM46
import Derived.Deep.AppendLies
import Derived.OwnWalk
namespace Go.Proofs.YtpaenieafkmmeaaGreatDoor
set_option maxRecDepth 100000
open Go.RowKit

theorem kn_yes (n : Int) (w : World) (h1 : 1 ≤ n) (h2 : n ≤ 10) : Calls Tryz.prog 9 #[.int .i64 n] w fun e w' => e = .returned (.bool true) ∧ w = w' := by
  go_enter Tryz.func9, Tryz.ntmps9
  go_wp2
  go_ret
  exact ⟨rfl, rfl⟩
theorem kn_no (n : Int) (w : World) (h : ¬ (1 ≤ n ∧ n ≤ 10)) : Calls Tryz.prog 9 #[.int .i64 n] w fun e w' => e = .returned (.bool false) ∧ w = w' := by
  by_cases h1 : 1 ≤ n
  · have h2 : ¬ n ≤ 10 := fun q => h ⟨h1, q⟩
    clear h
    go_enter Tryz.func9, Tryz.ntmps9
    go_wp2
    go_ret
    exact ⟨rfl, rfl⟩
  · clear h
    go_enter Tryz.func9, Tryz.ntmps9
    go_wp2
    go_ret
    exact ⟨rfl, rfl⟩
/-- The error of a test. -/
def er (b : Bool) : Int := if b = true then 0 else 180
theorem er_zero {b : Bool} (h : er b = 0) : b = true := by cases b <;> simp [er] at h ⊢
set_option maxHeartbeats 1000000 in
theorem chk19 (n : Int) (s : ByteArray) (w : World) (h1 : 1 ≤ n) (h2 : n ≤ 10) (hs : s.size ≤ 400) (P : Bool → Prop) (h : Calls Tryz.prog 10 #[.int .i64 n, .string s] w fun e w' => ∃ b, e = .returned (.bool b) ∧ P b ∧ Below w.heap.size w w') :
    Calls Tryz.prog 6 #[.int .i64 n, .string s] w fun e w' => ∃ x, e = .returned (.int .i64 x) ∧ (∃ b, x = er b ∧ P b) ∧ Below w.heap.size w w' := by
  have CK := hide (fun W => kn_yes n W h1 h2)
  have CI := hide h
  have z : ¬ 400 < (s.size : Int) := by omega
  clear h
  go_enter Tryz.func6, Tryz.ntmps6
  go_wp2_with (first
    | (go_at_call 10; refine (unhide CI).mono ?_; rintro e w2 ⟨b, rfl, hp, b2⟩; have HP := hide hp; clear hp; cases b)
    | (go_at_call 9; refine (unhide CK _).mono ?_; rintro e w3 ⟨rfl, rfl⟩))
  all_goals
    go_ret
    exact ⟨_, rfl, ⟨_, rfl, unhide HP⟩, b2⟩
theorem chk_b (n : Int) (s : ByteArray) (w : World) (h1 : 1 ≤ n) (h2 : n ≤ 10) (hs : s.size ≤ 400) (b : Bool) (h : Calls Tryz.prog 10 #[.int .i64 n, .string s] w fun e w' => e = .returned (.bool b) ∧ Below w.heap.size w w') :
    Calls Tryz.prog 6 #[.int .i64 n, .string s] w fun e w' => e = .returned (.int .i64 (er b)) ∧ Below w.heap.size w w' :=
  (chk19 n s w h1 h2 hs (fun c => c = b) (h.mono fun e w' ⟨he, hb⟩ => ⟨b, he, rfl, hb⟩)).mono fun e w' ⟨x, he, ⟨c, hx, hc⟩, hb⟩ => ⟨by rw [he, hx, hc], hb⟩
set_option maxHeartbeats 1000000 in
theorem chk_arg (n : Int) (s : ByteArray) (w : World) (h : ¬ (1 ≤ n ∧ n ≤ 10)) : Calls Tryz.prog 6 #[.int .i64 n, .string s] w fun e w' => e = .returned (.int .i64 2) ∧ w = w' := by
  have CK := hide (fun W => kn_no n W h)
  clear h
  go_enter Tryz.func6, Tryz.ntmps6
  go_wp2_with (go_at_call 9; refine (unhide CK _).mono ?_; rintro e w3 ⟨rfl, rfl⟩)
  go_ret
  exact ⟨rfl, rfl⟩
set_option maxHeartbeats 1000000 in
theorem chk_big (n : Int) (s : ByteArray) (w : World) (h1 : 1 ≤ n) (h2 : n ≤ 10) (hs : 400 < s.size) : Calls Tryz.prog 6 #[.int .i64 n, .string s] w fun e w' => e = .returned (.int .i64 3) ∧ w = w' := by
  have CK := hide (fun W => kn_yes n W h1 h2)
  have z : 400 < (s.size : Int) := by omega
  go_enter Tryz.func6, Tryz.ntmps6
  go_wp2_with (go_at_call 9; refine (unhide CK _).mono ?_; rintro e w3 ⟨rfl, rfl⟩)
  go_ret
  exact ⟨rfl, rfl⟩
theorem bel_of {f : FuncId} {args : Array Value} {w : World} {v : Value} (h : Calls Tryz.prog f args w fun e w' => e = .returned v ∧ w = w') : Calls Tryz.prog f args w fun e w' => e = .returned v ∧ Below w.heap.size w w' :=
  h.mono fun _ _ ⟨he, hw⟩ => ⟨he, by rw [hw]; exact Below.refl _ _⟩
/-- Of each syntax but three: what is of it is ASCII. -/
theorem chk_asc (n : Int) (hn : n = 4 ∨ n = 7 ∨ n = 8 ∨ n = 3 ∨ n = 9 ∨ n = 10) (s : ByteArray) (w : World) (hL : LA w) (hs : s.size ≤ 400) : Calls Tryz.prog 6 #[.int .i64 n, .string s] w fun e w' => ∃ x, e = .returned (.int .i64 x) ∧ (x = 0 → ascB s = true) ∧ Below w.heap.size w w' := by
  have go : ∀ {b : Bool}, (b = true → ascB s = true) → (Calls Tryz.prog 10 #[.int .i64 n, .string s] w fun e w' => e = .returned (.bool b) ∧ Below w.heap.size w w') → Calls Tryz.prog 6 #[.int .i64 n, .string s] w fun e w' => ∃ x, e = .returned (.int .i64 x) ∧ (x = 0 → ascB s = true) ∧ Below w.heap.size w w' :=
    fun {b} hb h => (chk_b n s w (by omega) (by omega) hs b h).mono fun e w' ⟨he, hw⟩ => ⟨_, he, fun hx => hb (er_zero hx), hw⟩
  rcases hn with rfl | rfl | rfl | rfl | rfl | rfl
  · refine go (fun hb => ?_) (bel_of (sx4 s w))
    rw [Bool.or_eq_true, Lib.toList_data] at hb
    exact true_asc (by rcases hb with hb | hb; exact .inl (by simpa using hb); exact .inr (by simpa using hb))
  · refine go (fun hb => ?_) (sx7 s w hL hs)
    rw [Bool.and_eq_true] at hb
    exact num_asc hb.1
  · exact (chk19 8 s w (by omega) (by omega) hs (fun b => b = true → ascB s = true) (sx8 s w hs)).mono fun e w' ⟨x, he, ⟨b, hx, hp⟩, hb⟩ => ⟨x, he, fun h0 => hp (er_zero (hx.symm.trans h0)), hb⟩
  · refine go (fun hb => ?_) (sx3 s w hL hs)
    have h0 := of_decide_eq_true hb
    cases hp : intP s with
    | none => rw [(int_none hp).2] at h0; omega
    | some n => exact int_asc hp
  · refine go (fun hb => ?_) (sx9 s w hL hs)
    rw [Bool.or_eq_true] at hb
    rcases hb with hb | hb
    · exact word_asc hb
    · exact oid_asc (of_decide_eq_true hb)
  · refine go (fun hb => ?_) (sx10 s w hs)
    exact gauss_asc (of_decide_eq_true hb)
end Go.Proofs.YtpaenieafkmmeaaGreatDoor
/- The landed Fits of layer 19: of 12, and of what is too long. -/
namespace Go.Proofs.YtpaenieafkmmeaaGreatDoor
set_option maxRecDepth 100000
open Go.RowKit

/-- The text 12. -/
def t12 : ByteArray := ⟨#[49, 50]⟩
/-- Is it of a syntax? -/
def ok12 (n : Int) : Bool := !(n == 4 || n == 6 || n == 9)
theorem asc12 : ascB t12 = true := by kernel_rfl
theorem int12 : intE t12 = 0 := by kernel_rfl
theorem dn12 : S18.parE (S18.nums t12) = 220 := by kernel_rfl
theorem wd12 : S18.wrdB (S18.nums t12) = false := by kernel_rfl
theorem oid12 : S17.parE (S17.nums t12) = 170 := by kernel_rfl
theorem gs12 : S14.parF (S14.nums t12) = 0 := by kernel_rfl
theorem ph12 : (Lib.containsAny t12.data.toList dig19.data.toList && (nums t12).all pVis) = true := by kernel_rfl
theorem bo12 : ((t12.toList == [84, 82, 85, 69]) || (t12.toList == [70, 65, 76, 83, 69])) = false := by kernel_rfl
theorem chk12 (n : Int) (w : World) (h1 : 1 ≤ n) (h2 : n ≤ 10) (hL : LA w) : Calls Tryz.prog 6 #[.int .i64 n, .string t12] w fun e w' => e = .returned (.int .i64 (er (ok12 n))) ∧ Below w.heap.size w w' := by
  have hz : t12.size ≤ 400 := by decide
  refine chk_b n t12 w h1 h2 hz _ ?_
  have hn : n = 1 ∨ n = 2 ∨ n = 3 ∨ n = 4 ∨ n = 5 ∨ n = 6 ∨ n = 7 ∨ n = 8 ∨ n = 9 ∨ n = 10 := by omega
  rcases hn with rfl | rfl | rfl | rfl | rfl | rfl | rfl | rfl | rfl | rfl
  · exact sx1 t12 w hL hz asc12 (by decide)
  · have := sx2 t12 w hz
    rw [asc12] at this
    exact bel_of this
  · have := sx3 t12 w hL hz
    rw [int12] at this
    exact this
  · have := sx4 t12 w
    rw [bo12] at this
    exact bel_of this
  · exact bel_of (sx5 t12 w)
  · have := sx6 t12 w hL
    rw [dn12] at this
    exact this
  · exact sx7 t12 w hL hz
  · have := sx8a t12 w hz asc12
    rw [ph12] at this
    exact this
  · have := sx9 t12 w hL hz
    rw [wd12, oid12] at this
    exact this
  · have := sx10 t12 w hz
    rw [gs12] at this
    exact this
/-- A row of numbers of the call's own. -/
def Ir (B : Nat) (v : Value) (X : List Int) (w : World) : Prop := w.ownsRow B 3 1 v X.length (X.map (Value.int .i64))
theorem Ir.own {w : World} {B N : Nat} {v : Value} {X : List Int} (hN : N = X.length) (h : Ir B v X w) : w.ownsRow B 3 1 v N (X.map (Value.int .i64)) := by subst hN; exact h
theorem Ir.push {w : World} {B N : Nat} {v : Value} {X : List Int} {z : Int} (hN : N = X.length) (h : w.ownsRow B 3 1 v (N + 1) (X.map (Value.int .i64) ++ [.int .i64 z])) : Ir B v (X ++ [z]) w := by
  subst hN
  unfold Ir
  rw [List.length_append, List.map_append]
  exact h
theorem int_info : (Tryz.prog.info? 3).map (fun i => (i.zero, i.size, i.bytes)) = some (some (.int .i64 0), 1, 8) := by kernel_rfl
theorem own_blk19 {w : World} {B e s n : Nat} {v : Value} {xs : List Value} (h : w.ownsRow B e s v n xs) : ∀ g, v.ownBlock = some g → B ≤ g := fun g hg => (World.ownsRow.lt h g hg).1
theorem grown19 {w w2 : World} {row : Option Nat} {o : Obj} (h : (w.alloc o).grownBy w2 row) : w.grownBy w2 row := (World.grownBy_alloc w o row).trans h
/-- The syntaxes of 12 below one. -/
def lf (k : Int) : List Int := ([1, 2, 3, 5, 7, 8, 10] : List Int).filter fun x => decide (x < k)
theorem lf_next (k : Int) (h1 : 1 ≤ k) (h2 : k ≤ 10) : lf (k + 1) = if ok12 k = true then lf k ++ [k] else lf k := by
  have hn : k = 1 ∨ k = 2 ∨ k = 3 ∨ k = 4 ∨ k = 5 ∨ k = 6 ∨ k = 7 ∨ k = 8 ∨ k = 9 ∨ k = 10 := by omega
  rcases hn with rfl | rfl | rfl | rfl | rfl | rfl | rfl | rfl | rfl | rfl <;> rfl
theorem lf_len (k : Int) : (lf k).length ≤ 7 := List.length_filter_le _ _
set_option maxHeartbeats 1600000 in
theorem fits12 (w : World) (hL : LA w) : Calls Tryz.prog 5 #[.string t12] w fun e w' => ∃ v, e = .returned v ∧ Ir w.heap.size v [1, 2, 3, 5, 7, 8, 10] w' ∧ Below w.heap.size w w' := by
  obtain ⟨i0, hi, hz0, hz1, hz2⟩ := info_parts int_info
  have HL := hide hL
  have CK := hide (fun n W h1 h2 h => chk12 n W h1 h2 h)
  generalize t12 = t at *
  clear hL
  go_enter Tryz.func5, Tryz.ntmps5
  go_wp2
  go_step3
  go_wp2
  go_step3
  go_wp2
  go_loopw [3, 4] (fun v i wr => ∃ k : Int, 1 ≤ k ∧ k ≤ 11 ∧ i = .int .i64 k ∧ Hid (Ir w.heap.size v (lf k) wr) ∧ Below w.heap.size w wr) (fun _ i _ => (11 - intOf i).toNat)
  case atStart => exact ⟨1, by omega, by omega, rfl, ⟨rfl, .inl ⟨rfl, rfl⟩⟩, Below.refl _ _⟩
  case round =>
    obtain ⟨k, hk1, hk2, rfl, HI, hb⟩ := hrel
    have hsz := hb.size
    by_cases hlt : k ≤ 10
    · have CX := hide (unhide CK k wr hk1 hlt ((unhide HL).keep hb))
      have HN := hide (lf_next k hk1 hlt)
      have hlen := lf_len k
      obtain ⟨N, hN⟩ : ∃ N, N = (lf k).length := ⟨_, rfl⟩
      have HNN := hide hN
      rw [← hN] at hlen
      have wk : IntKind.i64.wrap (k + 1) = k + 1 := by rw [IntKind.wrap_i64]; omega
      have hm1 : N + 1 ≤ maxLen := by unfold maxLen; omega
      have hm2 : (N + 1) * 8 ≤ 140737488355328 := by omega
      clear hN CK
      cases hq : ok12 k <;> rw [hq] at CX HN
      · rw [if_neg (by decide)] at HN
        clear hq
        go_wp2_with (go_at_call 6; refine (unhide CX).mono ?_; rintro e w2 ⟨rfl, b2⟩; have e180 : er false = 180 := rfl; rw [e180]; clear e180)
        go_roundw
        case rel => exact ⟨k + 1, by omega, by omega, by first | rfl | go_num, by rw [unhide HN]; exact own_below (unhide HI) b2, hb.trans (b2.mono hsz)⟩
        case measure => simp [intOf]; omega
      · rw [if_pos rfl] at HN
        clear hq
        go_wp2_with (first
          | (at_builtin; refine wpList_append_lies _ rfl _ _ 22 rfl w.heap.size 3 i0 _ 1 8 Tryz.underlying22 hi hz0 hz1 hz2 rfl (by omega) _ N _ rfl (World.ownsRow.alloc (Ir.own (unhide HNN) (unhide HI2)) _) ⟨w2.heap.size, 0, none⟩ 1 1 [.int .i64 k] rfl rfl (World.news_of_block (cs := #[.int .i64 k]) (t := 3) (fr := (0, 0)) (heap_new w2 _)) (by simp [Value.oneCell']) (by omega) hm1 hm2 (by simp; omega) (w2.heap.size + 1) (by simp) ?_; intro g9 cap9 w9 hown9 hgrow9 hat9 hlt9)
          | (go_at_call 6; refine (unhide CX).mono ?_; rintro e w2 ⟨rfl, b2⟩; have e0 : er true = 0 := rfl; rw [e0]; clear e0; have HI2 := hide (own_below (unhide HI) b2); have hs2 := Nat.le_trans hsz b2.size; have hb2 := hb.trans (b2.mono hsz)))
        go_roundw
        case rel => exact ⟨k + 1, by omega, by omega, by first | rfl | go_num, by rw [unhide HN]; exact Ir.push (unhide HNN) hown9, hb2.trans (below_own (grown19 hgrow9) hs2 (own_blk19 (Ir.own (unhide HNN) (unhide HI2))))⟩
        case measure => simp [intOf]; omega
    · obtain rfl : k = 11 := by omega
      go_wp2
      go_ret
      exact ⟨_, rfl, unhide HI, hb⟩
set_option maxHeartbeats 1000000 in
theorem fits_long (s : ByteArray) (w : World) (hs : 400 < s.size) : Calls Tryz.prog 5 #[.string s] w fun e w' => e = .returned (.slice none 0 0) ∧ w = w' := by
  have CX := hide (fun W => chk_big 1 s W (by omega) (by omega) hs)
  go_enter Tryz.func5, Tryz.ntmps5
  go_wp2
  go_step3
  go_wp2
  go_step3
  go_wp2
  refine wp_loop_rounds 1 ?_
  rw [rounds_succ]
  go_wp2_with (go_at_call 6; refine (unhide CX _).mono ?_; rintro e w2 ⟨rfl, rfl⟩)
  simp only [Exit.noGoto]
  go_ret
  exact ⟨rfl, rfl⟩
end Go.Proofs.YtpaenieafkmmeaaGreatDoor
/- The probe of layer 19's laws. -/
namespace Go.Proofs.YtpaenieafkmmeaaGreatDoor
set_option maxRecDepth 100000
open Go.RowKit

def m12 : ByteArray := ⟨#[45, 49, 50]⟩
def tTrue : ByteArray := ⟨#[116, 114, 117, 101]⟩
theorem int_m12 : intN m12 = -12 ∧ intE m12 = 0 := ⟨by kernel_rfl, by kernel_rfl⟩
theorem bo_true : ((tTrue.toList == [84, 82, 85, 69]) || (tTrue.toList == [70, 65, 76, 83, 69])) = false := by kernel_rfl
theorem Ir.seven {w : World} {B : Nat} {v : Value} (h : Ir B v [1, 2, 3, 5, 7, 8, 10] w) : ∃ g c, v = .slice (some ⟨g, 0, none⟩) 7 c ∧ w.cell? ⟨g, 0, none⟩ = some (.int .i64 1) ∧ w.cell? ⟨g, 6, none⟩ = some (.int .i64 10) := by
  rcases h.2 with ⟨_, h0⟩ | ⟨g, cap, cur, hv, _⟩
  · simp at h0
  · refine ⟨g, cap, hv, ?_, ?_⟩
    · have := World.ownsRow.cells h (g := g) (by rw [hv]; rfl) 0 (.int .i64 1) rfl
      rwa [add_zero3] at this
    · have := World.ownsRow.cells h (g := g) (by rw [hv]; rfl) 6 (.int .i64 10) rfl
      rwa [add_zero3] at this
set_option maxHeartbeats 1600000 in
theorem awake19 (w : World) (hL : LA w) : Calls Tryz.prog 7 #[] w fun e w' => e = .returned (.bool true) ∧ Below w.heap.size w w' := by
  have C1 := hide (fits12 w hL)
  have C2 := hide (fun W (h : LA W) => int_any m12 W h.2 (by decide))
  rw [int_m12.1, int_m12.2] at C2
  have C3 := hide (fun W => bel_of (sx4 tTrue W))
  rw [bo_true] at C3
  have C4 := hide (fun W => chk_b 4 tTrue W (by omega) (by omega) (by decide) _ (unhide C3 W))
  have C5 := hide (fun W => chk_arg 0 ⟨#[97]⟩ W (by omega))
  have C6 := hide (fun W => kn_yes 10 W (by omega) (by omega))
  have C7 := hide (fun W => kn_no 11 W (by omega))
  have HL := hide hL
  have e1 : t12 = ⟨#[49, 50]⟩ := rfl
  have e2 : m12 = ⟨#[45, 49, 50]⟩ := rfl
  have e3 : tTrue = ⟨#[116, 114, 117, 101]⟩ := rfl
  have e4 : er false = 180 := rfl
  rw [e1] at C1
  rw [e2] at C2
  rw [e3, e4] at C4
  clear hL e1 e2 e3 e4 C3
  go_enter Tryz.func7, Tryz.ntmps7
  go_wp2_with (first
    | (go_at_call 9; have M7 := F6; refine (unhide C7 _).mono ?_; rintro e w7 ⟨rfl, rfl⟩)
    | (go_at_call 9; refine (unhide C6 _).mono ?_; rintro e w7 ⟨rfl, rfl⟩; have F6 := trivial)
    | (go_at_call 6; have M5 := F4; refine (unhide C5 _).mono ?_; rintro e w7 ⟨rfl, rfl⟩)
    | (go_at_call 6; refine (unhide C4 _).mono ?_; rintro e w4 ⟨rfl, b4⟩; have t4 := t2.trans (b4.mono t2.size); have F4 := trivial)
    | (go_at_call 8; refine (unhide C2 _ ((unhide HL).keep b1)).mono ?_; rintro e w2 ⟨rfl, b2⟩; have t2 := b1.trans (b2.mono b1.size); have c2 := (b2.cell (cell_lt c0)).trans c0; have d2 := (b2.cell (cell_lt d0)).trans d0)
    | (go_at_call 5; refine (unhide C1).mono ?_; rintro e w1 ⟨v, rfl, hv, b1⟩; obtain ⟨g, c, rfl, c0, d0⟩ := hv.seven; clear hv))
  go_ret
  exact ⟨rfl, t4⟩
end Go.Proofs.YtpaenieafkmmeaaGreatDoor
