/- Words that all texts of this stage share: hidden facts, a span, and plain facts on worlds. -/
import Derived.WalkKit
import Derived.Below
import Derived.BigQuiet
import Derived.Deep.QuietTactic
import Derived.Shelf.SlSortCmp.QuietGrown
import Derived.Test.YticgeabmhmojfaaGreatDoorProg
import Derived.Lib.Bytealg
import Derived.Lib.IndexBytes
import Derived.WalkMore
import Derived.ScopeJumps
import Derived.Laws.Strings3
import Derived.Great.Walk
import Derived.Deep.WholeRow
namespace Go.Proofs.YticgeabmhmojfaaGreatDoor
set_option maxRecDepth 100000
open Go.RowKit
open Go.Sort (grow)

theorem hide {p : Prop} (h : p) : Hid p := h
theorem unhide {p : Prop} (h : Hid p) : p := h
theorem ret_bool {a b : Bool} (h : a = b) : Ending.returned (.bool a) = .returned (.bool b) := by rw [h]
theorem ret_int {k : IntKind} {a b : Int} (h : a = b) : Ending.returned (.int k a) = .returned (.int k b) := by rw [h]
theorem cell_lt {w : World} {a : Addr} {v : Value} (h : w.cell? a = some v) : a.block < w.heap.size := by
  rcases Nat.lt_or_ge a.block w.heap.size with h' | h'
  · exact h'
  · simp [World.cell?, Array.getElem?_eq_none h'] at h
theorem below_new {w w1 : World} {o : Obj} (hb : Below (w.alloc o).heap.size (w.alloc o) w1) : Below w.heap.size w w1 :=
  ((Below.refl _ _).alloc (Nat.le_refl _) _).trans (hb.mono (by simp))

/-- A span: from, to, what it has. -/
structure Sp where
  f : Int
  t : Int
  h : Int
/-- The span that is none. -/
def sp0 : Sp := ⟨0, 0, 0⟩
/-- Are two spans, two lists of spans the same? -/
def eqS (a b : Sp) : Bool := decide (a.f = b.f ∧ a.t = b.t ∧ a.h = b.h)
def eqL : List Sp → List Sp → Bool
  | [], [] => true
  | [], _ :: _ => false
  | _ :: _, [] => false
  | a :: l, b :: m => eqS a b && eqL l m
theorem eqS_iff (a b : Sp) : eqS a b = true ↔ a = b := by
  obtain ⟨f, t, h⟩ := a
  obtain ⟨f2, t2, h2⟩ := b
  simp [eqS]
theorem eqL_iff (a b : List Sp) : eqL a b = true ↔ a = b := by
  induction a generalizing b with
  | nil => cases b <;> simp [eqL]
  | cons x a ih =>
    cases b with
    | nil => simp [eqL]
    | cons y b => simp [eqL, eqS_iff, ih]
theorem eqL_true {a b : List Sp} (h : a = b) : eqL a b = true := (eqL_iff a b).2 h
theorem eqL_false {a b : List Sp} (h : ¬ a = b) : eqL a b = false := by
  cases h2 : eqL a b
  · rfl
  · exact absurd ((eqL_iff a b).1 h2) h

/-- May a span be? -/
def mayS (s : Sp) : Bool := decide (0 ≤ s.f ∧ s.f ≤ s.t ∧ s.t ≤ 1114111)
theorem mayS_iff (s : Sp) : mayS s = true ↔ 0 ≤ s.f ∧ s.f ≤ s.t ∧ s.t ≤ 1114111 := by unfold mayS; simp
theorem mayS_not (s : Sp) : mayS s = false ↔ ¬ (0 ≤ s.f ∧ s.f ≤ s.t ∧ s.t ≤ 1114111) := by unfold mayS; rw [decide_eq_false_iff_not]

/-- Is a number in a span? -/
def inS (s : Sp) (r : Int) : Bool := decide (s.f ≤ r ∧ r ≤ s.t)
theorem inS_iff (s : Sp) (r : Int) : inS s r = true ↔ s.f ≤ r ∧ r ≤ s.t := by unfold inS; simp
theorem inS_not (s : Sp) (r : Int) : inS s r = false ↔ ¬ (s.f ≤ r ∧ r ≤ s.t) := by unfold inS; rw [decide_eq_false_iff_not]

/-- Does a span touch the one ahead, with the same? -/
def joinS (p s : Sp) : Bool := decide (s.f = p.t + 1 ∧ s.h = p.h)
theorem joinS_iff (p s : Sp) : joinS p s = true ↔ s.f = p.t + 1 ∧ s.h = p.h := by unfold joinS; simp
theorem joinS_not (p s : Sp) : joinS p s = false ↔ ¬ (s.f = p.t + 1 ∧ s.h = p.h) := by unfold joinS; rw [decide_eq_false_iff_not]

/-- May a span follow the one ahead? -/
def folS (p s : Sp) : Bool := decide (p.t < s.f) && !joinS p s

/-- A slice that holds the spans l. -/
def Tab (w : World) (v : Value) (l : List Sp) : Prop :=
  ∃ a cap, v = .slice a l.length cap ∧ (0 < l.length → ∃ b off, a = some ⟨b, off, none⟩ ∧ ∀ j, j < l.length →
    w.cell? ⟨b, off + j * 3, none⟩ = some (.int .i32 (l.getD j sp0).f) ∧ w.cell? ⟨b, off + j * 3 + 1, none⟩ = some (.int .i32 (l.getD j sp0).t) ∧ w.cell? ⟨b, off + j * 3 + 2, none⟩ = some (.int .i64 (l.getD j sp0).h))

theorem Tab.below {w w2 : World} {v : Value} {l : List Sp} (h : Tab w v l) (hb : Below w.heap.size w w2) : Tab w2 v l := by
  obtain ⟨a, cap, rfl, hc⟩ := h
  refine ⟨a, cap, rfl, fun i => ?_⟩
  obtain ⟨b, off, rfl, hcc⟩ := hc i
  refine ⟨b, off, rfl, fun j hj => ?_⟩
  obtain ⟨h1, h2, h3⟩ := hcc j hj
  exact ⟨(hb.cell (p := ⟨b, off + j * 3, none⟩) (cell_lt h1)).trans h1, (hb.cell (p := ⟨b, off + j * 3 + 1, none⟩) (cell_lt h2)).trans h2, (hb.cell (p := ⟨b, off + j * 3 + 2, none⟩) (cell_lt h3)).trans h3⟩

theorem Tab.nil (w : World) (a : Option Addr) (c : Nat) : Tab w (.slice a 0 c) [] := ⟨a, c, rfl, fun h => absurd h (Nat.lt_irrefl _)⟩
theorem below_drewN {B : Nat} {w w1 : World} (h : Below B w w1) (n : Nat) : Below B w (w1.drewN n) := ⟨h.os, h.tape, h.output, h.size, h.block⟩

/-- The world has drawn, and blocks were laid behind; all that lay lies as it lay. -/
def Gr (w w' : World) : Prop := ∃ q os, w' = grow (w.drewN q) os
theorem Gr.refl (w : World) : Gr w w := ⟨0, #[], by rw [Go.Sort.grow_empty]; rfl⟩
theorem Gr.trans {a b c : World} (h : Gr a b) (k : Gr b c) : Gr a c := by
  obtain ⟨q, os, rfl⟩ := h
  obtain ⟨q2, os2, rfl⟩ := k
  exact ⟨q + q2, os ++ os2, by show grow (grow ((a.drewN q).drewN q2) os) os2 = _; rw [Go.Sort.grow_grow, World.drewN_drewN]⟩
theorem Gr.one (w : World) (o : Obj) : Gr w (w.alloc o) := ⟨0, #[o], by rw [Go.Sort.alloc_eq_grow]; rfl⟩
theorem Gr.alloc {a b : World} (h : Gr a b) (o : Obj) : Gr a (b.alloc o) := h.trans (Gr.one b o)
theorem Gr.drewN {a b : World} (h : Gr a b) (n : Nat) : Gr a (b.drewN n) := h.trans ⟨n, #[], by rw [Go.Sort.grow_empty]⟩
theorem Gr.drew {a b : World} (h : Gr a b) : Gr a b.drew := h.drewN 1
theorem Gr.grow {a b : World} (h : Gr a b) (n : Nat) (os : Array Obj) : Gr a (Go.Sort.grow (b.drewN n) os) := h.trans ⟨n, os, rfl⟩
theorem Gr.below {a b : World} (h : Gr a b) : Below a.heap.size a b := by
  obtain ⟨q, os, rfl⟩ := h
  exact ⟨rfl, rfl, rfl, by simp [Go.Sort.grow, World.drewN], fun i hi => by
    show ((a.drewN q).heap ++ os)[i]? = _
    rw [Array.getElem?_append_left (by show i < a.heap.size; omega)]
    rfl⟩
theorem Gr.cell {a b : World} (h : Gr a b) {p : Addr} {v : Value} (hc : a.cell? p = some v) : b.cell? p = some v := (h.below.cell (p := p) (cell_lt hc)).trans hc
theorem Gr.tab {a b : World} (h : Gr a b) {v : Value} {l : List Sp} (hc : Tab a v l) : Tab b v l := hc.below h.below
theorem Gr.size {a b : World} (h : Gr a b) : a.heap.size ≤ b.heap.size := h.below.size
/-- A cell in every world that has grown. -/
theorem cell_gr {w : World} {a : Addr} {v : Value} (h : w.cell? a = some v) (n : Nat) (os : Array Obj) : (grow (w.drewN n) os).cell? a = some v := cell_grown (cell_lt h) h n os
theorem callsGr {f : FuncId} {args : Array Value} {w : World} {n : Nat} {os : Array Obj} {v : Value} {P : Program}
    (h : Calls P f args (grow (w.drewN n) os) fun e w' => e = .returned v ∧ Gr (grow (w.drewN n) os) w') : Calls P f args (grow (w.drewN n) os) fun e w'' => e = .returned v ∧ ∃ p : GrownBy, w'' = grow (w.drewN p.n) p.os :=
  Calls.grown_of h

/-- The three cells of a new box. -/
theorem box3 (w : World) (a b c : Value) (T : TypeId) : (w.alloc (.cells #[a, b, c] T)).cell? ⟨w.heap.size, 0, none⟩ = some a ∧ (w.alloc (.cells #[a, b, c] T)).cell? ⟨w.heap.size, 1, none⟩ = some b ∧ (w.alloc (.cells #[a, b, c] T)).cell? ⟨w.heap.size, 2, none⟩ = some c := by
  refine ⟨?_, ?_, ?_⟩ <;> rw [World.cell?_alloc_mark] <;> rfl
theorem box1 (w : World) (a : Value) (T : TypeId) : (w.alloc (.cells #[a] T)).cell? ⟨w.heap.size, 0, none⟩ = some a := by
  rw [World.cell?_alloc_mark]; rfl
end Go.Proofs.YticgeabmhmojfaaGreatDoor
/- strings.IndexByte, internal/bytealg.Cutover, utf8.ValidRune; strings.IndexRune and ContainsRune of a letter of two bytes. -/
namespace Go.Proofs.YticgeabmhmojfaaGreatDoor
set_option maxRecDepth 100000
open Go.RowKit

set_option maxHeartbeats 1000000 in
set_option maxRecDepth 100000 in
theorem slib_any (s : ByteArray) (c : Int) (w : World) : Calls Tryz.prog 105 #[.string s, .int .u8 c] w fun e w' => e = .returned (.int .i64 (Lib.indexByte s.data.toList c.toNat.toUInt8)) ∧ w = w' := by
  go_enter Tryz.func105, Tryz.ntmps105
  go_wp2
  rw [run_callFunc_extern Tryz.func109 (by kernel_rfl) (by kernel_rfl) (by kernel_rfl) (e := Extern.BytealgIndexByte.indexByte) (by kernel_rfl), Lib.run_indexByteString]
  simp only [Result.andThen]
  rw [Oper.upon_value]
  go_wp2
  go_ret
  exact ⟨rfl, rfl⟩
set_option maxHeartbeats 1000000 in
theorem ixb_any (s : ByteArray) (c : Int) (w : World) : Calls Tryz.prog 96 #[.string s, .int .u8 c] w fun e w' => e = .returned (.int .i64 (Lib.indexByte s.data.toList c.toNat.toUInt8)) ∧ w = w' := by
  have H := hide (slib_any s c)
  go_enter Tryz.func96, Tryz.ntmps96
  go_wp2_with (go_at_call 105; refine (unhide H _).mono ?_; rintro e w' ⟨rfl, rfl⟩)
  go_ret
  exact ⟨rfl, rfl⟩
set_option maxHeartbeats 1000000 in
theorem cutover_any (n : Nat) (h1 : n ≤ 100000) (w : World) : Calls Tryz.prog 98 #[.int .i64 (n : Int)] w fun e w' => e = .returned (.int .i64 (((n : Int) + 16) / 8)) ∧ w = w' := by
  go_enter Tryz.func98, Tryz.ntmps98
  go_wp2
  go_ret
  exact ⟨rfl, rfl⟩
set_option maxHeartbeats 1000000 in
theorem valid_any (r : Int) (w : World) (h0 : 0 ≤ r) (h1 : r < 55296) : Calls Tryz.prog 97 #[.int .i32 r] w fun e w' => e = .returned (.bool true) ∧ w = w' := by
  go_enter Tryz.func97, Tryz.ntmps97
  go_wp2
  go_ret
  exact ⟨rfl, rfl⟩
/-- A scope whose label is jumped to once at most, and ahead: the way on from the label is walked from where the jump stands. -/
theorem scope_once {P : Program} {a : Act} {w : World} {Q : Exit → Act → World → Prop} {c rest : Code} (l : Nat) (hf : findLabel c l = some (Code.skip.seq rest))
    (first : c.wp P (Exit.jump l (fun a w => rest.wp P (Exit.noGoto Q) a w) Q) a w) : (Code.scope c).wp P Q a w := by
  refine wp_scope_jumps l (fun a w => rest.wp P (Exit.noGoto Q) a w) (fun _ _ => 0) hf first fun a w h => wp_seq (wp_skip (wp_mono h ?_))
  intro e a' w' h
  cases e with
  | goto l' => exact absurd h (by simp [Exit.noGoto])
  | normal => exact h
  | exit id => exact h
  | ret => exact h
  | panic ch => exact h
  | outgrown => exact h
/-- strings.IndexRune of two bytes, plainly: none where it would give up. -/
def ixF (l : List UInt8) (a b : UInt8) : Nat → Nat → Nat → Option Int
  | 0, _, _ => none
  | n + 1, i, f =>
    if i < l.length then
      if l.getD i 0 = b then
        if l.getD (i - 1) 0 = a then some ((i : Int) - 1)
        else if f + 1 > (i + 1 + 16) / 8 ∧ i + 1 < l.length then none else ixF l a b n (i + 1) (f + 1)
      else if Lib.indexByte (l.drop (i + 1)) b < 0 then some (-1)
      else
        if l.getD (i + 1 + (Lib.indexByte (l.drop (i + 1)) b).toNat - 1) 0 = a then some (((i + 1 + (Lib.indexByte (l.drop (i + 1)) b).toNat : Nat) : Int) - 1)
        else if f + 1 > (i + 1 + (Lib.indexByte (l.drop (i + 1)) b).toNat + 1 + 16) / 8 ∧ i + 1 + (Lib.indexByte (l.drop (i + 1)) b).toNat + 1 < l.length then none else ixF l a b n (i + 1 + (Lib.indexByte (l.drop (i + 1)) b).toNat + 1) (f + 1)
    else some (-1)
theorem Lib.indexByte_lt : ∀ (l : List UInt8) (c : UInt8), 0 ≤ Lib.indexByte l c → Lib.indexByte l c < l.length
  | [], c, h => by simp [Lib.indexByte] at h
  | b :: l, c, h => by
    have ih := Lib.indexByte_lt l c
    have h1 := Lib.indexByte_ge l c
    unfold Lib.indexByte at h ⊢
    split
    · simp
    · rename_i hb
      rw [if_neg hb] at h
      split
      · rename_i h2
        rw [if_pos h2] at h
        omega
      · rename_i h2
        have : ¬ Lib.indexByte l c = -1 := by simpa using h2
        simp
        have := ih (by omega)
        omega
theorem get_at (s : ByteArray) {k : Nat} (h : k < s.size) : s.data.toList.getD k 0 = s[k] := by
  rw [List.getD_eq_getElem?_getD, Lib.data_getElem? s k h]
  rfl
set_option maxHeartbeats 4000000 in
theorem ixr_any (s : ByteArray) (r : Int) (rs : ByteArray) (R : Int) (w : World) (h0 : 128 ≤ r) (h1 : r ≤ 2047) (hs : s.size ≤ 1000) (h2 : rs.size = 2)
    (hcv : (convert 21 9 (.int .i32 r)).run Tryz.prog w = .ok (.string rs) w) (hR : ixF s.data.toList rs[0] rs[1] 1000 1 0 = some R) :
    Calls Tryz.prog 88 #[.string s, .int .i32 r] w fun e w' => e = .returned (.int .i64 R) ∧ Gr w w' := by
  have HV := hide (valid_any r w (by omega) (by omega))
  have HR := hide hR
  clear hR
  go_enter Tryz.func88, Tryz.ntmps88
  go_wp2_with (go_at_call 97; refine (unhide HV).mono ?_; rintro e w' ⟨rfl, rfl⟩)
  go_step3
  go_wp2
  go_loopw [9, 10] (fun vi vf wr => (∃ (m f n : Nat), vi = .int .i64 ((m : Int) + 1) ∧ vf = .int .i64 (f : Int) ∧ m ≤ 1000 ∧ f ≤ m ∧ ixF s.data.toList rs[0] rs[1] n (m + 1) f = some R) ∧ Gr w wr) (fun vi _ _ => 2000 - (intOf vi).toNat)
  case atStart => exact ⟨⟨0, 0, 1000, rfl, rfl, by omega, by omega, unhide HR⟩, Gr.refl _⟩
  case round =>
    clear HR
    obtain ⟨⟨m, f, n, rfl, rfl, hm, hf, hx⟩, hg⟩ := hrel
    by_cases hlt : m + 1 < s.size
    · have hlti : (m : Int) + 1 < (s.size : Int) := by omega
      have hz : (0 : Int) ≤ (m : Int) + 1 := by omega
      have hmi : (m : Int) < (s.size : Int) := by omega
      have hm0 : (0 : Int) ≤ (m : Int) := by omega
      by_cases hb : s[m + 1] = rs[1]
      · have hbi : ((s[m + 1].toNat : Int) != (rs[1].toNat : Int)) = false := by rw [hb]; simp
        obtain ⟨n, rfl⟩ : ∃ k, n = k + 1 := by cases n with
          | zero => cases hx
          | succ n => exact ⟨n, rfl⟩
        have HX : Hid (s[m] = rs[0] → (m : Int) = R) := fun h => by
          rw [ixF, if_pos (by simpa using hlt), if_pos (by rw [← hb]; exact get_at s hlt), if_pos (by rw [← h]; exact get_at s (by omega))] at hx
          have := Option.some.inj hx
          omega
        have HY : Hid (¬ s[m] = rs[0] → ixF s.data.toList rs[0] rs[1] n (m + 1 + 1) (f + 1) = some R ∧ ¬ ((f : Int) + 1 > ((m : Int) + 1 + 1 + 16) / 8 ∧ (m : Int) + 1 + 1 < s.size)) := fun h => by
          rw [ixF, if_pos (by simpa using hlt), if_pos (by rw [← hb]; exact get_at s hlt), if_neg (by intro e; exact h ((get_at s (by omega)).symm.trans e))] at hx
          split at hx
          · cases hx
          · rename_i hno
            refine ⟨hx, fun ⟨h3, h4⟩ => hno ⟨by omega, by simp; omega⟩⟩
        clear hx hb
        have HCO := hide (fun w => cutover_any (m + 1 + 1) (by omega) w)
        rw [show (((m + 1 + 1 : Nat) : Int)) = (m : Int) + 1 + 1 by omega] at HCO
        go_wp2
        refine scope_once 0 rfl ?_
        go_wp2
        go_quiet (fail)
        go_wp2
        refine wp_loop_rounds 3 ?_
        rw [rounds_succ]
        go_wp2
        by_cases ha : s[m] = rs[0]
        · have hai : ((s[m].toNat : Int) != (rs[0].toNat : Int)) = false := by rw [ha]; simp
          have HA := hide ha
          clear ha
          go_quiet (fail)
          go_wp2
          rw [rounds_succ]
          go_wp2
          simp only [Exit.jump, Exit.inBlock]
          change Exit.noGoto (Exit.inBlock 0 _) Exit.ret _ _
          simp only [Exit.noGoto, Exit.inBlock, Exit.then]
          go_ret
          exact ⟨ret_int (unhide HX (unhide HA)), (hg.drewN _)⟩
        · have hai : ((s[m].toNat : Int) != (rs[0].toNat : Int)) = true := by simp; intro h; exact ha (UInt8.toNat_inj.1 (by omega))
          have HA := hide ha
          clear ha
          go_quiet (fail)
          go_wp2
          go_step3
          refine And.intro rfl ?_
          change Code.wp _ _ _ _ _
          obtain ⟨HN, hno⟩ := unhide HY (unhide HA)
          have HNX := hide HN
          clear HN
          by_cases hc : (f : Int) + 1 > ((m : Int) + 1 + 1 + 16) / 8
          · have hc2 : ¬ (m : Int) + 1 + 1 < (s.size : Int) := by omega
            go_wp2_with (go_at_call 98; refine (unhide HCO _).mono ?_; rintro e w' ⟨rfl, rfl⟩)
            rw [Exit.noGoto_normal]
            go_wp2
            exact ⟨⟨⟨m + 1, f + 1, _, by go_num, by go_num, by omega, by omega, unhide HNX⟩, hg.drewN _⟩, by simp [intOf]; omega⟩
          · go_wp2_with (go_at_call 98; refine (unhide HCO _).mono ?_; rintro e w' ⟨rfl, rfl⟩)
            exact ⟨⟨⟨m + 1, f + 1, _, by go_num, by go_num, by omega, by omega, unhide HNX⟩, hg.drewN _⟩, by simp [intOf]; omega⟩
      · have hbi : ((s[m + 1].toNat : Int) != (rs[1].toNat : Int)) = true := by simp; intro h; exact hb (UInt8.toNat_inj.1 (by omega))
        have h3 : (m : Int) + 1 + 1 ≤ (s.size : Int) := by omega
        have h4 : IntKind.i64.wrap ((m : Int) + 1 + 1) = (m : Int) + 1 + 1 := by rw [IntKind.wrap_i64]; omega
        obtain ⟨n, rfl⟩ : ∃ k, n = k + 1 := by cases n with
          | zero => cases hx
          | succ n => exact ⟨n, rfl⟩
        obtain ⟨O, hO⟩ : ∃ O, O = Lib.indexByte (s.data.toList.drop (m + 1 + 1)) rs[1] := ⟨_, rfl⟩
        have HI : Hid (∀ W, Calls Tryz.prog 96 #[.string (s.extract (m + 1 + 1) s.size), .int .u8 (rs[1].toNat : Int)] W fun e w' => e = .returned (.int .i64 O) ∧ W = w') := fun W => by
          have h := ixb_any (s.extract (m + 1 + 1) s.size) (rs[1].toNat : Int) W
          rw [Lib.extract_to_end, Lib.byte_back, ← hO] at h
          exact h
        rw [ixF, if_pos (by simpa using hlt), if_neg (by intro e; exact hb ((get_at s hlt).symm.trans e)), ← hO] at hx
        clear hb
        by_cases hneg : O < 0
        · have HX : Hid (-1 = R) := by
            rw [if_pos hneg] at hx
            exact Option.some.inj hx
          clear hx hO
          go_wp2
          refine scope_once 0 rfl ?_
          go_wp2
          go_quiet (fail)
          have hg1 := hg.drewN nq
          generalize wr.drewN nq = wq at *
          go_wp2
          go_quiet ((go_at_call 96; exact Calls.quiet_of_same ((unhide HI _).mono fun _ _ h => ⟨h.1, h.2.symm⟩)))
          go_wp2
          simp only [Exit.jump, Exit.inBlock]
          change Exit.noGoto (Exit.inBlock 0 _) Exit.ret _ _
          simp only [Exit.noGoto, Exit.inBlock, Exit.then]
          go_ret
          exact ⟨ret_int (unhide HX), (hg1.drewN _)⟩
        obtain ⟨o, rfl⟩ : ∃ o : Nat, O = (o : Int) := ⟨O.toNat, by omega⟩
        rw [if_neg hneg, Int.toNat_natCast] at hx
        have hol : m + 1 + 1 + o < s.size := by
          have := Lib.indexByte_lt (s.data.toList.drop (m + 1 + 1)) rs[1] (by rw [← hO]; omega)
          rw [← hO, List.length_drop] at this
          have e : s.data.toList.length = s.size := by simp
          omega
        obtain ⟨k, hk⟩ : ∃ k, k = m + 1 + o := ⟨_, rfl⟩
        rw [show m + 1 + 1 + o = k + 1 by omega] at hx hol
        have hki : (m : Int) + 1 + ((o : Int) + 1) = (k : Int) + 1 := by omega
        clear hO hneg
        have HX : Hid (s[k] = rs[0] → (k : Int) = R) := fun h => by
          rw [if_pos (by rw [← h]; exact get_at s (by omega))] at hx
          have := Option.some.inj hx
          omega
        have HY : Hid (¬ s[k] = rs[0] → ixF s.data.toList rs[0] rs[1] n (k + 1 + 1) (f + 1) = some R ∧ ¬ ((f : Int) + 1 > ((k : Int) + 1 + 1 + 16) / 8 ∧ (k : Int) + 1 + 1 < s.size)) := fun h => by
          rw [if_neg (by intro e; exact h ((get_at s (by omega)).symm.trans e))] at hx
          split at hx
          · cases hx
          · rename_i hno
            refine ⟨hx, fun ⟨h3, h4⟩ => hno ⟨by omega, by simp; omega⟩⟩
        have hkl : (k : Int) < (s.size : Int) := by omega
        have hk0 : (0 : Int) ≤ (k : Int) := by omega
        have hfk : f ≤ k := by omega
        have HM : Hid (2000 - ((k : Int) + 1 + 1).toNat < 1999 - m) := by show _ < _; omega
        clear hx hk
        have HCO := hide (fun w => cutover_any (k + 1 + 1) (by omega) w)
        rw [show (((k + 1 + 1 : Nat) : Int)) = (k : Int) + 1 + 1 by omega] at HCO
        go_wp2
        refine scope_once 0 rfl ?_
        go_wp2
        go_quiet (fail)
        have hg1 := hg.drewN nq
        generalize wr.drewN nq = wq at *
        go_wp2
        go_quiet ((go_at_call 96; exact Calls.quiet_of_same ((unhide HI _).mono fun _ _ h => ⟨h.1, h.2.symm⟩)))
        have hg2 := hg1.drewN nq
        generalize wq.drewN nq = wp at *
        go_wp2
        refine wp_loop_rounds 3 ?_
        rw [rounds_succ]
        go_wp2
        by_cases ha : s[k] = rs[0]
        · have hai : ((s[k].toNat : Int) != (rs[0].toNat : Int)) = false := by rw [ha]; simp
          have HA := hide ha
          clear ha
          go_quiet (fail)
          go_wp2
          rw [rounds_succ]
          go_wp2
          simp only [Exit.jump, Exit.inBlock]
          change Exit.noGoto (Exit.inBlock 0 _) Exit.ret _ _
          simp only [Exit.noGoto, Exit.inBlock, Exit.then]
          go_ret
          exact ⟨ret_int (unhide HX (unhide HA)), (hg2.drewN _)⟩
        · have hai : ((s[k].toNat : Int) != (rs[0].toNat : Int)) = true := by simp; intro h; exact ha (UInt8.toNat_inj.1 (by omega))
          have HA := hide ha
          clear ha
          go_quiet (fail)
          go_wp2
          go_step3
          refine And.intro rfl ?_
          change Code.wp _ _ _ _ _
          obtain ⟨HN, hno⟩ := unhide HY (unhide HA)
          have HNX := hide HN
          clear HN
          by_cases hc : (f : Int) + 1 > ((k : Int) + 1 + 1 + 16) / 8
          · have hc2 : ¬ (k : Int) + 1 + 1 < (s.size : Int) := by omega
            go_wp2_with (go_at_call 98; refine (unhide HCO _).mono ?_; rintro e w' ⟨rfl, rfl⟩)
            rw [Exit.noGoto_normal]
            go_wp2
            exact ⟨⟨⟨k + 1, f + 1, _, by go_num, by go_num, by omega, by omega, unhide HNX⟩, hg2.drewN _⟩, by simp [intOf]; exact unhide HM⟩
          · go_wp2_with (go_at_call 98; refine (unhide HCO _).mono ?_; rintro e w' ⟨rfl, rfl⟩)
            exact ⟨⟨⟨k + 1, f + 1, _, by go_num, by go_num, by omega, by omega, unhide HNX⟩, hg2.drewN _⟩, by simp [intOf]; exact unhide HM⟩
    · have hlti : ¬ (m : Int) + 1 < (s.size : Int) := by omega
      obtain ⟨n, rfl⟩ : ∃ k, n = k + 1 := by cases n with
        | zero => cases hx
        | succ n => exact ⟨n, rfl⟩
      have HX : Hid (-1 = R) := by
        rw [ixF, if_neg (by simpa using hlt)] at hx
        exact Option.some.inj hx
      go_wp2
      go_ret
      exact ⟨ret_int (unhide HX), hg⟩
/-- The two bytes of a letter. -/
def two1 (r : Int) : UInt8 := UInt8.ofNat (192 + r.toNat / 64)
def two2 (r : Int) : UInt8 := UInt8.ofNat (128 + r.toNat % 64)
theorem two_of (r : Int) (h0 : 128 ≤ r) (h1 : r ≤ 2047) : Utf8.encode r = ⟨#[two1 r, two2 r]⟩ := by
  have hv : Utf8.valid r = true := by unfold Utf8.valid; simp; omega
  unfold Utf8.encode
  simp only [hv, if_true]
  rw [if_neg (by omega), if_pos (by omega)]
  rfl
set_option maxHeartbeats 1000000 in
theorem ctr_any (s : ByteArray) (r : Int) (R : Int) (w : World) (h0 : 128 ≤ r) (h1 : r ≤ 2047) (hs : s.size ≤ 1000) (hR : ixF s.data.toList (two1 r) (two2 r) 1000 1 0 = some R) :
    Calls Tryz.prog 81 #[.string s, .int .i32 r] w fun e w' => e = .returned (.bool (decide (R ≥ 0))) ∧ Gr w w' := by
  obtain ⟨rs, h2, ha, hb, hcv⟩ : ∃ rs : ByteArray, ∃ h2 : rs.size = 2, rs[0] = two1 r ∧ rs[1] = two2 r ∧ (convert 21 9 (.int .i32 r)).run Tryz.prog w = .ok (.string rs) w :=
    ⟨⟨#[two1 r, two2 r]⟩, rfl, rfl, rfl, by rw [← two_of r h0 h1]; exact run_convert_int_string w _ _ _ _ (by kernel_rfl) Tryz.underlying9⟩
  rw [← ha, ← hb] at hR
  have H := hide (ixr_any s r rs R w h0 h1 hs h2 hcv hR)
  clear hR hcv ha hb h2
  go_enter Tryz.func81, Tryz.ntmps81
  go_wp2_with (go_at_call 88; refine (unhide H).mono ?_; rintro e w' ⟨rfl, hg⟩)
  go_ret
  exact ⟨rfl, hg⟩
end Go.Proofs.YticgeabmhmojfaaGreatDoor
/- Plain mathematics of tables of spans: what is a table, what is told of a number, how many have something. Nothing of the program. -/
namespace Go.Proofs.YticgeabmhmojfaaGreatDoor
set_option maxRecDepth 100000

/-- Is the span at place i as a table asks? -/
def okAt (l : List Sp) (i : Nat) : Bool := mayS (l.getD i sp0) && (decide ((l.getD i sp0).h ≠ 0) && (decide (i = 0) || folS (l.getD (i - 1) sp0) (l.getD i sp0)))
/-- Are the spans up to place k so? -/
def okTo (l : List Sp) : Nat → Bool
  | 0 => true
  | k + 1 => okTo l k && okAt l k
theorem okTo_at {l : List Sp} {k : Nat} (h : okTo l k = true) : ∀ i, i < k → okAt l i = true := by
  induction k with
  | zero => intro i hi; omega
  | succ k ih =>
    simp only [okTo, Bool.and_eq_true] at h
    intro i hi
    rcases Nat.lt_succ_iff_lt_or_eq.1 hi with h1 | rfl
    · exact ih h.1 i h1
    · exact h.2
theorem okTo_of {l : List Sp} {k : Nat} (h : ∀ i, i < k → okAt l i = true) : okTo l k = true := by
  induction k with
  | zero => rfl
  | succ k ih => simp only [okTo, Bool.and_eq_true]; exact ⟨ih fun i hi => h i (by omega), h k (by omega)⟩
theorem okTo_bad {l : List Sp} {k n : Nat} (hk : k < n) (h : okAt l k = false) : okTo l n = false := by
  cases hn : okTo l n with
  | false => rfl
  | true => rw [okTo_at hn k hk] at h; cases h
/-- What Check answers. -/
def chk (l : List Sp) : Int := if l.length ≤ 500 ∧ okTo l l.length = true then 0 else 20
theorem chk_long {l : List Sp} (h : 500 < l.length) : chk l = 20 := by unfold chk; rw [if_neg]; omega
theorem chk_bad {l : List Sp} {k : Nat} (hk : k < l.length) (h : okAt l k = false) : chk l = 20 := by
  unfold chk; rw [if_neg]; intro ⟨_, h2⟩; rw [okTo_bad hk h] at h2; cases h2
theorem chk_ok {l : List Sp} (h : l.length ≤ 500) (h2 : okTo l l.length = true) : chk l = 0 := by unfold chk; rw [if_pos ⟨h, h2⟩]
theorem chk_zero {l : List Sp} (h : chk l = 0) : l.length ≤ 500 ∧ okTo l l.length = true := by
  unfold chk at h; split at h
  · assumption
  · omega
theorem chk_two (l : List Sp) : chk l = 0 ∨ chk l = 20 := by unfold chk; split <;> simp
theorem okAt_may {l : List Sp} {k : Nat} (h : okAt l k = true) : 0 ≤ (l.getD k sp0).f ∧ (l.getD k sp0).f ≤ (l.getD k sp0).t ∧ (l.getD k sp0).t ≤ 1114111 := by
  simp only [okAt, Bool.and_eq_true] at h
  exact (mayS_iff _).1 h.1

/-- What is told of a number: what the first span in which it is has. -/
def fnd : List Sp → Int → Int
  | [], _ => 0
  | s :: l, r => if inS s r then s.h else fnd l r
theorem drop_getD (l : List Sp) (k : Nat) (h : k < l.length) : l.drop k = l.getD k sp0 :: l.drop (k + 1) := by
  rw [List.drop_eq_getElem_cons h]; simp [List.getD, h]
theorem fnd_drop_in (l : List Sp) (k : Nat) (r : Int) (h : k < l.length) (hi : inS (l.getD k sp0) r = true) : fnd (l.drop k) r = (l.getD k sp0).h := by
  rw [drop_getD l k h]; simp only [fnd]; rw [if_pos hi]
theorem fnd_drop_out (l : List Sp) (k : Nat) (r : Int) (h : k < l.length) (hi : inS (l.getD k sp0) r = false) : fnd (l.drop k) r = fnd (l.drop (k + 1)) r := by
  rw [drop_getD l k h]; simp only [fnd]; rw [if_neg (by rw [hi]; exact Bool.false_ne_true)]
theorem fnd_skip (l : List Sp) (r : Int) : ∀ (n k : Nat), k + n ≤ l.length → (∀ i, k ≤ i → i < k + n → inS (l.getD i sp0) r = false) → fnd (l.drop k) r = fnd (l.drop (k + n)) r
  | 0, k, _, _ => rfl
  | n + 1, k, h, hi => by
    rw [fnd_drop_out l k r (by omega) (hi k (Nat.le_refl _) (by omega)), fnd_skip l r n (k + 1) (by omega) (fun i h1 h2 => hi i (by omega) (by omega))]
    rw [show k + 1 + n = k + (n + 1) by omega]
theorem fnd_none (l : List Sp) (r : Int) (h : ∀ i, i < l.length → inS (l.getD i sp0) r = false) : fnd l r = 0 := by
  have := fnd_skip l r l.length 0 (by omega) (fun i _ h2 => h i (by omega))
  simp at this
  rw [this]; rfl
theorem fnd_at (l : List Sp) (r : Int) (k : Nat) (hk : k < l.length) (h : ∀ i, i < k → inS (l.getD i sp0) r = false) (hi : inS (l.getD k sp0) r = true) : fnd l r = (l.getD k sp0).h := by
  have := fnd_skip l r k 0 (by omega) (fun i _ h2 => h i (by omega))
  simp at this
  rw [this, fnd_drop_in l k r hk hi]
/-- What Find answers. -/
def fndT (l : List Sp) (r : Int) : Int := if chk l = 0 then fnd l r else 0
theorem fndT_no {l : List Sp} (h : chk l = 20) (r : Int) : fndT l r = 0 := by unfold fndT; rw [if_neg]; omega
theorem fndT_yes {l : List Sp} (h : chk l = 0) (r : Int) : fndT l r = fnd l r := by unfold fndT; rw [if_pos h]

/-- In a table the ends rise. -/
theorem ok_next {l : List Sp} {n k : Nat} (h : okTo l n = true) (hk : k + 1 < n) : (l.getD k sp0).t < (l.getD (k + 1) sp0).f := by
  have h1 := okTo_at h (k + 1) hk
  simp only [okAt, folS, Bool.and_eq_true, Bool.or_eq_true, decide_eq_true_eq] at h1
  rcases h1.2.2 with h2 | h2
  · omega
  · simpa using h2.1
theorem ok_rise {l : List Sp} {n : Nat} (h : okTo l n = true) : ∀ (d i : Nat), i + d + 1 < n → (l.getD i sp0).t < (l.getD (i + d + 1) sp0).f
  | 0, i, hi => ok_next h hi
  | d + 1, i, hi => by
    have h1 := ok_rise h d i (by omega)
    have h2 := ok_next (k := i + d + 1) h (by omega)
    have h3 := okAt_may (okTo_at h (i + d + 1) (by omega))
    rw [show i + (d + 1) + 1 = i + d + 1 + 1 by omega]
    omega
theorem ok_lt {l : List Sp} {n i j : Nat} (h : okTo l n = true) (hij : i < j) (hj : j < n) : (l.getD i sp0).t < (l.getD j sp0).f := by
  have := ok_rise h (j - i - 1) i (by omega)
  rwa [show i + (j - i - 1) + 1 = j by omega] at this
/-- What a search for the first end that is no less finds. -/
theorem search_out {l : List Sp} (r : Int) (h : okTo l l.length = true) {m : Nat} (hm : m ≤ l.length) (h1 : m = 0 ∨ (l.getD (m - 1) sp0).t < r) (h2 : m = l.length ∨ inS (l.getD m sp0) r = false) (h3 : m = l.length ∨ r ≤ (l.getD m sp0).t) : fnd l r = 0 := by
  refine fnd_none l r fun i hi => ?_
  rw [inS_not]
  have hmi := okAt_may (okTo_at h i hi)
  rcases Nat.lt_trichotomy i m with hlt | rfl | hgt
  · rcases h1 with rfl | h1
    · omega
    · have : (l.getD i sp0).t ≤ (l.getD (m - 1) sp0).t := by
        rcases Nat.lt_or_ge i (m - 1) with h4 | h4
        · have := ok_lt h h4 (by omega)
          have := okAt_may (okTo_at h (m - 1) (by omega))
          omega
        · rw [show i = m - 1 by omega]; exact Int.le_refl _
      omega
  · rcases h2 with h2 | h2
    · omega
    · rw [inS_not] at h2; exact h2
  · have := ok_lt h hgt hi
    rcases h3 with h3 | h3
    · omega
    · omega
theorem search_in {l : List Sp} (r : Int) (h : okTo l l.length = true) {m : Nat} (hm : m < l.length) (hi : inS (l.getD m sp0) r = true) : fnd l r = (l.getD m sp0).h := by
  refine fnd_at l r m hm (fun i hlt => ?_) hi
  rw [inS_iff] at hi
  have := ok_lt h hlt hm
  rw [inS_not]
  omega

/-- How many numbers have something, from place k on counted. -/
def cntTo (l : List Sp) (q : Int) : Nat → Int
  | 0 => 0
  | k + 1 => cntTo l q k + (if (l.getD k sp0).h = q then (l.getD k sp0).t - (l.getD k sp0).f + 1 else 0)
theorem cnt_bound {l : List Sp} {q : Int} : ∀ {n : Nat}, okTo l n = true → 0 ≤ cntTo l q n ∧ cntTo l q n ≤ 1114112 * n
  | 0, _ => ⟨Int.le_refl _, by simp [cntTo]⟩
  | n + 1, h => by
    have h1 : okTo l n = true ∧ okAt l n = true := by simpa [okTo] using h
    obtain ⟨i1, i2⟩ := cnt_bound (q := q) h1.1
    have := okAt_may h1.2
    simp only [cntTo]
    split <;> (constructor <;> (try push_cast) <;> omega)
/-- What Count answers. -/
def cntT (l : List Sp) (q : Int) : Int := if chk l = 0 then cntTo l q l.length else 0
theorem cntT_no {l : List Sp} (h : chk l = 20) (q : Int) : cntT l q = 0 := by unfold cntT; rw [if_neg]; omega
theorem cntT_yes {l : List Sp} (h : chk l = 0) (q : Int) : cntT l q = cntTo l q l.length := by unfold cntT; rw [if_pos h]
end Go.Proofs.YticgeabmhmojfaaGreatDoor
/- The rows of the first plane's table, and firstPlane: it hands them back, whatever the world. -/
namespace Go.Proofs.YticgeabmhmojfaaGreatDoor
set_option maxRecDepth 100000
open Go.RowKit

def rowsL : List Sp := [
  ⟨0, 8, 6⟩, ⟨9, 13, 5⟩, ⟨14, 31, 6⟩, ⟨32, 32, 5⟩, ⟨33, 47, 4⟩, ⟨48, 57, 2⟩, ⟨58, 64, 4⟩, ⟨65, 90, 1⟩, ⟨91, 96, 4⟩, ⟨97, 122, 1⟩,
  ⟨123, 126, 4⟩, ⟨127, 132, 6⟩, ⟨133, 133, 5⟩, ⟨134, 159, 6⟩, ⟨160, 160, 5⟩, ⟨161, 169, 4⟩, ⟨170, 170, 1⟩, ⟨171, 172, 4⟩, ⟨173, 173, 6⟩, ⟨174, 177, 4⟩,
  ⟨178, 179, 2⟩, ⟨180, 180, 4⟩, ⟨181, 181, 1⟩, ⟨182, 184, 4⟩, ⟨185, 185, 2⟩, ⟨186, 186, 1⟩, ⟨187, 191, 4⟩, ⟨192, 214, 1⟩, ⟨215, 215, 4⟩, ⟨216, 246, 1⟩,
  ⟨247, 247, 4⟩, ⟨248, 383, 1⟩, ⟨700, 700, 1⟩, ⟨768, 772, 3⟩, ⟨774, 776, 3⟩, ⟨778, 780, 3⟩, ⟨803, 803, 3⟩, ⟨807, 808, 3⟩, ⟨832, 833, 7⟩, ⟨847, 847, 6⟩,
  ⟨902, 902, 1⟩, ⟨904, 906, 1⟩, ⟨908, 908, 1⟩, ⟨910, 929, 1⟩, ⟨931, 974, 1⟩]
def rowsU : List Sp := [
  ⟨1025, 1025, 1⟩, ⟨1040, 1103, 1⟩, ⟨1105, 1105, 1⟩, ⟨1488, 1514, 1⟩, ⟨1632, 1641, 2⟩, ⟨4352, 4370, 1⟩, ⟨4449, 4469, 1⟩, ⟨4520, 4546, 1⟩, ⟨8192, 8202, 5⟩, ⟨8203, 8207, 6⟩,
  ⟨8208, 8209, 4⟩, ⟨8232, 8233, 5⟩, ⟨8234, 8238, 6⟩, ⟨8239, 8239, 5⟩, ⟨8260, 8260, 4⟩, ⟨8287, 8287, 5⟩, ⟨8288, 8291, 6⟩, ⟨8298, 8303, 6⟩, ⟨8304, 8304, 2⟩, ⟨8308, 8313, 2⟩,
  ⟨8320, 8329, 2⟩, ⟨8486, 8486, 1⟩, ⟨8490, 8491, 1⟩, ⟨8544, 8555, 1⟩, ⟨8560, 8571, 1⟩, ⟨8722, 8722, 4⟩, ⟨12288, 12288, 5⟩, ⟨12353, 12436, 1⟩, ⟨12441, 12442, 3⟩, ⟨19968, 20223, 1⟩,
  ⟨44032, 55203, 1⟩, ⟨57344, 63743, 7⟩, ⟨64256, 64261, 1⟩, ⟨64976, 65007, 7⟩, ⟨65024, 65039, 6⟩, ⟨65279, 65279, 6⟩, ⟨65281, 65295, 4⟩, ⟨65296, 65305, 2⟩, ⟨65306, 65312, 4⟩, ⟨65313, 65338, 1⟩,
  ⟨65339, 65344, 4⟩, ⟨65345, 65370, 1⟩, ⟨65371, 65374, 4⟩, ⟨65529, 65532, 6⟩, ⟨65533, 65535, 7⟩]
/-- The first plane's rows. -/
def rowsA : List Sp := rowsL ++ rowsU

/-- A span's three cells; those of many. -/
def spc (s : Sp) : List Value := [.int .i32 s.f, .int .i32 s.t, .int .i64 s.h]
def spcs (l : List Sp) : List Value := l.flatMap spc
theorem spcs_length (l : List Sp) : (spcs l).length = l.length * 3 := by
  induction l with
  | nil => rfl
  | cons s l ih => simp [spcs, spc] at ih ⊢; omega
theorem spcs_append (a b : List Sp) : spcs (a ++ b) = spcs a ++ spcs b := by simp [spcs]
theorem spcs_get (l : List Sp) (k : Nat) (h : k < l.length) : (spcs l)[k * 3]? = some (.int .i32 (l.getD k sp0).f) ∧ (spcs l)[k * 3 + 1]? = some (.int .i32 (l.getD k sp0).t) ∧ (spcs l)[k * 3 + 2]? = some (.int .i64 (l.getD k sp0).h) := by
  induction l generalizing k with
  | nil => simp at h
  | cons s l ih =>
    cases k with
    | zero => simp [spcs, spc]
    | succ k =>
      have := ih k (by simpa using h)
      have e : spcs (s :: l) = spc s ++ spcs l := by simp [spcs]
      rw [e, show (k + 1) * 3 = 3 + k * 3 by omega, show 3 + k * 3 + 1 = 3 + (k * 3 + 1) by omega, show 3 + k * 3 + 2 = 3 + (k * 3 + 2) by omega]
      have hl : (spc s).length = 3 := rfl
      rw [List.getElem?_append_right (by omega), List.getElem?_append_right (by omega), List.getElem?_append_right (by omega), hl]
      simpa using this

/-- Builds, one behind the other: what the frame is behind them. -/
def runB (P : Program) : List Oper → Act → Option Act
  | [], a => some a
  | o :: rest, a =>
    match o.guard, o.op with
    | none, .build t parts =>
      match P.built t (parts.map fun (i, x) => (i, a.eval x)).toList with
      | some cells => runB P rest (a.put o.dst (.agg cells))
      | none => none
    | _, _ => none

theorem wpList_builds {P : Program} {ops : Array Oper} {Q : Exit → Act → World → Prop} {w : World} (l2 : List Oper) (a' : Act) : ∀ (l1 : List Oper) (a : Act), runB P l1 a = some a' → wpList P ops Q l2 a' w → wpList P ops Q (l1 ++ l2) a w
  | [], a, h, k => by
    simp only [runB, Option.some.injEq] at h
    subst h
    exact k
  | o :: rest, a, h, k => by
    unfold runB at h
    split at h
    · rename_i t parts hg ho
      split at h
      · rename_i cells hc
        exact wpList_buildTo hg t parts ho _ rfl cells hc (wpList_builds l2 a' rest _ h k)
      · cases h
    · cases h
theorem wpList_buildsN {P : Program} {ops : Array Oper} {Q : Exit → Act → World → Prop} {w : World} (n : Nat) {l : List Oper} {a : Act} (a' : Act) (l2 : List Oper) (h : runB P (l.take n) a = some a') (h2 : l.drop n = l2) (k : wpList P ops Q l2 a' w) : wpList P ops Q l a w := by
  subst h2
  have := wpList_builds (P := P) (ops := ops) (Q := Q) (w := w) (l.drop n) a' (l.take n) a h k
  rwa [List.take_append_drop] at this

def cellsA : Array Value := (spcs rowsA).toArray
def zerosA : Array Value := (spcs (List.replicate 90 ⟨0, 0, 0⟩)).toArray
def aggsA : List Value := rowsA.map fun s => .agg (spc s).toArray
def frameA (p : Value) : Act := { tmps := (p :: (aggsA ++ [.agg cellsA])).toArray, defers := [] }


set_option maxRecDepth 1000000 in
set_option maxHeartbeats 4000000 in
theorem firstPlane_any (w : World) : Calls Tryz.prog 37 #[] w fun e w' => e = .returned (.agg cellsA) ∧ w' = w.alloc (.cells cellsA 59) := by
  go_enter Tryz.func37, Tryz.ntmps37
  apply wp_seq_k; intro K0 hK0
  apply wp_region_lit
  refine Great.wpList_allocTo rfl (some 0) rfl (.pointer (some ⟨w.heap.size, 0, none⟩)) (.cells zerosA 59) (by kernel_rfl) ?_
  apply wpList_nil
  refine hK0 _ _ ?_
  clear hK0 K0
  apply wp_seq_k; intro K0 hK0
  apply wp_region_lit
  refine wpList_buildsN 91 (frameA (.pointer (some ⟨w.heap.size, 0, none⟩))) _ (by kernel_rfl) rfl ?_
  simp only [List.append_eq, List.cons_append, List.nil_append, List.drop_succ_cons, List.drop_zero]
  refine wpList_store_rowTo rfl 59 (.tmp 0) (.tmp 91) rfl rfl w.heap.size cellsA (by kernel_rfl) (by kernel_rfl) 59 zerosA (heap_alloc_last w _) (by kernel_rfl) (by kernel_rfl) (by kernel_rfl) ?_
  apply wpList_nil
  refine hK0 _ _ ?_
  clear hK0 K0
  rw [World.setRow_alloc_new]
  refine wp_ret ?_
  refine bodyPost_ret (results_cell_row (p := 0) (ty := 59) Tryz.results37 _ _ w.heap.size 59 cellsA (0, 0) _ (by kernel_rfl) (heap_alloc_last w _) Tryz.underlying59 rfl (by kernel_rfl)) rfl ⟨rfl, rfl⟩
end Go.Proofs.YticgeabmhmojfaaGreatDoor
