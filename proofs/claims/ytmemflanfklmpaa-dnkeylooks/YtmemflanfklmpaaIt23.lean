/- The landed iterator over a key's parts. -/
import Derived.Test.YtmemflanfklmpaaPa23
import Derived.Test.YtmemflanfklmpaaShelf23
import Derived.RangeFuncNested
import Derived.RangeFuncBound
import Derived.RangeFuncCalls
import Derived.RangeFuncLeaves
import Derived.RangeFuncBox
import Derived.Shelf.Abstract
import Derived.OwnWalkIn
import Derived.TacticsInMore
import Derived.LoopNIn
import Derived.LoopIn
import Derived.OrdersIn
namespace Go.Proofs.Ytmemflanfklmpaa
open Go.RowKit
attribute [local go_sem] Oper.semAt_some

/-- A text that is not too long. -/
abbrev Sh := { x : ByteArray // x.size ≤ 20000 }
def enc23 (x : Sh) : Array Value := #[.string x.1]
/-- What a round must leave: nothing. -/
def Kt23 (_ _ : World) : Prop := True
def szv : Value → Nat
  | .string s => s.size
  | _ => 0
theorem mkParts (s : ByteArray) (w : World) : Calls Try.prog 25 #[.string s] w fun e w' => e = .returned (.func (.func 29) #[] #[.pointer (some ⟨w.heap.size, 0, none⟩)]) ∧ w' = w.alloc (.cells #[.string s] 9) := by
  have hmf : ∀ (fn : Fn) (first cap : Array Value) (w : World), (Instr.makeFunc fn first cap).run Try.prog w = .ok (.func fn first cap) w := fun _ _ _ _ => rfl
  go_enter Try.func25, Try.ntmps25
  go_wp2
  go_ret
  exact ⟨rfl, rfl⟩
set_option maxHeartbeats 2000000 in
theorem parts1_any (n l Bs : Nat) (s : ByteArray) (hs : s.size ≤ 20000) (J Jx : List Sh → World → Prop)
    (hY : ∀ pre x W, J pre W → pre.length < (prtS s).length → YieldAt Fence.wide (n - 1) Try.prog l (enc23 x) W fun e W' =>
      (e = .returned (.bool true) ∧ J (pre ++ [x]) W' ∧ Kt23 W W') ∨ (e = .returned (.bool false) ∧ Jx (pre ++ [x]) W'))
    (W : World) (hBs : W.cell? ⟨Bs, 0, none⟩ = some (.string s)) (h0 : J [] W) :
    CallsIn Fence.wide n Try.prog 29 #[.func (.yield l) #[] #[], .pointer (some ⟨Bs, 0, none⟩)] W fun e W' => (∃ v, e = .returned v) ∧
      ((∃ ys : List Sh, ys.map (·.1) = prtS s ∧ J ys W') ∨ (∃ pre : List Sh, pre.map (·.1) <+: prtS s ∧ Jx pre W')) := by
  have HY := hide hY
  clear hY
  refine callsIn_of_wp Try.func29 rfl trivial ?_ rfl
  simp only [Try.ntmps29, List.size_toArray, List.length_cons, List.length_nil, Nat.reduceAdd, Nat.reduceSub, Array.replicate_succ, Array.replicate_zero, List.push_toArray, List.append_toArray, List.nil_append, List.cons_append]
  gi_wp2
  gi_loopw [3] (fun x wr => ∃ (t : ByteArray) (pre : List Sh), x = .string t ∧ t.size ≤ s.size ∧ Hid (prtS s = pre.map (·.1) ++ prtS t) ∧ J pre wr) (fun x _ => szv x)
  case atStart => exact ⟨s, [], rfl, Nat.le_refl _, rfl, h0⟩
  case round =>
    obtain ⟨t, pre, rfl, hts, HP, hJs⟩ := hrel
    by_cases h1 : t.size = 0
    · have et : t = ⟨#[]⟩ := by
        have := bts_len t
        rw [← ofb_bts t, List.length_eq_zero_iff.1 (this.trans h1)]
      have hp := unhide HP
      rw [prtS_none t h1, List.append_nil] at hp
      subst et
      gi_wp2
      go_end0
      exact ⟨⟨_, rfl⟩, .inl ⟨pre, hp.symm, hJs⟩⟩
    · have he : t.toList.isEmpty = false := by
        rw [Lib.toList_data]
        cases h : t.data.toList with
        | nil => exact absurd (by rw [← bts_len t]; show t.data.toList.length = 0; rw [h]; rfl) h1
        | cons a b => rfl
      have he2 : (t.toList == []) = false := by rw [← he]; cases t.toList <;> rfl
      obtain ⟨k, hk0, hkl, hix, hpt⟩ := part_at t h1
      have hp := unhide HP
      rw [hpt] at hp
      obtain ⟨fn, tmps, assign, body, hy, hR⟩ := unhide HY pre ⟨t.extract 0 k, by simp; omega⟩ wr hJs (by rw [hp]; simp)
      have HR := hide hR
      have HN : Hid (prtS s = (pre ++ [(⟨t.extract 0 k, by simp; omega⟩ : Sh)]).map (·.1) ++ prtS (t.extract k t.size)) := by
        show _ = _
        rw [hp]
        simp
      have CI := hide (fun W => ixb_any t 0 W)
      have H1 := hide h1
      unfold enc23 at hy
      dsimp only at hy
      clear hp hpt hR HP HY h1
      have zk0 : (0 : Int) ≤ (k : Int) := by omega
      have zkl : (k : Int) ≤ (t.size : Int) := by omega
      have zkn : ((k : Int) == 0) = false := by rw [beq_eq_false_iff_ne]; omega
      have zks : (t.extract k t.size).size = t.size - k := by simp
      have hsl : (t.size : Int) ≤ 20000 := by omega
      rcases hix with hi | ⟨hi, hkk⟩
      · have CI2 : Hid (∀ W, Calls Try.prog 30 #[.string t, .int .u8 0] W fun e w' => e = .returned (.int .i64 ((k : Int) - 1)) ∧ W = w') := fun W => by
          have := unhide CI W
          rwa [show (0 : Int).toNat.toUInt8 = 0 from rfl, hi] at this
        clear CI hi
        gi_wp2_with (refine ⟨trivial, ⟨fun hd => (by cases hd), ?_⟩⟩; gi_at_call 30; refine (callsIn_wide.2 (unhide CI2 _)).mono ?_; rintro e w' ⟨rfl, rfl⟩)
        refine ⟨fun hd => (by cases hd), (unhide HR).mono ?_⟩
        rintro e W3 (⟨rfl, hJ3, _⟩ | ⟨rfl, hJx3⟩)
        · gi_wp2
          go_roundw
          case rel => exact ⟨t.extract k t.size, _, rfl, by omega, unhide HN, hJ3⟩
          case measure => have := unhide H1; simp [szv]; omega
        · gi_wp2
          refine bodyPost_ret (results_none rfl _ _ _) rfl ?_
          exact ⟨⟨_, rfl⟩, .inr ⟨_, ⟨prtS (t.extract k t.size), (unhide HN).symm⟩, hJx3⟩⟩
      · subst hkk
        have CI2 : Hid (∀ W, Calls Try.prog 30 #[.string t, .int .u8 0] W fun e w' => e = .returned (.int .i64 (-1)) ∧ W = w') := fun W => by
          have := unhide CI W
          rwa [show (0 : Int).toNat.toUInt8 = 0 from rfl, hi] at this
        clear CI hi
        have e1 : t.extract 0 t.size = t := by simp
        have HN2 : Hid (prtS s = (pre ++ [(⟨t, by omega⟩ : Sh)]).map (·.1) ++ prtS ByteArray.empty) := by
          have := unhide HN
          rw [show t.extract t.size t.size = ByteArray.empty by simp] at this
          simp only [e1] at this
          exact this
        simp only [e1] at HR hy
        have zkk : IntKind.i64.wrap (-1 + 1) = 0 := by decide
        gi_wp2_with (refine ⟨trivial, ⟨fun hd => (by cases hd), ?_⟩⟩; gi_at_call 30; refine (callsIn_wide.2 (unhide CI2 _)).mono ?_; rintro e w' ⟨rfl, rfl⟩)
        refine ⟨fun hd => (by cases hd), (unhide HR).mono ?_⟩
        rintro e W3 (⟨rfl, hJ3, _⟩ | ⟨rfl, hJx3⟩)
        · gi_wp2
          go_roundw
          case rel => exact ⟨ByteArray.empty, _, rfl, Nat.zero_le _, unhide HN2, hJ3⟩
          case measure => have := unhide H1; simp [szv]; omega
        · gi_wp2
          refine bodyPost_ret (results_none rfl _ _ _) rfl ?_
          exact ⟨⟨_, rfl⟩, .inr ⟨_, ⟨prtS ByteArray.empty, (unhide HN2).symm⟩, hJx3⟩⟩
/-- What parts hands back goes through the parts of a text. -/
theorem parts_stops (n Bs : Nat) (s : ByteArray) (hs : s.size ≤ 20000) (w : World) (hBs : Bs < w.heap.size) (hc : w.cell? ⟨Bs, 0, none⟩ = some (.string s)) :
    SeqStopsK Fence.wide n Try.prog 29 #[.pointer (some ⟨Bs, 0, none⟩)] enc23 Kt23 (fun ys => ys.map (·.1) = prtS s) (fun pre => pre.map (·.1) <+: prtS s) (prtS s).length w := fun l J Jx W hW _ _ hY h0 =>
  parts1_any n l Bs s hs J Jx hY W ((hW.cell (p := ⟨Bs, 0, none⟩) hBs).trans hc) h0
end Go.Proofs.Ytmemflanfklmpaa
