/- pieces.Check, pieces.Match. -/
import Derived.Test.YtddliikhjilngaaGreatDoorM23
import Derived.Test.YtddliikhjilngaaGreatDoorM24
import Derived.Lib.SlicesS
namespace Go.Proofs.YtddliikhjilngaaGreatDoor
set_option maxRecDepth 100000
open Go.RowKit

/-- Check, plainly. -/
def emptyIn (ss : List ByteArray) : Bool := Lib.containsS ss ByteArray.empty
def chk13 (a b : ByteArray) (ss : List ByteArray) (hi hf : Bool) : Bool :=
  fmd (bts a) (bts b) ss.length hi hf && !(hi && a.toList.isEmpty) && !(hf && b.toList.isEmpty) && !emptyIn ss
def chkI (a b : ByteArray) (ss : List ByteArray) (hi hf : Bool) : Int := if chk13 a b ss hi hf then 0 else 2
theorem txs_has {w : World} {v : Value} {ss : List ByteArray} (h : Txs w v ss) (x : ByteArray) : Calls Tryz.prog 14 #[v, .string x] w fun e w' => e = .returned (.bool (Lib.containsS ss x)) ∧ w' = w := by
  obtain ⟨a, cap, rfl, hn, hc⟩ := h
  rcases Nat.eq_zero_or_pos ss.length with h0 | h0
  · obtain rfl := List.eq_nil_of_length_eq_zero h0
    have : Lib.containsS [] x = false := by simp [Lib.containsS, Lib.idxOfS, Lib.idxFromS]
    rw [this]
    exact has13_empty a cap x w
  · obtain ⟨b, off, rfl, hcc⟩ := hc h0
    have := has13 b off ss.length cap ss x w (Nat.le_refl _) hn hcc
    rwa [List.take_length] at this
set_option maxHeartbeats 1000000 in
theorem check_any (a b : ByteArray) (v : Value) (ss : List ByteArray) (hi hf : Bool) (w : World) (hv : Txs w v ss) :
    Calls Tryz.prog 8 #[.agg #[.string a, v, .string b, .bool hi, .bool hf]] w fun e w' => e = .returned (.int .i64 (chkI a b ss hi hf)) ∧ Below w.heap.size w w' := by
  have HF : Hid (∀ W, Calls Tryz.prog 13 #[.agg #[.string a, v, .string b, .bool hi, .bool hf]] W fun e w' => e = .returned (.bool (fmd (bts a) (bts b) ss.length hi hf)) ∧ Below W.heap.size W w') := by
    obtain ⟨ad, cap, rfl, hn, hc⟩ := hv
    exact fun W => formed_any a b ad ss.length cap hi hf W hn
  have HC : Hid (∀ W, Below w.heap.size w W → Calls Tryz.prog 14 #[v, .string ⟨#[]⟩] W fun e w' => e = .returned (.bool (emptyIn ss)) ∧ W = w') :=
    fun W hW => (txs_has (hv.below hW) ByteArray.empty).mono fun e w' ⟨h1, h2⟩ => ⟨h1, h2.symm⟩
  have hb0 := Below.one w (.cells #[.string a, v, .string b, .bool hi, .bool hf] 29)
  have HE : Hid (chkI a b ss hi hf = if fmd (bts a) (bts b) ss.length hi hf && !(hi && a.toList.isEmpty) && !(hf && b.toList.isEmpty) && !emptyIn ss then 0 else 2) := rfl
  rw [unhide HE]
  clear HE
  obtain ⟨ad, cap, rfl, hn, hc⟩ := hv
  obtain ⟨c0, c1, c2, c3, c4⟩ := box13 w (.string a) (.slice ad ss.length cap) (.string b) (.bool hi) (.bool hf) 29
  clear hc hn
  generalize fmd (bts a) (bts b) ss.length hi hf = f at *
  generalize emptyIn ss = m at *
  rcases emp_cases a with ⟨ha, ha'⟩ | ⟨ha, ha'⟩ <;> rcases emp_cases b with ⟨hb, hb'⟩ | ⟨hb, hb'⟩ <;> rw [ha', hb'] <;> cases hi <;> cases hf <;> cases f <;> cases m
  all_goals
    go_enter Tryz.func8, Tryz.ntmps8
    go_wp2_with (first
      | (go_at_call 14; refine (unhide HC _ b2).mono ?_; rintro e w3 ⟨rfl, rfl⟩)
      | (go_at_call 13; refine (unhide HF _).mono ?_; rintro e w2 ⟨rfl, b1⟩; have b2 := below_new b1; obtain ⟨d0, d1, d2, d3, d4⟩ := kept13 b1 c0 c1 c2 c3 c4))
    go_ret
    exact ⟨rfl, below_new b1⟩
end Go.Proofs.YtddliikhjilngaaGreatDoor
