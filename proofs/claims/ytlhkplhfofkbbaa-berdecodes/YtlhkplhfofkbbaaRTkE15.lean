/- The document's take of layer 15, where the head tells an error or too much. -/
import Derived.Test.YtlhkplhfofkbbaaRAll15
import Derived.Handy
import Derived.Laws.NewBlocks
namespace Go.Proofs.Ytlhkplhfofkbbaa
open Go.RowKit

set_option maxHeartbeats 3200000 in
theorem rtake_err (s : ByteArray) (i : Nat) (lv : Int) (w : World) (hi : i ≤ s.size) (hs : s.size ≤ 10000) (hx : (headB ((nums s).drop i)).2.2 ≠ 0) :
    Calls Try.prog 32 #[.string s, .int .i64 i, .int .i64 lv] w fun r w' => ∃ v, r = .returned (.tuple #[v, .int .i64 0, .int .i64 (headB ((nums s).drop i)).2.2]) ∧ ElP (In w.heap.size w') w' el0 v ∧ Below w.heap.size w w' := by
  have HH := hide (fun W => rhead_any s i W hi (by omega))
  have dA : ∀ (W : World) (n : Nat) (o : Obj), (W.drewN n).alloc o = (W.alloc o).drewN n := fun _ _ _ => rfl
  have dS : ∀ (W : World) (n : Nat) (a : Addr) (v : Value), (W.drewN n).setCell a v = (W.setCell a v).drewN n := fun _ _ _ _ => rfl
  have zx : ((headB ((nums s).drop i)).2.2 == 0) = false := by simpa using hx
  generalize (headB ((nums s).drop i)).2.2 = x at *
  generalize (headB ((nums s).drop i)).2.1 = n at *
  generalize (headB ((nums s).drop i)).1 = h at *
  go_enter Try.func32, Try.ntmps32
  go_wp2_with (go_at_call 41; refine (unhide HH _).mono ?_; rintro r w1 ⟨rfl, q, rfl⟩)
  go_returns
  exact ⟨_, rfl, el0_P _ _, two_below _ _ _ _⟩
set_option maxHeartbeats 3200000 in
theorem rtake_short (s : ByteArray) (i : Nat) (lv : Int) (w : World) (hi : i ≤ s.size) (hs : s.size ≤ 10000) (hx : (headB ((nums s).drop i)).2.2 = 0) (hh0 : 0 ≤ (headB ((nums s).drop i)).1) (hh : (headB ((nums s).drop i)).1 ≤ 10000) (hn0 : 0 ≤ (headB ((nums s).drop i)).2.1) (hn1 : (headB ((nums s).drop i)).2.1 ≤ 70000)
    (h2 : (s.size : Int) - i - (headB ((nums s).drop i)).1 < (headB ((nums s).drop i)).2.1) :
    Calls Try.prog 32 #[.string s, .int .i64 i, .int .i64 lv] w fun r w' => ∃ v, r = .returned (.tuple #[v, .int .i64 0, .int .i64 150]) ∧ ElP (In w.heap.size w') w' el0 v ∧ Below w.heap.size w w' := by
  have HH := hide (fun W => rhead_any s i W hi (by omega))
  have dA : ∀ (W : World) (n : Nat) (o : Obj), (W.drewN n).alloc o = (W.alloc o).drewN n := fun _ _ _ => rfl
  have dS : ∀ (W : World) (n : Nat) (a : Addr) (v : Value), (W.drewN n).setCell a v = (W.setCell a v).drewN n := fun _ _ _ _ => rfl
  rw [hx] at HH
  clear hx
  generalize (headB ((nums s).drop i)).2.1 = n at *
  generalize (headB ((nums s).drop i)).1 = h at *
  have w1 : IntKind.i64.wrap ((s.size : Int) - i) = (s.size : Int) - i := wrap_in (by omega) (by omega)
  have w2 : IntKind.i64.wrap ((s.size : Int) - i - h) = (s.size : Int) - i - h := wrap_in (by omega) (by omega)
  go_enter Try.func32, Try.ntmps32
  go_wp2_with (go_at_call 41; refine (unhide HH _).mono ?_; rintro r w1 ⟨rfl, q, rfl⟩)
  go_returns
  exact ⟨_, rfl, el0_P _ _, two_below _ _ _ _⟩
set_option maxHeartbeats 3200000 in
theorem rtake_big (s : ByteArray) (i : Nat) (lv : Int) (w : World) (hi : i ≤ s.size) (hs : s.size ≤ 10000) (hx : (headB ((nums s).drop i)).2.2 = 0) (hh0 : 0 ≤ (headB ((nums s).drop i)).1) (hh : (headB ((nums s).drop i)).1 ≤ 10000) (hn0 : 0 ≤ (headB ((nums s).drop i)).2.1) (hn1 : (headB ((nums s).drop i)).2.1 ≤ 70000)
    (h2 : ¬ (s.size : Int) - i - (headB ((nums s).drop i)).1 < (headB ((nums s).drop i)).2.1) (h3 : 4000 < (headB ((nums s).drop i)).1 + (headB ((nums s).drop i)).2.1) :
    Calls Try.prog 32 #[.string s, .int .i64 i, .int .i64 lv] w fun r w' => ∃ v, r = .returned (.tuple #[v, .int .i64 0, .int .i64 3]) ∧ ElP (In w.heap.size w') w' el0 v ∧ Below w.heap.size w w' := by
  have HH := hide (fun W => rhead_any s i W hi (by omega))
  have dA : ∀ (W : World) (n : Nat) (o : Obj), (W.drewN n).alloc o = (W.alloc o).drewN n := fun _ _ _ => rfl
  have dS : ∀ (W : World) (n : Nat) (a : Addr) (v : Value), (W.drewN n).setCell a v = (W.setCell a v).drewN n := fun _ _ _ _ => rfl
  rw [hx] at HH
  clear hx
  generalize (headB ((nums s).drop i)).2.1 = n at *
  generalize (headB ((nums s).drop i)).1 = h at *
  have w1 : IntKind.i64.wrap ((s.size : Int) - i) = (s.size : Int) - i := wrap_in (by omega) (by omega)
  have w2 : IntKind.i64.wrap ((s.size : Int) - i - h) = (s.size : Int) - i - h := wrap_in (by omega) (by omega)
  have w3 : IntKind.i64.wrap (h + n) = h + n := wrap_in (by omega) (by omega)
  go_enter Try.func32, Try.ntmps32
  go_wp2_with (go_at_call 41; refine (unhide HH _).mono ?_; rintro r w1 ⟨rfl, q, rfl⟩)
  go_returns
  exact ⟨_, rfl, el0_P _ _, two_below _ _ _ _⟩
end Go.Proofs.Ytlhkplhfofkbbaa
