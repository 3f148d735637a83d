/- The document's take of layer 15, of a plain element. (Three minutes: the region that draws is walked in 24 ways.) -/
import Derived.Test.YtlhkplhfofkbbaaRTkE15
import Derived.Deep.RegionWith
namespace Go.Proofs.Ytlhkplhfofkbbaa
open Go.RowKit
set_option maxHeartbeats 12800000 in
theorem rtake_plain (s : ByteArray) (i h n : Nat) (lv : Int) (w : World) (hs : s.size ≤ 10000) (hH : headB ((nums s).drop i) = ((h : Int), (n : Int), 0)) (h1 : 1 ≤ h) (h2 : i + h + n ≤ s.size) (h3 : h + n ≤ 4000) (t : Int) (ht : (nums s).getD i 0 = t) (h4 : ¬ t / 32 % 2 = 1) :
    Calls Try.prog 32 #[.string s, .int .i64 i, .int .i64 lv] w fun r w' => ∃ v, r = .returned (.tuple #[v, .int .i64 ((i + h + n : Nat) : Int), .int .i64 0]) ∧ ElP (In w.heap.size w') w' (.mk (t / 64) false (t % 32) (s.extract (i + h) (i + h + n)) []) v ∧ Below w.heap.size w w' := by
  have HH := hide (fun W => rhead_any s i W (by omega) (by omega))
  rw [hH] at HH
  simp only at HH
  clear hH
  have dA : ∀ (W : World) (n : Nat) (o : Obj), (W.drewN n).alloc o = (W.alloc o).drewN n := fun _ _ _ => rfl
  have dS : ∀ (W : World) (n : Nat) (a : Addr) (v : Value), (W.drewN n).setCell a v = (W.setCell a v).drewN n := fun _ _ _ _ => rfl
  have i1 : i < s.size := by omega
  have j0 : (0 : Int) ≤ (i : Int) := by omega
  have j1 : (i : Int) < (s.size : Int) := by omega
  have hat := nums_at s i i1
  rw [ht] at hat
  have hb := (s[i]).toNat_lt
  have hc : (s[i].toNat : Int) = t := hat.symm
  have t0 : 0 ≤ t := by omega
  have t1 : t < 256 := by omega
  clear hat ht hb
  have w1 : IntKind.i64.wrap ((s.size : Int) - i) = (s.size : Int) - i := wrap_in (by omega) (by omega)
  have w2 : IntKind.i64.wrap ((s.size : Int) - i - h) = (s.size : Int) - i - h := wrap_in (by omega) (by omega)
  have w3 : IntKind.i64.wrap ((h : Int) + n) = (h : Int) + n := wrap_in (by omega) (by omega)
  have w4 : IntKind.i64.wrap ((i : Int) + h) = (i : Int) + h := wrap_in (by omega) (by omega)
  have w5 : IntKind.i64.wrap ((i : Int) + h + n) = (i : Int) + h + n := wrap_in (by omega) (by omega)
  have z2 : ¬ (s.size : Int) - i - h < n := by omega
  have z3 : ¬ (4000 : Int) < (h : Int) + n := by omega
  have u1 : IntKind.i64.wrap (t / 64) = t / 64 := wrap_in (by omega) (by omega)
  have u2 : IntKind.u8.wrap (t / 32) = t / 32 := by simp [IntKind.wrap, IntKind.bits, IntKind.signed] <;> omega
  have u3 : (t / 32).tmod 2 = t / 32 % 2 := Int.tmod_eq_emod_of_nonneg (by omega)
  have u4 : t.tmod 32 = t % 32 := Int.tmod_eq_emod_of_nonneg t0
  have u6 : IntKind.i64.wrap t = t := wrap_in (by omega) (by omega)
  have u7 : t.tdiv 64 = t / 64 := Int.tdiv_eq_ediv_of_nonneg t0
  have u8 : t.tdiv 32 = t / 32 := Int.tdiv_eq_ediv_of_nonneg t0
  have u5 : (t / 32 % 2 == 1) = false := by simpa using h4
  have s1 : (i : Int) + h ≤ (i : Int) + h + n := by omega
  have s2 : (i : Int) + h + n ≤ (s.size : Int) := by omega
  have s3 : (0 : Int) ≤ (i : Int) + h := by omega
  go_enter Try.func32, Try.ntmps32
  go_wp2_with (go_at_call 41; refine (unhide HH _).mono ?_; rintro r w1 ⟨rfl, q, rfl⟩)
  go_region_with (fail)
  all_goals (go_wp2; go_returns; refine ⟨_, ret_ve3 (by omega), ?_, ?_⟩)
  all_goals first | exact plain_P _ _ _ _ _ | exact three_below _ _ _ _ _
end Go.Proofs.Ytlhkplhfofkbbaa
