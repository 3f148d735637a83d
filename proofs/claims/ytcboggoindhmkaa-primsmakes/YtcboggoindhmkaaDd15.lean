/- The program's take of layer 15, where nothing is taken. -/
import Derived.Test.YtcboggoindhmkaaDc15
import Derived.Test.YtcboggoindhmkaaHlp15
import Derived.Handy
import Derived.Laws.NewBlocks
import Derived.Deep.RegionWith
import Derived.Deep.Cut
import Derived.Deep.CutRange
import Derived.Deep.DeepCutAuto
import Derived.Test.YtcboggoindhmkaaShelf15
namespace Go.Proofs.Ytcboggoindhmkaa
open Go.RowKit

/-- A box of five cells, none of them frozen. -/
structure Bx (B : Nat) (a0 a1 a2 a3 a4 : Value) (w : World) : Prop where
  c0 : w.cell? ⟨B, 0, none⟩ = some a0
  c1 : w.cell? ⟨B, 1, none⟩ = some a1
  c2 : w.cell? ⟨B, 2, none⟩ = some a2
  c3 : w.cell? ⟨B, 3, none⟩ = some a3
  c4 : w.cell? ⟨B, 4, none⟩ = some a4
  f0 : w.frozen? ⟨B, 0, none⟩ = false
  f1 : w.frozen? ⟨B, 1, none⟩ = false
  f2 : w.frozen? ⟨B, 2, none⟩ = false
  f3 : w.frozen? ⟨B, 3, none⟩ = false
  f4 : w.frozen? ⟨B, 4, none⟩ = false
theorem Bx.below {B : Nat} {a0 a1 a2 a3 a4 : Value} {w w2 : World} (h : Bx B a0 a1 a2 a3 a4 w) (hb : Below w.heap.size w w2) : Bx B a0 a1 a2 a3 a4 w2 := by
  have c : ∀ {p : Addr} {v : Value}, w.cell? p = some v → w2.cell? p = some v := fun hc => (hb.cell (cell_lt hc)).trans hc
  have f : ∀ {p : Addr} {v : Value}, w.cell? p = some v → w.frozen? p = false → w2.frozen? p = false := fun hc hf => (hb.frozen (cell_lt hc)).trans hf
  exact ⟨c h.c0, c h.c1, c h.c2, c h.c3, c h.c4, f h.c0 h.f0, f h.c1 h.f1, f h.c2 h.f2, f h.c3 h.f3, f h.c4 h.f4⟩
theorem Bx.new (w : World) (a0 a1 a2 a3 a4 : Value) (T : TypeId) : Bx w.heap.size a0 a1 a2 a3 a4 (w.alloc (.cells #[a0, a1, a2, a3, a4] T)) := by
  obtain ⟨k0, k1, k2, k3, k4⟩ := box5 (w := w) (T := T) (a0 := a0) (a1 := a1) (a2 := a2) (a3 := a3) (a4 := a4) (Gr.refl _)
  have fr : ∀ j, (w.alloc (.cells #[a0, a1, a2, a3, a4] T)).frozen? ⟨w.heap.size, j, none⟩ = false := fun j => by simp
  exact ⟨k0, k1, k2, k3, k4, fr 0, fr 1, fr 2, fr 3, fr 4⟩
/-- The box that a call begins with: an element that is none. -/
abbrev Zx (B : Nat) (w : World) : Prop := Bx B (.int .i64 0) (.bool false) (.int .i64 0) (.string ⟨#[]⟩) (.slice none 0 0) w
theorem set5_below {B : Nat} {w w1 : World} {g : Nat} (a0 a1 a2 a3 a4 : Value) (hg : B ≤ g) (h : Below B w w1) : Below B w (((((w1.setCell ⟨g, 0, none⟩ a0).setCell ⟨g, 1, none⟩ a1).setCell ⟨g, 2, none⟩ a2).setCell ⟨g, 3, none⟩ a3).setCell ⟨g, 4, none⟩ a4) :=
  ((((h.setCell hg _).setCell hg _).setCell hg _).setCell hg _).setCell hg _
theorem u8_and31 (y : Int) (h2 : 0 ≤ y) (h3 : y < 256) : bits .and .u8 y 31 = y % 32 := by
  obtain ⟨b, rfl⟩ := Int.eq_ofNat_of_zero_le h2
  have := u8_and_nat b 31 (by omega) (by omega)
  rw [nat_mask5] at this
  simpa using this
theorem and32 : ∀ b : Fin 256, b.val &&& 32 = b.val / 32 % 2 * 32 := by decide +kernel
theorem u8_and32 (y : Int) (h2 : 0 ≤ y) (h3 : y < 256) : bits .and .u8 y 32 = y / 32 % 2 * 32 := by
  obtain ⟨b, rfl⟩ := Int.eq_ofNat_of_zero_le h2
  have := u8_and_nat b 32 (by omega) (by omega)
  have h := and32 ⟨b, by omega⟩
  simp only at h
  rw [h] at this
  rw [show (32 : Int) = ((32 : Nat) : Int) from rfl, this]
  omega
set_option maxHeartbeats 1600000 in
theorem ptake_nil (s : ByteArray) (lv : Int) (w : World) (hs : s.size = 0) : Calls Try.prog 38 #[.string s, .int .i64 lv] w fun r w' => ∃ v, r = .returned (.tuple #[v, .int .i64 0, .int .i64 150]) ∧ ElP (In w.heap.size w') w' el0 v ∧ Below w.heap.size w w' := by
  have e1 := toList_none hs
  go_enter Try.func38, Try.ntmps38
  go_wp2
  go_returns
  exact ⟨_, rfl, el0_P _ _, Below.one w _⟩
set_option maxHeartbeats 1600000 in
theorem ptake_tag (s : ByteArray) (lv : Int) (w : World) (hs : 0 < s.size) (ht : (nums s).getD 0 0 % 32 = 31) : Calls Try.prog 38 #[.string s, .int .i64 lv] w fun r w' => ∃ v, r = .returned (.tuple #[v, .int .i64 0, .int .i64 151]) ∧ ElP (In w.heap.size w') w' el0 v ∧ Below w.heap.size w w' := by
  have e1 := toList_some hs
  have hat := nums_at s 0 hs
  obtain ⟨t0, t1⟩ := getD_nums s 0
  rw [hat] at ht t0 t1
  obtain ⟨t, hb⟩ : ∃ b : Int, (s[0].toNat : Int) = b := ⟨_, rfl⟩
  rw [hb] at ht t0 t1
  have o1 := u8_and31 t t0 t1
  have o2 : (30 : Int) < t % 32 := by omega
  clear hat ht
  go_enter Try.func38, Try.ntmps38
  go_wp2
  go_returns
  exact ⟨_, rfl, el0_P _ _, Below.one w _⟩
set_option maxHeartbeats 3200000 in
/-- The way behind a length that is none, or too great. -/
theorem ptake_out (s : ByteArray) (lv : Int) (w : World) (hs : 0 < s.size) (hs2 : s.size ≤ 10000) (ht : (nums s).getD 0 0 % 32 ≠ 31) (n k : Int) (x X : Int) (hL : lenB ((nums s).drop 1) = (n, k, x)) (hn : 0 ≤ n ∧ n ≤ 70000) (hk : 0 ≤ k ∧ k ≤ 3)
    (hp : (x ≠ 0 ∧ X = x) ∨ (x = 0 ∧ (s.size : Int) < 1 + k + n ∧ X = 150) ∨ (x = 0 ∧ ¬ (s.size : Int) < 1 + k + n ∧ 4000 < 1 + k + n ∧ X = 3)) : Calls Try.prog 38 #[.string s, .int .i64 lv] w fun r w' => ∃ v, r = .returned (.tuple #[v, .int .i64 0, .int .i64 X]) ∧ ElP (In w.heap.size w') w' el0 v ∧ Below w.heap.size w w' := by
  have e1 := toList_some hs
  have hat := nums_at s 0 hs
  obtain ⟨t0, t1⟩ := getD_nums s 0
  rw [hat] at ht t0 t1
  obtain ⟨t, hb⟩ : ∃ b : Int, (s[0].toNat : Int) = b := ⟨_, rfl⟩
  rw [hb] at ht t0 t1
  have o1 := u8_and31 t t0 t1
  have o2 : ¬ (30 : Int) < t % 32 := by omega
  have HLN := hide (length_any (s.extract 1 s.size) (w.alloc Z5))
  rw [nums_drop, hL] at HLN
  simp only at HLN
  have hbx := Bx.new w (.int .i64 0) (.bool false) (.int .i64 0) (.string ⟨#[]⟩) (.slice none 0 0) 26
  have HBX := hide hbx
  have l1 : (1 : Int) ≤ (s.size : Int) := by omega
  have w1 : IntKind.i64.wrap (1 + k) = 1 + k := wrap_in (by omega) (by omega)
  have w2 : IntKind.i64.wrap (1 + k + n) = 1 + k + n := wrap_in (by omega) (by omega)
  have hz : (w.alloc Z5).heap.size = w.heap.size + 1 := by simp
  clear hat ht hL hbx
  rcases hp with ⟨hx, rfl⟩ | ⟨rfl, h2, rfl⟩ | ⟨rfl, h2, h3, rfl⟩
  · have zx : (X == 0) = false := by simpa using hx
    go_enter Try.func38, Try.ntmps38
    go_wp2_with (go_at_call 47; refine (unhide HLN).mono ?_; rintro r w1 ⟨rfl, b1⟩; have bx := (unhide HBX).below b1; have q0 := bx.c0; have q1 := bx.c1; have q2 := bx.c2; have q3 := bx.c3; have q4 := bx.c4; have f0 := bx.f0; have f1 := bx.f1; have f2 := bx.f2; have f3 := bx.f3; have f4 := bx.f4; clear bx; have B1 := hide b1; clear b1)
    have bw := set5_below (.int .i64 0) (.bool false) (.int .i64 0) (.string ⟨#[]⟩) (.slice none 0 0) (Nat.le_refl w.heap.size) ((Below.one w Z5).trans ((unhide B1).mono (by rw [hz]; omega)))
    generalize hW : (((((w1.setCell ⟨w.heap.size, 0, none⟩ (.int .i64 0)).setCell ⟨w.heap.size, 1, none⟩ (.bool false)).setCell ⟨w.heap.size, 2, none⟩ (.int .i64 0)).setCell ⟨w.heap.size, 3, none⟩ (.string ⟨#[]⟩)).setCell ⟨w.heap.size, 4, none⟩ (.slice none 0 0)) = W9 at *
    obtain ⟨r0, r1, r2, r3, r4, ro⟩ := set5 _ _ _ _ _ q0 q1 q2 q3 q4 hW
    clear hW
    refine bodyPost_ret (by simp [results, Try.results38, go_sem, r0, r1, r2, r3, r4]; try rfl) rfl ?_
    exact ⟨_, rfl, el0_P _ _, bw⟩
  · go_enter Try.func38, Try.ntmps38
    go_wp2_with (go_at_call 47; refine (unhide HLN).mono ?_; rintro r w1 ⟨rfl, b1⟩; have bx := (unhide HBX).below b1; have q0 := bx.c0; have q1 := bx.c1; have q2 := bx.c2; have q3 := bx.c3; have q4 := bx.c4; have f0 := bx.f0; have f1 := bx.f1; have f2 := bx.f2; have f3 := bx.f3; have f4 := bx.f4; clear bx; have B1 := hide b1; clear b1)
    have bw := set5_below (.int .i64 0) (.bool false) (.int .i64 0) (.string ⟨#[]⟩) (.slice none 0 0) (Nat.le_refl w.heap.size) ((Below.one w Z5).trans ((unhide B1).mono (by rw [hz]; omega)))
    generalize hW : (((((w1.setCell ⟨w.heap.size, 0, none⟩ (.int .i64 0)).setCell ⟨w.heap.size, 1, none⟩ (.bool false)).setCell ⟨w.heap.size, 2, none⟩ (.int .i64 0)).setCell ⟨w.heap.size, 3, none⟩ (.string ⟨#[]⟩)).setCell ⟨w.heap.size, 4, none⟩ (.slice none 0 0)) = W9 at *
    obtain ⟨r0, r1, r2, r3, r4, ro⟩ := set5 _ _ _ _ _ q0 q1 q2 q3 q4 hW
    clear hW
    refine bodyPost_ret (by simp [results, Try.results38, go_sem, r0, r1, r2, r3, r4]; try rfl) rfl ?_
    exact ⟨_, rfl, el0_P _ _, bw⟩
  · go_enter Try.func38, Try.ntmps38
    go_wp2_with (go_at_call 47; refine (unhide HLN).mono ?_; rintro r w1 ⟨rfl, b1⟩; have bx := (unhide HBX).below b1; have q0 := bx.c0; have q1 := bx.c1; have q2 := bx.c2; have q3 := bx.c3; have q4 := bx.c4; have f0 := bx.f0; have f1 := bx.f1; have f2 := bx.f2; have f3 := bx.f3; have f4 := bx.f4; clear bx; have B1 := hide b1; clear b1)
    have bw := set5_below (.int .i64 0) (.bool false) (.int .i64 0) (.string ⟨#[]⟩) (.slice none 0 0) (Nat.le_refl w.heap.size) ((Below.one w Z5).trans ((unhide B1).mono (by rw [hz]; omega)))
    generalize hW : (((((w1.setCell ⟨w.heap.size, 0, none⟩ (.int .i64 0)).setCell ⟨w.heap.size, 1, none⟩ (.bool false)).setCell ⟨w.heap.size, 2, none⟩ (.int .i64 0)).setCell ⟨w.heap.size, 3, none⟩ (.string ⟨#[]⟩)).setCell ⟨w.heap.size, 4, none⟩ (.slice none 0 0)) = W9 at *
    obtain ⟨r0, r1, r2, r3, r4, ro⟩ := set5 _ _ _ _ _ q0 q1 q2 q3 q4 hW
    clear hW
    refine bodyPost_ret (by simp [results, Try.results38, go_sem, r0, r1, r2, r3, r4]; try rfl) rfl ?_
    exact ⟨_, rfl, el0_P _ _, bw⟩
end Go.Proofs.Ytcboggoindhmkaa
