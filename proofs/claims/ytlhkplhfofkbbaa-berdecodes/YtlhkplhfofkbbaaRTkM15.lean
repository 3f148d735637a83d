/- The document's take of layer 15, of an element that is made of others. -/
import Derived.Test.YtlhkplhfofkbbaaRTkP15
import Derived.Test.YtlhkplhfofkbbaaRDcd15
import Derived.Deep.RegionWith
import Derived.Deep.Cut
import Derived.Deep.CutRange
import Derived.Deep.DeepCutAuto
namespace Go.Proofs.Ytlhkplhfofkbbaa
open Go.RowKit
abbrev M5 (t : Int) : Obj := .cells #[.int .i64 (t / 64), .bool true, .int .i64 (t % 32), .string ⟨#[]⟩, .slice none 0 0] 26
theorem cell_drewN (w : World) (q : Nat) (a : Addr) : (w.drewN q).cell? a = w.cell? a := rfl
theorem box_at {w : World} (cs : Array Value) (T : TypeId) (o2 o3 : Obj) (q j : Nat) (v : Value) (h : cs[j]? = some v) : ((((w.alloc (.cells cs T)).alloc o2).alloc o3).drewN q).cell? ⟨w.heap.size, j, none⟩ = some v := by
  rw [cell_drewN]
  have := ((Gr.one (w.alloc (.cells cs T)) o2).alloc o3).cell (p := ⟨w.heap.size, j, none⟩) (v := v) (by rw [World.cell?_alloc_mark]; exact h)
  exact this
theorem box_at1 {w : World} (cs : Array Value) (T : TypeId) (o1 o3 : Obj) (q j : Nat) (v : Value) (h : cs[j]? = some v) : ((((w.alloc o1).alloc (.cells cs T)).alloc o3).drewN q).cell? ⟨w.heap.size + 1, j, none⟩ = some v := by
  rw [cell_drewN]
  have e : (w.alloc o1).heap.size = w.heap.size + 1 := by simp
  have := (Gr.one ((w.alloc o1).alloc (.cells cs T)) o3).cell (p := ⟨w.heap.size + 1, j, none⟩) (v := v) (by rw [← e, World.cell?_alloc_mark]; exact h)
  exact this
theorem box_at2 {w : World} (cs : Array Value) (T : TypeId) (o1 o2 : Obj) (q j : Nat) (v : Value) (h : cs[j]? = some v) : ((((w.alloc o1).alloc o2).alloc (.cells cs T)).drewN q).cell? ⟨w.heap.size + 2, j, none⟩ = some v := by
  rw [cell_drewN]
  have e : ((w.alloc o1).alloc o2).heap.size = w.heap.size + 2 := by simp
  rw [← e, World.cell?_alloc_mark]; exact h
theorem box_free (w : World) (c1 c2 c3 : Array Value) (T : TypeId) (q g j : Nat) (h0 : w.heap.size ≤ g) (h1 : g < w.heap.size + 3) : ((((w.alloc (.cells c1 T)).alloc (.cells c2 T)).alloc (.cells c3 T)).drewN q).frozen? ⟨g, j, none⟩ = false := by
  show (((w.alloc (.cells c1 T)).alloc (.cells c2 T)).alloc (.cells c3 T)).frozen? ⟨g, j, none⟩ = false
  obtain rfl | rfl | rfl : g = w.heap.size ∨ g = w.heap.size + 1 ∨ g = w.heap.size + 2 := by omega
  · rw [World.frozen?_alloc_past _ _ _ (by simp; omega), World.frozen?_alloc_past _ _ _ (by simp), World.frozen?_alloc_at _ _ _ _ rfl]
  · rw [World.frozen?_alloc_past _ _ _ (by simp), World.frozen?_alloc_at _ _ _ _ (by simp)]
  · rw [World.frozen?_alloc_at _ _ _ _ (by simp)]
/-- What the boxes of take hold behind a call. -/
structure Boxes (B : Nat) (t : Int) (w : World) : Prop where
  a0 : w.cell? ⟨B, 0, none⟩ = some (.int .i64 0)
  a1 : w.cell? ⟨B, 1, none⟩ = some (.bool false)
  a2 : w.cell? ⟨B, 2, none⟩ = some (.int .i64 0)
  a3 : w.cell? ⟨B, 3, none⟩ = some (.string ⟨#[]⟩)
  a4 : w.cell? ⟨B, 4, none⟩ = some (.slice none 0 0)
  b0 : w.cell? ⟨B + 1, 0, none⟩ = some (.int .i64 0)
  b1 : w.cell? ⟨B + 1, 1, none⟩ = some (.bool false)
  b2 : w.cell? ⟨B + 1, 2, none⟩ = some (.int .i64 0)
  b3 : w.cell? ⟨B + 1, 3, none⟩ = some (.string ⟨#[]⟩)
  b4 : w.cell? ⟨B + 1, 4, none⟩ = some (.slice none 0 0)
  c0 : w.cell? ⟨B + 2, 0, none⟩ = some (.int .i64 (t / 64))
  c1 : w.cell? ⟨B + 2, 1, none⟩ = some (.bool true)
  c2 : w.cell? ⟨B + 2, 2, none⟩ = some (.int .i64 (t % 32))
  c3 : w.cell? ⟨B + 2, 3, none⟩ = some (.string ⟨#[]⟩)
  c4 : w.cell? ⟨B + 2, 4, none⟩ = some (.slice none 0 0)
  f0 : w.frozen? ⟨B, 0, none⟩ = false
  f1 : w.frozen? ⟨B, 1, none⟩ = false
  f2 : w.frozen? ⟨B, 2, none⟩ = false
  f3 : w.frozen? ⟨B, 3, none⟩ = false
  f4 : w.frozen? ⟨B, 4, none⟩ = false
  g4 : w.frozen? ⟨B + 2, 4, none⟩ = false
theorem Boxes.below {B : Nat} {t : Int} {w w2 : World} (h : Boxes B t w) (hb : Below w.heap.size w w2) : Boxes B t w2 := by
  have c : ∀ {p : Addr} {v : Value}, w.cell? p = some v → w2.cell? p = some v := fun hc => (hb.cell (cell_lt hc)).trans hc
  have f : ∀ {p : Addr} {v : Value}, w.cell? p = some v → w.frozen? p = false → w2.frozen? p = false := fun hc hf => (hb.frozen (cell_lt hc)).trans hf
  exact ⟨c h.a0, c h.a1, c h.a2, c h.a3, c h.a4, c h.b0, c h.b1, c h.b2, c h.b3, c h.b4, c h.c0, c h.c1, c h.c2, c h.c3, c h.c4, f h.a0 h.f0, f h.a1 h.f1, f h.a2 h.f2, f h.a3 h.f3, f h.a4 h.f4, f h.c4 h.g4⟩
theorem boxes_new (w : World) (t : Int) (q : Nat) : Boxes w.heap.size t ((((w.alloc Z5).alloc Z5).alloc (M5 t)).drewN q) :=
  ⟨box_at _ _ _ _ q _ _ rfl, box_at _ _ _ _ q _ _ rfl, box_at _ _ _ _ q _ _ rfl, box_at _ _ _ _ q _ _ rfl, box_at _ _ _ _ q _ _ rfl,
   box_at1 _ _ _ _ q _ _ rfl, box_at1 _ _ _ _ q _ _ rfl, box_at1 _ _ _ _ q _ _ rfl, box_at1 _ _ _ _ q _ _ rfl, box_at1 _ _ _ _ q _ _ rfl,
   box_at2 _ _ _ _ q _ _ rfl, box_at2 _ _ _ _ q _ _ rfl, box_at2 _ _ _ _ q _ _ rfl, box_at2 _ _ _ _ q _ _ rfl, box_at2 _ _ _ _ q _ _ rfl,
   box_free w _ _ _ _ q _ _ (by omega) (by omega), box_free w _ _ _ _ q _ _ (by omega) (by omega), box_free w _ _ _ _ q _ _ (by omega) (by omega), box_free w _ _ _ _ q _ _ (by omega) (by omega), box_free w _ _ _ _ q _ _ (by omega) (by omega), box_free w _ _ _ _ q _ _ (by omega) (by omega)⟩
set_option maxHeartbeats 12800000 in
theorem rtake_made (s : ByteArray) (i h n : Nat) (lv : Int) (w : World) (hs : s.size ≤ 10000) (hH : headB ((nums s).drop i) = ((h : Int), (n : Int), 0)) (h1 : 1 ≤ h) (h2 : i + h + n ≤ s.size) (h3 : h + n ≤ 4000) (t : Int) (ht : (nums s).getD i 0 = t) (h4 : t / 32 % 2 = 1) (hl0 : 1 ≤ lv) (hl1 : lv ≤ 12)
    (y : Int) (l : List El) (TO X : Int) (E : El) (hp : (lv = 12 ∧ 0 < n ∧ TO = 0 ∧ X = 153 ∧ E = el0) ∨ ((¬ lv = 12 ∨ n = 0) ∧ (∀ W : World, Calls Try.prog 35 #[.string (s.extract (i + h) (i + h + n)), .int .i64 (lv + 1)] W fun r w' => ∃ v, r = .returned (.tuple #[v, .int .i64 y]) ∧ EsP (In W.heap.size w') w' v l ∧ Below W.heap.size W w') ∧ ((y ≠ 0 ∧ TO = 0 ∧ X = y ∧ E = el0) ∨ (y = 0 ∧ TO = ((i + h + n : Nat) : Int) ∧ X = 0 ∧ E = .mk (t / 64) true (t % 32) ⟨#[]⟩ l)))) :
    Calls Try.prog 32 #[.string s, .int .i64 i, .int .i64 lv] w fun r w' => ∃ v, r = .returned (.tuple #[v, .int .i64 TO, .int .i64 X]) ∧ ElP (In w.heap.size w') w' E v ∧ Below w.heap.size w w' := by
  have HH := hide (fun W => rhead_any s i W (by omega) (by omega))
  rw [hH] at HH
  simp only at HH
  clear hH
  have dA : ∀ (W : World) (n : Nat) (o : Obj), (W.drewN n).alloc o = (W.alloc o).drewN n := fun _ _ _ => rfl
  have dS : ∀ (W : World) (n : Nat) (a : Addr) (v : Value), (W.drewN n).setCell a v = (W.setCell a v).drewN n := fun _ _ _ _ => rfl
  have i1 : i < s.size := by omega
  have j0 : (0 : Int) ≤ (i : Int) := by omega
  have j1 : (i : Int) < (s.size : Int) := by omega
  have hat := nums_at s i i1
  rw [ht] at hat
  have hb := (s[i]).toNat_lt
  have hc : (s[i].toNat : Int) = t := hat.symm
  have t0 : 0 ≤ t := by omega
  have t1 : t < 256 := by omega
  clear hat ht hb
  have w1 : IntKind.i64.wrap ((s.size : Int) - i) = (s.size : Int) - i := wrap_in (by omega) (by omega)
  have w2 : IntKind.i64.wrap ((s.size : Int) - i - h) = (s.size : Int) - i - h := wrap_in (by omega) (by omega)
  have w3 : IntKind.i64.wrap ((h : Int) + n) = (h : Int) + n := wrap_in (by omega) (by omega)
  have w4 : IntKind.i64.wrap ((i : Int) + h) = (i : Int) + h := wrap_in (by omega) (by omega)
  have w5 : IntKind.i64.wrap ((i : Int) + h + n) = (i : Int) + h + n := wrap_in (by omega) (by omega)
  have w6 : IntKind.i64.wrap (lv + 1) = lv + 1 := wrap_in (by omega) (by omega)
  have z2 : ¬ (s.size : Int) - i - h < n := by omega
  have z3 : ¬ (4000 : Int) < (h : Int) + n := by omega
  have k1 : IntKind.i64.wrap (t / 64) = t / 64 := wrap_in (by omega) (by omega)
  have k2 : IntKind.u8.wrap (t / 32) = t / 32 := by simp [IntKind.wrap, IntKind.bits, IntKind.signed] <;> omega
  have k3 : (t / 32).tmod 2 = t / 32 % 2 := Int.tmod_eq_emod_of_nonneg (by omega)
  have k4 : t.tmod 32 = t % 32 := Int.tmod_eq_emod_of_nonneg t0
  have k6 : IntKind.i64.wrap t = t := wrap_in (by omega) (by omega)
  have k7 : t.tdiv 64 = t / 64 := Int.tdiv_eq_ediv_of_nonneg t0
  have k8 : t.tdiv 32 = t / 32 := Int.tdiv_eq_ediv_of_nonneg t0
  have k5 : (t / 32 % 2 == 1) = true := by simpa using h4
  have s1 : (i : Int) + h ≤ (i : Int) + h + n := by omega
  have s2 : (i : Int) + h + n ≤ (s.size : Int) := by omega
  have s3 : (0 : Int) ≤ (i : Int) + h := by omega
  clear h4
  have HP := hide hp
  clear hp
  go_enter Try.func32, Try.ntmps32
  go_upto_region 9 with (go_at_call 41; refine (unhide HH _).mono ?_; rintro r w1 ⟨rfl, q, rfl⟩)
  go_cut [13] from 43 to 59 (fun v13 wx => v13 = .pointer (some ⟨w.heap.size + 2, 0, none⟩) ∧ ∃ q2, wx = (((w.alloc Z5).alloc Z5).alloc (M5 t)).drewN q2)
  case first =>
    go_region_with (fail)
    all_goals (go_wp2_with fail; go_meet; exact ⟨rfl, _, rfl⟩)
  case rest =>
    obtain ⟨rfl, q2, rfl⟩ := hcut
    clear HH dA dS w1 w2 w3 z2 z3 k1 k2 k3 k4 k5 k6 k7 k8 hc
    have bw3 : Below w.heap.size w ((((w.alloc Z5).alloc Z5).alloc (M5 t)).drewN q2) := three_below _ _ _ _ _
    have hz3 : ((((w.alloc Z5).alloc Z5).alloc (M5 t)).drewN q2).heap.size = w.heap.size + 3 := by simp
    have bx := boxes_new w t q2
    generalize (((w.alloc Z5).alloc Z5).alloc (M5 t)).drewN q2 = W3 at *
    have BW := hide bw3
    clear bw3
    have HZ := hide hz3
    clear hz3
    have BX := hide bx
    have x1 := bx.c1
    rcases unhide HP with ⟨d1, d2, rfl, rfl, rfl⟩ | ⟨d0, HA0, hy⟩
    · have e1 : (lv == 12) = true := by simpa using d1
      have e2 : (0 : Int) < (n : Int) := by omega
      have x2 := bx.b0
      have x3 := bx.b1
      have x4 := bx.b2
      have x5 := bx.b3
      have x6 := bx.b4
      have y0 := bx.a0
      have y1 := bx.a1
      have y2 := bx.a2
      have y3 := bx.a3
      have y4 := bx.a4
      have f0 := bx.f0
      have f1 := bx.f1
      have f2 := bx.f2
      have f3 := bx.f3
      have f4 := bx.f4
      clear bx d1 d2 HP
      go_wp2
      have bw : Below w.heap.size w (((((W3.setCell ⟨w.heap.size, 0, none⟩ (.int .i64 0)).setCell ⟨w.heap.size, 1, none⟩ (.bool false)).setCell ⟨w.heap.size, 2, none⟩ (.int .i64 0)).setCell ⟨w.heap.size, 3, none⟩ (.string ⟨#[]⟩)).setCell ⟨w.heap.size, 4, none⟩ (.slice none 0 0)) :=
        ((((((unhide BW).setCell (Nat.le_refl _) _).setCell (Nat.le_refl _) _).setCell (Nat.le_refl _) _).setCell (Nat.le_refl _) _).setCell (Nat.le_refl _) _)
      generalize hW : (((((W3.setCell ⟨w.heap.size, 0, none⟩ (.int .i64 0)).setCell ⟨w.heap.size, 1, none⟩ (.bool false)).setCell ⟨w.heap.size, 2, none⟩ (.int .i64 0)).setCell ⟨w.heap.size, 3, none⟩ (.string ⟨#[]⟩)).setCell ⟨w.heap.size, 4, none⟩ (.slice none 0 0)) = W9 at *
      obtain ⟨r0, r1, r2, r3, r4, ro⟩ := set5 _ _ _ _ _ y0 y1 y2 y3 y4 hW
      clear hW
      refine bodyPost_ret (by simp [results, Try.results32, go_sem, r0, r1, r2, r3, r4]; try rfl) rfl ?_
      exact ⟨_, rfl, el0_P _ _, bw⟩
    · clear bx
      have HA := hide HA0
      clear HA0
      clear HP
      have HG : Hid ((lv == 12) = false ∨ ((lv == 12) = true ∧ decide ((0 : Int) < (n : Int)) = false)) := by
        show _ ∨ _
        rcases d0 with d | d
        · exact .inl (by simpa using d)
        · by_cases d3 : lv = 12
          · exact .inr ⟨by simpa using d3, by simp [d]⟩
          · exact .inl (by simpa using d3)
      clear d0
      rcases hy with ⟨hy0, rfl, rfl, rfl⟩ | ⟨rfl, rfl, rfl, rfl⟩
      · have ey : (X == 0) = false := by simpa using hy0
        clear hy0
        rcases unhide HG with e1 | ⟨e1, e2⟩
        · clear HG
          go_wp2_with (go_at_call 35; refine (unhide HA W3).mono ?_; rintro r w1 ⟨v1, rfl, p1, b1⟩; obtain ⟨ad1, cap1, rfl⟩ := p1.shape; have by_ := (unhide BX).below b1; have x2 := by_.b0; have x3 := by_.b1; have x4 := by_.b2; have x5 := by_.b3; have x6 := by_.b4; have y0 := by_.a0; have y1 := by_.a1; have y2 := by_.a2; have y3 := by_.a3; have y4 := by_.a4; have f0 := by_.f0; have f1 := by_.f1; have f2 := by_.f2; have f3 := by_.f3; have f4 := by_.f4; have g4 := by_.g4; have v0 := by_.c0; have v1 := by_.c1; have v2 := by_.c2; have v3 := by_.c3; have v4 := by_.c4; have PP := hide p1; clear p1; have BY := hide by_; clear by_; have B1 := hide b1; clear b1)
          have bw : Below w.heap.size w (((((w1.setCell ⟨w.heap.size, 0, none⟩ (.int .i64 0)).setCell ⟨w.heap.size, 1, none⟩ (.bool false)).setCell ⟨w.heap.size, 2, none⟩ (.int .i64 0)).setCell ⟨w.heap.size, 3, none⟩ (.string ⟨#[]⟩)).setCell ⟨w.heap.size, 4, none⟩ (.slice none 0 0)) :=
            (((((((unhide BW).trans ((unhide B1).mono (by rw [unhide HZ]; omega))).setCell (Nat.le_refl _) _).setCell (Nat.le_refl _) _).setCell (Nat.le_refl _) _).setCell (Nat.le_refl _) _).setCell (Nat.le_refl _) _)
          generalize hW : (((((w1.setCell ⟨w.heap.size, 0, none⟩ (.int .i64 0)).setCell ⟨w.heap.size, 1, none⟩ (.bool false)).setCell ⟨w.heap.size, 2, none⟩ (.int .i64 0)).setCell ⟨w.heap.size, 3, none⟩ (.string ⟨#[]⟩)).setCell ⟨w.heap.size, 4, none⟩ (.slice none 0 0)) = W9 at *
          obtain ⟨r0, r1, r2, r3, r4, ro⟩ := set5 _ _ _ _ _ y0 y1 y2 y3 y4 hW
          clear hW
          refine bodyPost_ret (by simp [results, Try.results32, go_sem, r0, r1, r2, r3, r4]; try rfl) rfl ?_
          exact ⟨_, rfl, el0_P _ _, bw⟩
        · clear HG
          have e3 : ¬ (0 : Int) < (n : Int) := by simpa using e2
          go_wp2_with (go_at_call 35; refine (unhide HA W3).mono ?_; rintro r w1 ⟨v1, rfl, p1, b1⟩; obtain ⟨ad1, cap1, rfl⟩ := p1.shape; have by_ := (unhide BX).below b1; have x2 := by_.b0; have x3 := by_.b1; have x4 := by_.b2; have x5 := by_.b3; have x6 := by_.b4; have y0 := by_.a0; have y1 := by_.a1; have y2 := by_.a2; have y3 := by_.a3; have y4 := by_.a4; have f0 := by_.f0; have f1 := by_.f1; have f2 := by_.f2; have f3 := by_.f3; have f4 := by_.f4; have g4 := by_.g4; have v0 := by_.c0; have v1 := by_.c1; have v2 := by_.c2; have v3 := by_.c3; have v4 := by_.c4; have PP := hide p1; clear p1; have BY := hide by_; clear by_; have B1 := hide b1; clear b1)
          have bw : Below w.heap.size w (((((w1.setCell ⟨w.heap.size, 0, none⟩ (.int .i64 0)).setCell ⟨w.heap.size, 1, none⟩ (.bool false)).setCell ⟨w.heap.size, 2, none⟩ (.int .i64 0)).setCell ⟨w.heap.size, 3, none⟩ (.string ⟨#[]⟩)).setCell ⟨w.heap.size, 4, none⟩ (.slice none 0 0)) :=
            (((((((unhide BW).trans ((unhide B1).mono (by rw [unhide HZ]; omega))).setCell (Nat.le_refl _) _).setCell (Nat.le_refl _) _).setCell (Nat.le_refl _) _).setCell (Nat.le_refl _) _).setCell (Nat.le_refl _) _)
          generalize hW : (((((w1.setCell ⟨w.heap.size, 0, none⟩ (.int .i64 0)).setCell ⟨w.heap.size, 1, none⟩ (.bool false)).setCell ⟨w.heap.size, 2, none⟩ (.int .i64 0)).setCell ⟨w.heap.size, 3, none⟩ (.string ⟨#[]⟩)).setCell ⟨w.heap.size, 4, none⟩ (.slice none 0 0)) = W9 at *
          obtain ⟨r0, r1, r2, r3, r4, ro⟩ := set5 _ _ _ _ _ y0 y1 y2 y3 y4 hW
          clear hW
          refine bodyPost_ret (by simp [results, Try.results32, go_sem, r0, r1, r2, r3, r4]; try rfl) rfl ?_
          exact ⟨_, rfl, el0_P _ _, bw⟩
      · rcases unhide HG with e1 | ⟨e1, e2⟩
        · clear HG
          go_wp2_with (go_at_call 35; refine (unhide HA W3).mono ?_; rintro r w1 ⟨v1, rfl, p1, b1⟩; obtain ⟨ad1, cap1, rfl⟩ := p1.shape; have by_ := (unhide BX).below b1; have x2 := by_.b0; have x3 := by_.b1; have x4 := by_.b2; have x5 := by_.b3; have x6 := by_.b4; have y0 := by_.a0; have y1 := by_.a1; have y2 := by_.a2; have y3 := by_.a3; have y4 := by_.a4; have f0 := by_.f0; have f1 := by_.f1; have f2 := by_.f2; have f3 := by_.f3; have f4 := by_.f4; have g4 := by_.g4; have v0 := by_.c0; have v1 := by_.c1; have v2 := by_.c2; have v3 := by_.c3; have v4 := by_.c4; have PP := hide p1; clear p1; have BY := hide by_; clear by_; have B1 := hide b1; clear b1)
          have bw : Below w.heap.size w ((((((w1.setCell ⟨w.heap.size + 2, 4, none⟩ (.slice ad1 l.length cap1)).setCell ⟨w.heap.size, 0, none⟩ (.int .i64 (t / 64))).setCell ⟨w.heap.size, 1, none⟩ (.bool true)).setCell ⟨w.heap.size, 2, none⟩ (.int .i64 (t % 32))).setCell ⟨w.heap.size, 3, none⟩ (.string ⟨#[]⟩)).setCell ⟨w.heap.size, 4, none⟩ (.slice ad1 l.length cap1)) :=
            (((((((unhide BW).trans ((unhide B1).mono (by rw [unhide HZ]; omega))).setCell (Nat.le_add_right _ _) _).setCell (Nat.le_refl _) _).setCell (Nat.le_refl _) _).setCell (Nat.le_refl _) _).setCell (Nat.le_refl _) _).setCell (Nat.le_refl _) _
          have hsz : ((((((w1.setCell ⟨w.heap.size + 2, 4, none⟩ (.slice ad1 l.length cap1)).setCell ⟨w.heap.size, 0, none⟩ (.int .i64 (t / 64))).setCell ⟨w.heap.size, 1, none⟩ (.bool true)).setCell ⟨w.heap.size, 2, none⟩ (.int .i64 (t % 32))).setCell ⟨w.heap.size, 3, none⟩ (.string ⟨#[]⟩)).setCell ⟨w.heap.size, 4, none⟩ (.slice ad1 l.length cap1)).heap.size = w1.heap.size := by simp
          have oth : ∀ p : Addr, p.block ≠ w.heap.size + 2 → (w1.setCell ⟨w.heap.size + 2, 4, none⟩ (.slice ad1 l.length cap1)).cell? p = w1.cell? p := fun p hp => World.cell?_setCell_other _ _ _ _ (fun e => hp (by rw [← e]))
          generalize hW : ((((((w1.setCell ⟨w.heap.size + 2, 4, none⟩ (.slice ad1 l.length cap1)).setCell ⟨w.heap.size, 0, none⟩ (.int .i64 (t / 64))).setCell ⟨w.heap.size, 1, none⟩ (.bool true)).setCell ⟨w.heap.size, 2, none⟩ (.int .i64 (t % 32))).setCell ⟨w.heap.size, 3, none⟩ (.string ⟨#[]⟩)).setCell ⟨w.heap.size, 4, none⟩ (.slice ad1 l.length cap1)) = W9 at *
          obtain ⟨r0, r1, r2, r3, r4, ro⟩ := set5 _ _ _ _ _ ((oth _ (by simp)).trans y0) ((oth _ (by simp)).trans y1) ((oth _ (by simp)).trans y2) ((oth _ (by simp)).trans y3) ((oth _ (by simp)).trans y4) hW
          clear hW
          refine bodyPost_ret (by simp [results, Try.results32, go_sem, r0, r1, r2, r3, r4]; try rfl) rfl ?_
          have hz := unhide HZ
          refine ⟨_, ret_ve3 (by omega), made_P _ _ (unhide PP) (fun g hg => ⟨by have := hg.1; omega, by rw [hsz]; exact hg.2⟩) (fun g off u hg hc => ?_), bw⟩
          have h5 : W3.heap.size ≤ g := hg.1
          exact ((ro ⟨g, off, none⟩ (by show g ≠ _; omega)).trans (oth ⟨g, off, none⟩ (by show g ≠ _; omega))).trans hc
        · clear HG
          have e3 : ¬ (0 : Int) < (n : Int) := by simpa using e2
          go_wp2_with (go_at_call 35; refine (unhide HA W3).mono ?_; rintro r w1 ⟨v1, rfl, p1, b1⟩; obtain ⟨ad1, cap1, rfl⟩ := p1.shape; have by_ := (unhide BX).below b1; have x2 := by_.b0; have x3 := by_.b1; have x4 := by_.b2; have x5 := by_.b3; have x6 := by_.b4; have y0 := by_.a0; have y1 := by_.a1; have y2 := by_.a2; have y3 := by_.a3; have y4 := by_.a4; have f0 := by_.f0; have f1 := by_.f1; have f2 := by_.f2; have f3 := by_.f3; have f4 := by_.f4; have g4 := by_.g4; have v0 := by_.c0; have v1 := by_.c1; have v2 := by_.c2; have v3 := by_.c3; have v4 := by_.c4; have PP := hide p1; clear p1; have BY := hide by_; clear by_; have B1 := hide b1; clear b1)
          have bw : Below w.heap.size w ((((((w1.setCell ⟨w.heap.size + 2, 4, none⟩ (.slice ad1 l.length cap1)).setCell ⟨w.heap.size, 0, none⟩ (.int .i64 (t / 64))).setCell ⟨w.heap.size, 1, none⟩ (.bool true)).setCell ⟨w.heap.size, 2, none⟩ (.int .i64 (t % 32))).setCell ⟨w.heap.size, 3, none⟩ (.string ⟨#[]⟩)).setCell ⟨w.heap.size, 4, none⟩ (.slice ad1 l.length cap1)) :=
            (((((((unhide BW).trans ((unhide B1).mono (by rw [unhide HZ]; omega))).setCell (Nat.le_add_right _ _) _).setCell (Nat.le_refl _) _).setCell (Nat.le_refl _) _).setCell (Nat.le_refl _) _).setCell (Nat.le_refl _) _).setCell (Nat.le_refl _) _
          have hsz : ((((((w1.setCell ⟨w.heap.size + 2, 4, none⟩ (.slice ad1 l.length cap1)).setCell ⟨w.heap.size, 0, none⟩ (.int .i64 (t / 64))).setCell ⟨w.heap.size, 1, none⟩ (.bool true)).setCell ⟨w.heap.size, 2, none⟩ (.int .i64 (t % 32))).setCell ⟨w.heap.size, 3, none⟩ (.string ⟨#[]⟩)).setCell ⟨w.heap.size, 4, none⟩ (.slice ad1 l.length cap1)).heap.size = w1.heap.size := by simp
          have oth : ∀ p : Addr, p.block ≠ w.heap.size + 2 → (w1.setCell ⟨w.heap.size + 2, 4, none⟩ (.slice ad1 l.length cap1)).cell? p = w1.cell? p := fun p hp => World.cell?_setCell_other _ _ _ _ (fun e => hp (by rw [← e]))
          generalize hW : ((((((w1.setCell ⟨w.heap.size + 2, 4, none⟩ (.slice ad1 l.length cap1)).setCell ⟨w.heap.size, 0, none⟩ (.int .i64 (t / 64))).setCell ⟨w.heap.size, 1, none⟩ (.bool true)).setCell ⟨w.heap.size, 2, none⟩ (.int .i64 (t % 32))).setCell ⟨w.heap.size, 3, none⟩ (.string ⟨#[]⟩)).setCell ⟨w.heap.size, 4, none⟩ (.slice ad1 l.length cap1)) = W9 at *
          obtain ⟨r0, r1, r2, r3, r4, ro⟩ := set5 _ _ _ _ _ ((oth _ (by simp)).trans y0) ((oth _ (by simp)).trans y1) ((oth _ (by simp)).trans y2) ((oth _ (by simp)).trans y3) ((oth _ (by simp)).trans y4) hW
          clear hW
          refine bodyPost_ret (by simp [results, Try.results32, go_sem, r0, r1, r2, r3, r4]; try rfl) rfl ?_
          have hz := unhide HZ
          refine ⟨_, ret_ve3 (by omega), made_P _ _ (unhide PP) (fun g hg => ⟨by have := hg.1; omega, by rw [hsz]; exact hg.2⟩) (fun g off u hg hc => ?_), bw⟩
          have h5 : W3.heap.size ≤ g := hg.1
          exact ((ro ⟨g, off, none⟩ (by show g ≠ _; omega)).trans (oth ⟨g, off, none⟩ (by show g ≠ _; omega))).trans hc
end Go.Proofs.Ytlhkplhfofkbbaa
